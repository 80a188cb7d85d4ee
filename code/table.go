package code

import "strconv"

// row is what the chapter's table says of an Op.
type row struct {
	name  string
	names int // how many of A and B
	least int // the height, but for the values that A or B counts
	grows int // likewise
}

var table = [...]row{
	Int:    {"Int", 1, 0, 1},
	Str:    {"Str", 1, 0, 1},
	Float:  {"Float", 1, 0, 1},
	Unit:   {"Unit", 0, 0, 1},
	Local:  {"Local", 1, 0, 1},
	Free:   {"Free", 1, 0, 1},
	Self:   {"Self", 0, 0, 1},
	Global: {"Global", 1, 0, 1},
	Set:    {"Set", 1, 1, -1},
	Prim:   {"Prim", 1, 0, 1},
	Con:    {"Con", 2, 0, 1},
	Tup:    {"Tup", 1, 0, 1},
	Close:  {"Close", 2, 0, 1},
	Apply:  {"Apply", 0, 2, -1},
	Ret:    {"Ret", 0, 2, 0},
	Jump:   {"Jump", 1, 0, 0},
	Unless: {"Unless", 1, 1, -1},
	Pop:    {"Pop", 0, 1, -1},
	Slide:  {"Slide", 1, 1, 0},
	Field:  {"Field", 1, 1, 0},
	IsInt:  {"IsInt", 2, 1, -1},
	IsStr:  {"IsStr", 2, 1, -1},
	IsCon:  {"IsCon", 2, 1, -1},
	Raise:  {"Raise", 0, 1, 0},
	Try:    {"Try", 1, 0, 0},
	EndTry: {"EndTry", 0, 0, 0},
	Begin:  {"Begin", 0, 0, 0},
	Commit: {"Commit", 0, 0, 0},
	Halt:   {"Halt", 0, 0, 0},
}

// isStep: is it one of the table's?
func isStep(in Ins) bool { return in.Op >= 0 && in.Op < len(table) }

// name is an Op's; what is none has its number.
func name(in Ins) string {
	if !isStep(in) {
		return strconv.Itoa(in.Op)
	}
	return table[in.Op].name
}

// operands are those of A and B that the table names.
func operands(in Ins) []int {
	if !isStep(in) {
		return nil
	}
	return []int{in.A, in.B}[:table[in.Op].names]
}

// unnamed are the others.
func unnamed(in Ins) []int {
	return []int{in.A, in.B}[len(operands(in)):]
}

// counted is how many values A or B says that go, beside those of the table.
func counted(in Ins) int {
	switch in.Op {
	case Con, Close:
		return in.B
	case Tup, Slide:
		return in.A
	}
	return 0
}
