package code

import (
	"fmt"
	"slices"
	"strings"
	"testing"

	"scriptor/api"
)

func TestExamples(t *testing.T) {
	for src, want := range map[string]bool{"Int 1; Halt": true, "Pop; Halt": false, "Int 1; Unless 0; Halt": true} {
		c := asm(src)
		verdict(t, c, src, want)
		verdict(t, Code{Ins: c.Ins, Funs: []int{0}}, src, want)
	}
}

// all is asked of many pieces of code, that are all in order, or all not.
func all(t *testing.T, want bool, l ...string) {
	t.Helper()
	for _, src := range l {
		verdict(t, asm(src), src, want)
	}
}

// TestSteps: of each Op what must hold, at its edges.
func TestSteps(t *testing.T) {
	most, least := 1<<62-1, -1<<62
	for _, step := range []string{"Int %d", "Int 0; IsInt %d 2"} {
		for _, n := range []int{0, -1, most, least} {
			all(t, true, fmt.Sprintf(step, n)+"; Halt")
		}
		for _, n := range []int{most + 1, least - 1, 1<<63 - 1, -1 << 63} {
			all(t, false, fmt.Sprintf(step, n)+"; Halt")
		}
	}
	last := len(strs()) - 1
	all(t, true, "Str 0; Halt", fmt.Sprintf("Str %d; Halt", last), "Float 1; Halt", "Float 2; Halt", "Float 5; Halt", "Unit; Halt")
	all(t, false, fmt.Sprintf("Str %d; Halt", last+1), "Str -1; Halt", "Float 0; Halt", "Float 3; Halt", "Float 4; Halt", "Float 6; Halt", "Float 7; Halt", "Float 8; Halt", fmt.Sprintf("Float %d; Halt", last+1), "Float -1; Halt")
	all(t, true, "Unit; Local 0; Halt", "Unit; Unit; Local 1; Halt", "Halt | Local 0; Ret", "Halt | Unit; Local 1; Pop; Ret")
	all(t, false, "Local 0; Halt", "Unit; Local 1; Halt", "Unit; Local -1; Halt", "Halt | Local 1; Ret", "Halt | Local -1; Ret")
	all(t, true, "Halt | Self; Ret", "Unit; Halt | Self; Apply; Unit; Ret")
	all(t, false, "Self; Halt", "Close 1 0; Self; Halt | Self; Ret")
	all(t, true, "Global 0; Halt", "Global 2; Halt", "Unit; Set 0; Halt", "Unit; Set 2; Halt", "Halt | Global 1; Ret", "Halt | Unit; Set 2; Unit; Ret")
	all(t, false, "Global 3; Halt", "Global -1; Halt", "Unit; Set 3; Halt", "Unit; Set -1; Halt", "Set 0; Halt")
	all(t, true, "Prim 0; Halt", "Prim 39; Halt")
	all(t, false, "Prim 40; Halt", "Prim -1; Halt")
	all(t, true, "Con 0; Halt", "Con 255; Halt", "Unit; Con 1 1; Halt", "Unit; Unit; Con 1 1; Tup 2; Halt", strings.Repeat("Unit; ", 8)+"Con 0 8; Halt", strings.Repeat("Unit; ", 8)+"Tup 8; Halt", "Unit; Unit; Tup 2; Halt")
	all(t, false, "Con 256; Halt", "Con -1; Halt", "Con 0 1; Halt", "Con 0 -1; Halt", "Unit; Con 0 2; Halt", strings.Repeat("Unit; ", 9)+"Con 0 9; Halt", strings.Repeat("Unit; ", 9)+"Tup 9; Halt")
	all(t, false, "Unit; Tup 2; Halt", "Unit; Tup 1; Halt", "Tup 0; Halt", "Tup -1; Halt", "Unit; Unit; Con 0 2; Tup 2; Halt", "Unit; Unit; Tup 2; Pop; Pop; Halt")
	all(t, true, "Unit; Unit; Apply; Halt", "Unit; Unit; Apply; Pop; Halt")
	all(t, false, "Apply; Halt", "Unit; Apply; Halt", "Unit; Unit; Apply; Apply; Halt")
	all(t, true, "Unit; Pop; Halt", "Unit; Slide 0; Halt", "Unit; Unit; Slide 1; Halt", "Unit; Unit; Unit; Slide 2; Pop; Halt")
	all(t, false, "Pop; Halt", "Slide 0; Halt", "Unit; Slide 1; Halt", "Unit; Slide -1; Halt", "Unit; Unit; Slide 2; Halt", "Unit; Unit; Slide 1; Tup 2; Halt", "Unit; Slide 9223372036854775807; Halt", "Unit; Slide -9223372036854775808; Halt")
	all(t, true, "Unit; Field 0; Halt", "Unit; Field 7; Pop; Halt")
	all(t, false, "Field 0; Halt", "Unit; Field 8; Halt", "Unit; Field -1; Halt", "Unit; Field 0; Pop; Pop; Halt")
	all(t, true, "Unit; Raise", "Begin; Try 4; Unit; Raise; Unit; Raise", "Halt | Raise")
	all(t, false, "Raise", "Unit; Pop; Raise", "Halt | Pop; Raise")
	all(t, true, "Halt", "Unit; Unit; Halt", "Halt | Unit; Ret")
	all(t, false, "Halt | Halt", "Halt | Unit; Halt", "Begin; Halt", "Try 0; Halt", "Try 2; Halt; Halt")
	all(t, false, "Ret", "Unit; Unit; Ret", "Halt | Ret", "Halt | Unit; Unit; Ret", "Halt | Pop; Ret", "Halt | Unit; Begin; Ret", "Halt | Unit; Try 3; Ret; Raise")
	all(t, false, "29; Halt", "-1; Halt", "Int 1; 99; Halt", "9223372036854775807; Halt", "-9223372036854775808; Halt")
}

// TestWhereStepsGo: to the next one, and to those that are named.
func TestWhereStepsGo(t *testing.T) {
	all(t, true, "Jump 1; Halt", "Jump 2; 99; Halt", "Jump 0", "Jump 3; Unit; Halt; Jump 1")
	all(t, false, "Jump 2; Halt", "Jump -1; Halt", "Unit; Jump 0", "Jump 9223372036854775807; Halt", "Unit; Pop", "Unit", "Unit; Pop; Jump 4; Halt")
	for _, ask := range []string{"Unless %d", "IsInt 0 %d", "IsStr 0 %d", "IsCon 255 %d"} {
		for src, want := range map[string]bool{
			"Unit; " + fmt.Sprintf(ask, 2) + "; Halt": true, "Unit; " + fmt.Sprintf(ask, 0) + "; Halt": true, "Unit; Unit; " + fmt.Sprintf(ask, 4) + "; Pop; Unit; Pop; Halt": false,
			"Unit; Unit; " + fmt.Sprintf(ask, 5) + "; Pop; Unit; Pop; Halt": true, fmt.Sprintf(ask, 1) + "; Halt": false, "Unit; " + fmt.Sprintf(ask, 1) + "; Halt": false,
			"Unit; " + fmt.Sprintf(ask, 3) + "; Halt": false, "Unit; " + fmt.Sprintf(ask, -1) + "; Halt": false, "Unit; " + fmt.Sprintf(ask, 3) + "; Unit; Halt": false,
			"Unit; " + fmt.Sprintf(ask, 0): false, "Unit; " + fmt.Sprintf(ask, 4) + "; Unit; Raise; Unit; Halt": true,
		} {
			all(t, want, src)
		}
	}
	all(t, false, "Unit; IsInt 4611686018427387904 2; Halt", "Unit; IsStr 9 2; Halt", "Unit; IsStr -1 2; Halt", "Unit; IsCon 256 2; Halt", "Unit; IsCon -1 2; Halt")
	// The others don't go on.
	all(t, true, "Halt; 99", "Halt; Pop", "Halt; Jump -5", "Unit; Raise; Pop", "Halt; Str 99", "Halt; Close 9 300", "Halt | Unit; Ret; Apply")
	// Functions don't share steps, and each has its own first one.
	all(t, false, "Unit; Halt | Jump 1", "Jump 1 | Unit; Ret", "Halt | Jump 3 | Unit; Ret", "Jump 2; Halt | Jump 1", "Halt | Unit; Pop; Jump 6 | Unit; Pop; Unit; Ret")
	for _, funs := range [][]int{{0, 1, 1}, {0, 0}, {1, 1}, {0, -1}, {0, 5}, {5}, {-1}, {1 << 62}, {0, 3}, nil, {}} {
		c := asm("Halt | Unit; Ret")
		c.Funs = funs
		verdict(t, c, fmt.Sprint(funs), false)
	}
	// They may stand in any order, and nobody needs to close them.
	c := asm("Unit; Ret | Close 1 0; Halt | Free 0; Ret; Close 2 1")
	c.Funs = []int{2, 0, 4}
	verdict(t, c, "any order", true)
	all(t, false, "Halt | Pop; Pop; Ret")
}

func TestBrackets(t *testing.T) {
	all(t, true,
		"Begin; Commit; Halt", "Begin; Begin; Commit; Commit; Halt", "Try 3; EndTry; Halt; Halt", "Try 3; EndTry; Unit; Halt", "Try 4; EndTry; Unit; Jump 4; Pop; Halt",
		"Try 5; Begin; Commit; EndTry; Halt; Halt", "Begin; Try 6; EndTry; Unit; Commit; Halt; Commit; Halt", "Try 5; Try 6; EndTry; EndTry; Halt; Raise; EndTry; Raise",
		// a way that comes back to a bracket's first step, with the same ones open
		"Begin; Unit; Unless 1; Commit; Halt", "Begin; Commit; Jump 0", "Begin; Jump 1", "Halt | Begin; Commit; Unit; Ret", "Halt | Unit; Try 5; EndTry; Ret; Slide 1; Ret",
		// two ways into one bracket's inner part, by two steps that open the same
		"Unit; Unless 4; Begin; Jump 5; Begin; Commit; Halt", "Unit; Unless 4; Try 7; Jump 5; Try 7; EndTry; Halt; Raise",
		// what is raised goes on with the brackets that were open ahead of it
		"Begin; Try 4; Begin; Jump 3; Commit; Halt", "Begin; Try 5; EndTry; Commit; Halt; Pop; Jump 3",
	)
	all(t, false,
		"Begin; Halt", "Begin; EndTry; Halt", "Commit; Halt", "EndTry; Halt", "Try 3; Commit; Halt; Halt", "Begin; Commit; Commit; Halt", "Try 4; EndTry; EndTry; Halt; Halt", "Begin; Try 5; Commit; EndTry; Halt; Halt",
		"Try 4; Begin; EndTry; Commit; Halt", "Begin; Jump 0", "Begin; Unit; Unless 0; Commit; Halt", "Try 0; EndTry; Halt", "Try 1; EndTry; Halt", "Try 2; EndTry; Halt", "Try 9; EndTry; Halt", "Try -1; EndTry; Halt", "Try 2; EndTry; Jump 1",
		"Unit; Unless 4; Begin; Jump 5; Unit; Commit; Halt", "Unit; Unless 4; Begin; Jump 5; Try 7; Commit; Halt; Raise", "Unit; Unless 4; Try 7; Jump 5; Try 8; EndTry; Halt; Raise; Raise", "Unit; Unless 5; Begin; Begin; Jump 6; Begin; Commit; Jump 6",
		"Unit; Unless 5; Begin; Try 8; Jump 7; Try 8; Begin; Jump 7; Raise",
		"Try 3; EndTry; Halt; Commit; Halt", "Begin; Try 4; EndTry; Commit; Halt", "Begin; Try 4; Jump 2; Halt; Halt", "Halt | Begin; Unit; Ret", "Halt | Commit; Unit; Ret",
		// Try's A has one more than there is ahead of it
		"Try 3; EndTry; Halt; Pop; Pop; Halt", "Unit; Try 4; EndTry; Halt; Apply; Pop; Pop; Halt", "Halt | Try 4; EndTry; Unit; Unit; Ret",
	)
}

func TestClosed(t *testing.T) {
	all(t, true,
		"Close 1 0; Halt | Unit; Ret", "Unit; Close 1 1; Halt | Free 0; Ret", "Unit; Unit; Close 1 2; Halt | Free 1; Ret", strings.Repeat("Unit; ", 200)+"Close 1 200; Halt | Free 199; Ret",
		"Unit; Close 1 1; Pop; Unit; Close 1 1; Halt | Free 0; Ret", "Halt | Unit; Close 1 1; Ret", "Halt | Local 0; Close 2 1; Ret | Free 0; Ret", "Unit; Close 2 1; Close 1 0; Halt | Unit; Ret | Free 0; Ret",
		// Closes that nobody comes to count
		"Halt; Close 1 3 | Free 2; Ret", "Unit; Close 1 1; Halt; Close 1 1 | Free 0; Ret", "Halt; Close 1 300 | Free 299; Ret", "Halt; Close 7 1; Close 7 2", "Halt; Close -1 1; Close -1 2", "Halt; Close 0 1; Close 0 2",
	)
	all(t, false,
		"Close 0 0; Halt", "Close 1 0; Halt", "Close -1 0; Halt", "Close 2 0; Halt | Unit; Ret", "Close 1 1; Halt | Unit; Ret", "Close 1 -1; Halt | Unit; Ret", strings.Repeat("Unit; ", 201)+"Close 1 201; Halt | Unit; Ret",
		"Unit; Close 1 1; Halt | Free 1; Ret", "Unit; Close 1 1; Halt | Free -1; Ret", "Close 1 0; Halt | Free 0; Ret", "Halt | Free 0; Ret", "Free 0; Halt", "Unit; Close 1 1; Free 0; Halt | Unit; Ret",
		"Unit; Close 1 1; Close 1 0; Halt | Unit; Ret", "Close 1 0; Halt; Close 1 1 | Unit; Ret", "Unit; Close 1 1; Halt; Close 1 0 | Free 0; Ret", "Halt; Close 1 0; Close 1 1 | Unit; Ret", "Halt; Close 1 3 | Free 3; Ret",
		"Halt; Close 1 -1 | Free 0; Ret", "Halt; Close 1 -9223372036854775808 | Free 0; Ret", "Halt; Close 1 -9223372036854775808 | Free -1; Ret", "Unit; Halt; Close 0 1; Free 0 | Free 0; Ret", "Free 0; Halt; Close 0 1",
	)
}

// TestUnnamed: A and B are 0 where the table names none, also in steps that nobody comes to.
func TestUnnamed(t *testing.T) {
	for op, e := range rows {
		for _, n := range []int{1, -1, 1 << 62, -1 << 63} {
			a, b := Ins{Op: op, A: n}, Ins{Op: op, B: n}
			for _, in := range []Ins{a, b} {
				c := Code{Ins: []Ins{{Op: Halt}, in}, Funs: []int{0}}
				verdict(t, c, fmt.Sprint(in), (in.A == 0 || e.a) && (in.B == 0 || e.b))
			}
		}
		verdict(t, Code{Ins: []Ins{{Op: Halt}, {Op: op}}, Funs: []int{0}}, e.name, true)
	}
	for _, op := range []int{-1, 29, 1000} {
		verdict(t, Code{Ins: []Ins{{Op: Halt}, {Op: op}}, Funs: []int{0}}, "none, and nobody comes to it", true)
		verdict(t, Code{Ins: []Ins{{Op: Halt}, {Op: op, A: 1}}, Funs: []int{0}}, "none with an A", false)
		verdict(t, Code{Ins: []Ins{{Op: Halt}, {Op: op, B: 1}}, Funs: []int{0}}, "none with a B", false)
	}
	all(t, false, "Int 1 1; Halt", "Unit; Pop 1; Halt", "Halt 1", "Halt 0 1", "Begin 1; Commit; Halt", "Unit; Raise 0 1")
}

// TestHeight: at most 10000, wherever it is more.
func TestHeight(t *testing.T) {
	for n := 9998; n <= 10001; n++ {
		units := strings.Repeat("Unit; ", n)
		verdict(t, asm(units+"Halt"), fmt.Sprint(n), n <= 10000)
		verdict(t, asm(units+"Raise"), fmt.Sprint(n), n <= 10000)
		verdict(t, asm("Halt | "+units+"Slide "+fmt.Sprint(n-1)+"; Ret"), fmt.Sprint(n), n+1 <= 10000)
		verdict(t, asm(units+fmt.Sprintf("Try %d; EndTry; Halt; Raise", n+3)), fmt.Sprint(n), n+1 <= 10000)
		verdict(t, asm(units+"Pop; Unit; Local 9997; Slide 9997; Halt"), fmt.Sprint(n), n+1 <= 10000)
	}
}

// TestSizes: so many steps, functions, texts, globals, and not one more.
func TestSizes(t *testing.T) {
	halt := []Ins{{Op: Halt}}
	verdict(t, Code{Ins: nil, Funs: []int{0}}, "no steps", false)
	verdict(t, Code{}, "nothing", false)
	for _, n := range []int{65535, 65536, 65537} {
		units := slices.Concat(slices.Repeat([]Ins{{Op: Unit}, {Op: Pop}}, n/2), halt)[:n]
		units[n-1] = halt[0]
		verdict(t, Code{Ins: units, Funs: []int{0}}, fmt.Sprint("steps", n), n <= 65536)
		verdict(t, Code{Ins: slices.Repeat(halt, n), Funs: []int{0}}, fmt.Sprint("steps that nobody comes to", n), n <= 65536)
	}
	// Brackets may be as many within one another as there are steps for.
	for n, e := range map[int]api.Errno{32767: api.OK, 32768: api.ErrForm} {
		brackets := slices.Concat(slices.Repeat([]Ins{{Op: Begin}}, 32767), slices.Repeat([]Ins{{Op: Commit}}, n), halt)
		if got := Verify(Code{Ins: brackets, Funs: []int{0}}); got != e {
			t.Error("brackets", n, got)
		}
	}
	for _, n := range []int{1, 4095, 4096, 4097} {
		c := Code{Ins: slices.Clone(halt), Funs: []int{0}}
		for len(c.Funs) < n {
			c.Funs = append(c.Funs, len(c.Ins))
			c.Ins = append(c.Ins, Ins{Op: Unit}, Ins{Op: Ret})
		}
		verdict(t, c, fmt.Sprint("functions", n), n <= 4096)
		texts := Code{Ins: []Ins{{Str, n - 1, 0}, {Op: Halt}}, Strs: slices.Repeat([]string{"a"}, n), Funs: []int{0}}
		verdict(t, texts, fmt.Sprint("texts", n), n <= 4096)
		texts = Code{Ins: halt, Strs: []string{"", strings.Repeat("a", n)}, Funs: []int{0}}
		verdict(t, texts, fmt.Sprint("bytes of a text", n), n <= 4096)
		verdict(t, Code{Ins: []Ins{{Global, n - 1, 0}, {Op: Halt}}, Funs: []int{0}, Globals: n}, fmt.Sprint("globals", n), n <= 4096)
	}
	for _, n := range []int{-1, -1 << 63, 1 << 62, 1 << 40} {
		verdict(t, Code{Ins: halt, Funs: []int{0}, Globals: n}, fmt.Sprint("globals", n), false)
	}
	verdict(t, Code{Ins: halt, Strs: []string{}, Funs: []int{0}, Globals: 0}, "few", true)
}
