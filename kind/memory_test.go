package kind

import (
	"slices"
	"testing"

	"scriptor/api"
)

// spare is a copy of a type with spare room behind each list, in which there is a mark.
func spare(t Type) Type {
	if len(t.Kids) == 0 {
		return t
	}
	kids := make([]Type, 0, len(t.Kids)+2)
	for _, k := range t.Kids {
		kids = append(kids, spare(k))
	}
	full := kids[:len(kids)+1]
	full[len(kids)] = Con("mark")
	t.Kids = kids
	return t
}

// marked: are all marks there?
func marked(t Type) bool {
	if len(t.Kids) == 0 {
		return true
	}
	return t.Kids[:len(t.Kids)+1][len(t.Kids)].Text == "mark" && !slices.ContainsFunc(t.Kids, func(k Type) bool { return !marked(k) })
}

// spoil changes all that is in a type's lists, and in their spare room.
func spoil(l []Type) {
	for _, t := range l {
		spoil(t.Kids)
	}
	for i := range l[:cap(l)] {
		l[:cap(l)][i] = Con("spoilt")
	}
}

// alone: does no list stand twice in the type, its spare room neither?
func alone(t *testing.T, x Type) {
	t.Helper()
	seen := map[*Type]struct{}{}
	var walk func(x Type)
	walk = func(x Type) {
		full := x.Kids[:cap(x.Kids)]
		for i := range full {
			if _, ok := seen[&full[i]]; ok {
				t.Fatal("a list stands twice in an answer")
			}
			seen[&full[i]] = struct{}{}
		}
		for _, k := range x.Kids {
			walk(k)
		}
	}
	walk(x)
}

// TestNothingIsKept hands types in, changes them then, and what was answered, too.
func TestNothingIsKept(t *testing.T) {
	for seed := range 400 {
		g := newMaker(int64(seed), 5)
		a, b := spare(g.make(4)), spare(g.make(4))
		wordsA, wordsB := words(a), words(b)
		s, m := New(), &solverModel{map[int][]word{}}
		for i := range 5 {
			s.Unify(Var(i), Con("t", Var(i+7)))
			m.unify(words(Var(i)), words(Con("t", Var(i+7))))
		}
		s.Unify(a, b)
		m.unify(wordsA, wordsB)
		full, _ := s.Full(a)
		swapped := Swap(a, []int{0, 1, 2}, []Type{b, b, b})
		con := Con("two", a, b, a)
		vars := Vars(a)
		Show(a)
		if !slices.Equal(words(a), wordsA) || !slices.Equal(words(b), wordsB) || !marked(a) || !marked(b) {
			t.Fatal("what was handed in is another one")
		}
		fullWords, swappedWords := words(full), words(swapped)
		spoil(a.Kids)
		spoil(b.Kids)
		if !slices.Equal(words(full), fullWords) || !slices.Equal(words(swapped), swappedWords) {
			t.Fatal("an answer shares what was handed in")
		}
		if want := slices.Concat([]word{{"ntwo", 3}}, wordsA, wordsB, wordsA); !slices.Equal(words(con), want) {
			t.Fatal("Con shares what was handed in")
		}
		for _, x := range []Type{full, swapped, con} {
			alone(t, x)
			spoil(x.Kids)
		}
		for i := range vars {
			vars[i] = 99
		}
		for i := range 9 {
			ask(t, s, m, Con("t", Var(i-1), Var(i+5)))
		}
		again, _ := s.Full(Var(2))
		spoil(again.Kids)
		ask(t, s, m, Var(2))
	}
}

// TestListsOfTypes: Con and Swap take a list of types, which isn't kept either.
func TestListsOfTypes(t *testing.T) {
	kids := []Type{integer, Var(1), Con("mark")}
	c := Con("t", kids[:2]...)
	vars, by := []int{1, 7}, []Type{Con("list", integer), Con("mark")}
	swapped := Swap(c, vars[:1], by[:1])
	kids[0], kids[1], vars[0] = Var(5), Var(6), 9
	by[0].Kids[0] = Var(8)
	if Show(c) != "(t int 'a)" || Show(swapped) != "(t int (list int))" || kids[2].Text != "mark" || by[1].Text != "mark" || vars[1] != 7 {
		t.Error(c, swapped)
	}
}

// endless is a type within itself, of so many Kids.
func endless(count int) Type {
	kids := make([]Type, count)
	for i := range kids {
		kids[i] = Type{Op: 1, Text: "e", Kids: kids}
	}
	return kids[0]
}

// shared is a type of few lists, each one all Kids of the next one.
func shared(deep int) Type {
	t := Con("t", Var(1), Var(2))
	for range deep {
		t = Type{Op: 1, Text: "t", Kids: times(t, 2)}
	}
	return t
}

// TestAllEnds: types that nobody could go through.
func TestAllEnds(t *testing.T) {
	var broad Type
	broad = Type{Op: 1, Text: "b", Kids: times(endless(1), 300000)}
	for i := range broad.Kids {
		broad.Kids[i].Kids = broad.Kids
	}
	for i, x := range []Type{endless(1), endless(2), endless(1000), shared(60), shared(200), broad, Con("t", times(integer, 2000000)...)} {
		s := New()
		if full, err := s.Full(x); err != api.ErrBig || full.Op != 0 || full.Kids != nil {
			t.Error(i, err)
		}
		if err := s.Unify(Var(1), x); err != api.ErrBig {
			t.Error(i, err)
		}
		if err := s.Unify(x, x); err != api.ErrBig {
			t.Error(i, err)
		}
		if vars := Vars(x); len(vars) > 2 || (i == 3 || i == 4) && !slices.Equal(vars, []int{1, 2}) {
			t.Error(i, vars)
		}
		Show(x)
		Con("t", x)
		Swap(x, []int{1}, []Type{x})
		Swap(Con("t", Var(1), Var(1)), []int{2, 1}, []Type{endless(2), x})
	}
	// what isn't asked for needs no end
	if got := Swap(Var(1), []int{2}, []Type{endless(2)}); !same(got, Var(1)) {
		t.Error(got)
	}
}

// TestDeep: parts within one another, as many as may be.
func TestDeep(t *testing.T) {
	deep := Var(7)
	for range 1<<16 - 1 {
		deep = Type{Op: 1, Text: "x", Kids: []Type{deep}}
	}
	if got := Vars(deep); !slices.Equal(got, []int{7}) {
		t.Error(got)
	}
	if got := Show(deep); len(got) != (1<<16-1)*4+2 {
		t.Error(len(got))
	}
	swapped := Swap(deep, []int{7}, []Type{deep})
	count := 0
	for ; len(swapped.Kids) > 0; swapped = swapped.Kids[0] {
		count++
	}
	if count != 2*(1<<16-1) || swapped.Op != 0 || swapped.Num != 7 {
		t.Error(count, swapped)
	}
	if err := New().Unify(deep, deep); err != api.ErrBig {
		t.Error(err)
	}
}

// TestMany: a type of many parts is shown, and copied.
func TestMany(t *testing.T) {
	many := Con("t", times(Con("u", Var(1), Var(2)), 100000)...)
	if got := Show(many); len(got) != 3+100000*len(" (u 'a 'b)") {
		t.Error(len(got))
	}
	if got := Swap(many, []int{2}, []Type{many.Kids[0]}); len(got.Kids) != 100000 || Show(got.Kids[99999]) != "(u 'a (u 'a 'b))" {
		t.Error(len(got.Kids))
	}
	if got := Vars(many); !slices.Equal(got, []int{1, 2}) {
		t.Error(got)
	}
}
