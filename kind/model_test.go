package kind

import (
	"fmt"
	"math/rand"
	"slices"
	"strings"
	"testing"

	"scriptor/api"
)

// The model is a second way of reckoning: a type is a row of words, each a
// variable (a number) or a name with how many parts follow it; what variables
// stand for is put in at once, everywhere.

type word struct {
	name string
	n    int // of a variable, its number; of a name, its count of parts
}

func (w word) isVar() bool { return w.name == "" }

func words(t Type) []word {
	if t.Op == 0 {
		return []word{{"", t.Num}}
	}
	l := []word{{"n" + t.Text, len(t.Kids)}}
	for _, k := range t.Kids {
		l = append(l, words(k)...)
	}
	return l
}

// first is how many words the first type of a row has.
func first(l []word) int {
	open, i := 1, 0
	for ; open > 0; i++ {
		open--
		if !l[i].isVar() {
			open += l[i].n
		}
	}
	return i
}

func put(l []word, v int, by []word) []word {
	var out []word
	for _, w := range l {
		if w == (word{"", v}) {
			out = append(out, by...)
		} else {
			out = append(out, w)
		}
	}
	return out
}

// solverModel has what each variable stands for, in full.
type solverModel struct {
	stands map[int][]word
}

func (m *solverModel) full(l []word) []word {
	var out []word
	for _, w := range l {
		if by, ok := m.stands[w.n]; ok && w.isVar() {
			out = append(out, by...)
		} else {
			out = append(out, w)
		}
	}
	return out
}

func (m *solverModel) unify(a, b []word) api.Errno {
	a, b = m.full(a), m.full(b)
	pairs := 0
	for len(a) > 0 {
		if pairs == 10000 {
			return api.ErrBig
		}
		pairs++
		x, y := a[0], b[0]
		switch {
		case x == y:
			a, b = a[1:], b[1:]
			continue
		case !x.isVar() && !y.isVar():
			return api.ErrType
		}
		v, by := x.n, b[:first(b)]
		if !x.isVar() {
			v, by = y.n, a[:first(a)]
		}
		if len(by) > 1000 {
			return api.ErrBig
		}
		if slices.Contains(by, word{"", v}) {
			return api.ErrType
		}
		for u, l := range m.stands {
			m.stands[u] = put(l, v, by)
		}
		m.stands[v] = by
		a, b = a[first(a):], b[first(b):]
		a, b = put(a, v, by), put(b, v, by)
	}
	return api.OK
}

// say is a row of words as people write it.
func say(l []word) string {
	called := map[int]string{}
	for _, w := range l {
		if _, ok := called[w.n]; w.isVar() && !ok {
			i := len(called)
			called[w.n] = fmt.Sprintf("'%c%s", "abcdefghijklmnopqrstuvwxyz"[i%26], strings.TrimLeft(fmt.Sprint(i/26), "0"))
		}
	}
	var one func() string
	one = func() string {
		w := l[0]
		l = l[1:]
		if w.isVar() {
			return called[w.n]
		}
		all := []string{w.name[1:]}
		for range w.n {
			all = append(all, one())
		}
		if w.n == 0 {
			return all[0]
		}
		return "(" + strings.Join(all, " ") + ")"
	}
	return one()
}

// maker makes types.
type maker struct {
	*rand.Rand
	vars int
}

func newMaker(seed int64, vars int) *maker { return &maker{rand.New(rand.NewSource(seed)), vars} }

func (g *maker) make(deep int) Type {
	if k := g.Intn(10); k < 4 || deep == 0 && k < 8 {
		return Var(g.Intn(g.vars) - 1)
	}
	t := Type{Op: 1, Text: []string{"int", "list", "->", ""}[g.Intn(4)]}
	if g.Intn(3) == 0 {
		// Neither the Op nor the Num of a name matters.
		t.Op, t.Num = []int{-1, 2, 99}[g.Intn(3)], g.Intn(3)
	}
	if deep == 0 {
		return t
	}
	for range g.Intn(4) {
		k := g.make(deep - 1)
		t.Kids = append(t.Kids, k)
	}
	return t
}

// pair is two types; sometimes many grow out of few.
func (g *maker) pair() (Type, Type) {
	if g.vars%2 == 0 && g.Intn(3) > 0 {
		v := g.Intn(g.vars)
		return Var(v), Con("t", times(Var((v+1)%g.vars), 1+g.Intn(5))...)
	}
	return g.make(g.Intn(5)), g.make(g.Intn(5))
}

// tooBig: what a variable stands for may be more than the model can go through.
func (m *solverModel) tooBig() bool {
	for _, l := range m.stands {
		if len(l) > 5000 {
			return true
		}
	}
	return false
}

// TestAgainstModel tells a solver much, and asks it behind each thing.
func TestAgainstModel(t *testing.T) {
	errors := map[api.Errno]int{}
	for seed := range 900 {
		g := newMaker(int64(seed), 2+seed%30)
		s, m := New(), &solverModel{map[int][]word{}}
		for range 2 + g.Intn(60) {
			a, b := g.pair()
			got, want := s.Unify(a, b), m.unify(words(a), words(b))
			errors[got]++
			if got != want {
				t.Fatalf("%d: Unify(%v, %v) = %v, not %v", seed, words(a), words(b), got, want)
			}
			if m.tooBig() {
				break
			}
			ask(t, s, m, a)
			ask(t, s, m, b)
			ask(t, s, m, g.make(3))
			if got == api.OK {
				wantOne(t, s, a, b)
			}
		}
	}
	for _, e := range []api.Errno{api.OK, api.ErrType, api.ErrBig} {
		if errors[e] < 30 {
			t.Errorf("error %v came %d times", e, errors[e])
		}
	}
}

// ask holds Full, Vars and Show against the model.
func ask(t *testing.T, s *Solver, m *solverModel, a Type) {
	t.Helper()
	full, err := s.Full(a)
	want := m.full(words(a))
	if len(want) > 1000 {
		if err != api.ErrBig || !same(full, Type{}) {
			t.Fatalf("Full of %d parts: %v, %v", len(want), full, err)
		}
		return
	}
	if err != api.OK || !slices.Equal(words(full), want) {
		t.Fatalf("Full(%v) = %v, %v, not %v", words(a), words(full), err, want)
	}
	if got := Show(full); got != say(want) {
		t.Fatalf("Show: %q, not %q", got, say(want))
	}
	var vars []int
	for _, w := range want {
		if w.isVar() && !slices.Contains(vars, w.n) {
			vars = append(vars, w.n)
		}
	}
	if got := Vars(full); !slices.Equal(got, vars) {
		t.Fatalf("Vars: %v, not %v", got, vars)
	}
}

// wantOne: behind a Unify that went well both are one.
func wantOne(t *testing.T, s *Solver, a, b Type) {
	t.Helper()
	x, err := s.Full(a)
	y, err2 := s.Full(b)
	if err != err2 || !slices.Equal(words(x), words(y)) {
		t.Fatalf("%v and %v are one: %v, %v, but %v, %v", words(a), words(b), words(x), err, words(y), err2)
	}
}

// same: are they, whatever Ops and Nums of names are?
func same(a, b Type) bool { return slices.Equal(words(a), words(b)) }

// TestSwapAgainstModel puts types in the place of variables, in the model one after the other.
func TestSwapAgainstModel(t *testing.T) {
	for seed := range 3000 {
		g := newMaker(int64(seed), 6)
		a := g.make(5)
		var vars []int
		var by []Type
		for range g.Intn(6) {
			vars = append(vars, g.Intn(7)-1)
		}
		for range g.Intn(6) {
			by = append(by, g.make(2))
		}
		want := words(a)
		for i := len(want) - 1; i >= 0; i-- {
			if j := slices.Index(vars, want[i].n); want[i].isVar() && j >= 0 && j < len(by) {
				want = slices.Replace(want, i, i+1, words(by[j])...)
			}
		}
		if got := Swap(a, vars, by); !slices.Equal(words(got), want) {
			t.Fatalf("Swap(%v, %v, %v) = %v, not %v", a, vars, by, got, want)
		}
	}
}
