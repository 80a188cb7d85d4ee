package kind

import (
	"slices"

	"scriptor/api"
)

const (
	maxParts = 1000
	maxPairs = 10000
)

// Solver knows what variables stand for.
type Solver struct {
	fresh  int
	stands map[int]Type
}

// New: nothing yet.
func New() *Solver { return &Solver{stands: map[int]Type{}} }

// Fresh: a variable that wasn't there.
func (s *Solver) Fresh() Type {
	if s == nil {
		return Var(0)
	}
	s.fresh++
	return Var(s.fresh)
}

// Unify: both are one from now on.
func (s *Solver) Unify(a, b Type) api.Errno {
	if s == nil {
		return api.ErrArg
	}
	pairs := maxPairs
	return s.unify(a, b, &pairs)
}

// unify looks at no more pairs than are left.
func (s *Solver) unify(a, b Type, left *int) api.Errno {
	if *left == 0 {
		return api.ErrBig
	}
	*left--
	a, b = s.taken(a), s.taken(b)
	switch {
	case a.Op == variable && b.Op == variable && a.Num == b.Num:
		return api.OK
	case a.Op == variable:
		return s.stand(a.Num, b)
	case b.Op == variable:
		return s.stand(b.Num, a)
	case a.Text != b.Text || len(a.Kids) != len(b.Kids):
		return api.ErrType
	}
	for i, k := range a.Kids {
		if err := s.unify(k, b.Kids[i], left); err != api.OK {
			return err
		}
	}
	return api.OK
}

// stand lets a variable stand for a type from now on.
func (s *Solver) stand(v int, t Type) api.Errno {
	full, err := s.Full(t)
	if err != api.OK {
		return err
	}
	if slices.Contains(Vars(full), v) {
		return api.ErrType
	}
	if s.stands == nil {
		s.stands = map[int]Type{}
	}
	s.stands[v] = full
	return api.OK
}

// taken is what stands in the place of a variable, again and again. Variables
// that stand for one another in a row stand for the end of it then: else a long
// one would be gone along again and again.
func (s *Solver) taken(t Type) Type {
	end := t
	for next, ok := s.next(end); ok; next, ok = s.next(end) {
		end = next
	}
	for next, ok := s.next(t); ok; next, ok = s.next(t) {
		s.stands[t.Num] = end
		t = next
	}
	return end
}

// next is what a variable stands for, if it does.
func (s *Solver) next(t Type) (Type, bool) {
	if t.Op != variable {
		return Type{}, false
	}
	next, ok := s.stands[t.Num]
	return next, ok
}

// Full: a type, with all that variables stand for.
func (s *Solver) Full(t Type) (Type, api.Errno) {
	if s == nil {
		return Type{}, api.ErrArg
	}
	left := maxParts
	full, ok := s.full(t, &left)
	if !ok {
		return Type{}, api.ErrBig
	}
	return full, api.OK
}

// full is false where there are more parts than are left.
func (s *Solver) full(t Type, left *int) (Type, bool) {
	t = s.taken(t)
	if *left == 0 {
		return Type{}, false
	}
	*left--
	switch {
	case t.Op == variable:
		return Var(t.Num), true
	case len(t.Kids) > *left:
		return Type{}, false
	}
	var kids []Type
	if len(t.Kids) > 0 {
		kids = make([]Type, len(t.Kids))
	}
	for i, k := range t.Kids {
		full, ok := s.full(k, left)
		if !ok {
			return Type{}, false
		}
		kids[i] = full
	}
	t.Kids = kids
	return t, true
}
