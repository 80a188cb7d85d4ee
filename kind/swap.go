package kind

// Beyond these nothing is promised of an answer: a type may stand within itself,
// and has no end then.
const (
	mostParts = 1 << 25
	mostDeep  = 1 << 18
)

// swapper puts types in the place of variables; an empty one copies.
type swapper struct {
	at map[int]int // of a variable, where its type stands in by
	by []Type
	// sizes are how many parts those of by have, if that was asked.
	sizes map[int]int
}

// Swap: a type, with types in the place of variables.
func Swap(t Type, vars []int, by []Type) Type {
	s := &swapper{by: by}
	if n := min(len(vars), len(by)); n > 0 {
		s.at, s.sizes = make(map[int]int, n), map[int]int{}
		// From the last one on, so that the first one of a variable stays.
		for i := n - 1; i >= 0; i-- {
			s.at[vars[i]] = i
		}
	}
	if !s.fits(t) {
		return Type{}
	}
	return s.put(t)
}

// put is the type with the others in it, all of it new.
func (s *swapper) put(t Type) Type {
	if t.Op == variable {
		if i, ok := s.at[t.Num]; ok {
			return (&swapper{}).put(s.by[i])
		}
		return Var(t.Num)
	}
	var kids []Type
	if len(t.Kids) > 0 {
		kids = make([]Type, len(t.Kids))
	}
	for i, k := range t.Kids {
		kids[i] = s.put(k)
	}
	t.Kids = kids
	return t
}

// fits: has what is put together an end?
func (s *swapper) fits(t Type) bool { return s.count(t) <= mostParts }

// count is how many parts it has, or more than mostParts.
func (s *swapper) count(t Type) int {
	n := 0
	s.add(t, 1, &n)
	return n
}

// add counts the parts of a type that is so deep within all.
func (s *swapper) add(t Type, deep int, n *int) {
	switch {
	case deep > mostDeep:
		*n = mostParts + 1
		return
	case t.Op == variable:
		*n += s.size(t.Num)
		return
	}
	*n++
	for _, k := range t.Kids {
		if *n > mostParts {
			return
		}
		s.add(k, deep+1, n)
	}
}

// size is how many parts stand in the place of a variable.
func (s *swapper) size(v int) int {
	i, ok := s.at[v]
	if !ok {
		return 1
	}
	if s.sizes[i] == 0 {
		s.sizes[i] = (&swapper{}).count(s.by[i])
	}
	return s.sizes[i]
}
