package match

import (
	"slices"

	"scriptor/api"
)

// Beyond these nothing is promised of an answer: patterns and values may stand
// within themselves, and have no end then.
const (
	mostParts = 1 << 26 // each has more than 32 bytes
	mostDeep  = 1 << 18
	mostWords = 1 << 28 // each of eight bytes
)

// A variable and its place, but for the place's numbers, have so many words.
const bindWords = 5

// bindsEnd: may all variables of a pattern be told? It takes away as many of left
// as it has parts, and as they have words; false: they are more, or too deep.
func bindsEnd(p Pat, deep int, left *int) bool {
	*left--
	if p.Op == Var {
		*left -= bindWords + deep
	}
	if deep > mostDeep || *left < 0 {
		return false
	}
	for _, k := range parts(p) {
		if !bindsEnd(k, deep+1, left) {
			return false
		}
	}
	return true
}

// appendBinds puts the variables of what stands at a place behind others.
func appendBinds(l []Bind, p Pat, path []int) []Bind {
	if p.Op == Var {
		return append(l, Bind{p.Text, slices.Clone(path)})
	}
	for i, k := range parts(p) {
		l = appendBinds(l, k, append(path, i))
	}
	return l
}

// hasEnd: may a value be gone through?
func hasEnd(v api.Val) bool {
	left := mostParts
	return goThrough(v, mostDeep, &left)
}

// goThrough takes away as many of left as the value has parts; false: they are more, or deeper.
func goThrough(v api.Val, deep int, left *int) bool {
	*left--
	if deep == 0 || *left < 0 {
		return false
	}
	for _, k := range v.Kids {
		if !goThrough(k, deep-1, left) {
			return false
		}
	}
	return true
}

// copied is a value that shares no list with another one.
func copied(v api.Val) api.Val {
	var kids []api.Val
	if len(v.Kids) > 0 {
		kids = make([]api.Val, len(v.Kids))
	}
	for i, k := range v.Kids {
		kids[i] = copied(k)
	}
	v.Kids = kids
	return v
}
