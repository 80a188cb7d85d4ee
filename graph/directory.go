package graph

import (
	"slices"
	"strings"

	"scriptor/api"
	"scriptor/val"
)

const (
	dirId   = 1 // which object of a store the directory is
	maxType = 1000
	maxId   = 1 << 40
)

// A directory is a list: constructor 0 is its end; constructor 1 has a root, and the directory behind it.
const (
	noRoot   = 0
	nextRoot = 1
)

// Root is a name, its type's text, and the object that it leads to.
type Root struct {
	Name, Type string
	Id         int
}

func (r Root) inForm() bool {
	return len(r.Name) >= 1 && len(r.Name) <= api.MaxName && len(r.Type) <= maxType && r.Id >= 1 && r.Id <= maxId
}

func (r Root) value() api.Val {
	return api.Val{Kind: api.Tuple, Kids: []api.Val{
		{Kind: api.Str, Text: r.Name},
		{Kind: api.Str, Text: r.Type},
		{Kind: api.Pref, Num: r.Id},
	}}
}

// Dir: roots, as a value; Roots: of a value.
func Dir(l ...Root) (api.Val, api.Errno) {
	sorted := slices.Clone(l)
	slices.SortFunc(sorted, func(a, b Root) int { return strings.Compare(a.Name, b.Name) })
	for i, r := range sorted {
		if !r.inForm() || i > 0 && r.Name == sorted[i-1].Name {
			return api.Val{}, api.ErrForm
		}
	}
	if len(sorted) > api.MaxRoots {
		return api.Val{}, api.ErrBig
	}
	dir := api.Val{Kind: api.Con, Num: noRoot}
	for _, r := range slices.Backward(sorted) {
		dir = api.Val{Kind: api.Con, Num: nextRoot, Kids: []api.Val{r.value(), dir}}
	}
	if err := val.Check(dir); err != api.OK {
		return api.Val{}, err
	}
	return dir, api.OK
}

func Roots(v api.Val) ([]Root, api.Errno) {
	var l []Root
	// A value that is no directory may have no end.
	for rest := v; len(l) < api.MaxRoots; rest = rest.Kids[1] {
		r, ok := firstRoot(rest)
		if !ok {
			break
		}
		l = append(l, r)
	}
	// Made anew it must be the same: so the rest of the form is asked, too.
	if dir, err := Dir(l...); err != api.OK || !val.Same(dir, v) {
		return nil, api.ErrForm
	}
	return l, api.OK
}

// firstRoot takes apart what may be a directory; false: it has no such parts.
func firstRoot(dir api.Val) (Root, bool) {
	if len(dir.Kids) != 2 || len(dir.Kids[0].Kids) != 3 {
		return Root{}, false
	}
	parts := dir.Kids[0].Kids
	return Root{Name: parts[0].Text, Type: parts[1].Text, Id: parts[2].Num}, true
}
