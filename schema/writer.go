package schema

import (
	"slices"
	"strings"

	"scriptor/api"
	"scriptor/parse"
)

const maxText = 1000

// writer writes a root's type.
type writer struct {
	l     []parse.Node
	datas map[string]int // of a Data, where it stands in l
	out   strings.Builder
	// met are the Datas that were met, by their places in l.
	met   []int
	known map[int]struct{}
	// lost: does something stand in a type that can't be kept?
	lost bool
	// left is how many nodes may still come: there may be no end of those that
	// are no program's.
	left int
}

// textOf is a root's type, as a text.
func textOf(t parse.Node, l []parse.Node, datas map[string]int) (string, api.Errno) {
	w := &writer{l: l, datas: datas, known: map[int]struct{}{}, left: api.MaxText}
	w.typ(t, nil)
	for i := 0; i < len(w.met); i++ {
		w.data(l[w.met[i]])
	}
	switch {
	case w.lost:
		return "", api.ErrKeep
	case w.out.Len() > maxText || w.left < 0:
		return "", api.ErrBig
	}
	return w.out.String(), api.OK
}

// say writes; what is too long already isn't written further.
func (w *writer) say(s string) {
	if w.out.Len() <= maxText {
		w.out.WriteString(s)
	}
}

// data writes what a data type is.
func (w *writer) data(n parse.Node) {
	var vars []string
	for _, k := range n.Kids {
		if k.Op == parse.TVar {
			vars = append(vars, k.Text)
		}
	}
	w.say("|" + n.Text)
	for i := range vars {
		w.say(" " + letter(i))
	}
	mark := "="
	for _, k := range n.Kids {
		if k.Op == parse.TVar {
			continue
		}
		w.say(mark + k.Text)
		mark = ","
		for _, t := range k.Kids {
			w.say(" ")
			w.typ(t, vars)
		}
	}
}

// letter is what the variable with that place is called.
func letter(place int) string { return "'" + string(rune('a'+place)) }

// typ writes a type, in which vars are called by their places.
func (w *writer) typ(n parse.Node, vars []string) {
	w.left--
	if w.left < 0 {
		return
	}
	if n.Op == parse.TVar {
		w.say(letter(slices.Index(vars, n.Text)))
		return
	}
	w.meet(n.Text)
	if len(n.Kids) == 0 {
		w.say(n.Text)
		return
	}
	w.say("(" + n.Text)
	for _, k := range n.Kids {
		w.say(" ")
		w.typ(k, vars)
	}
	w.say(")")
}

// meet takes a type's name down.
func (w *writer) meet(name string) {
	w.lost = w.lost || name == "->" || name == "ref"
	i, ok := w.datas[name]
	if !ok {
		return
	}
	if _, ok := w.known[i]; !ok {
		w.known[i] = struct{}{}
		w.met = append(w.met, i)
	}
}
