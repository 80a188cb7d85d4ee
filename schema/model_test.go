package schema

import (
	"fmt"
	"math/rand"
	"regexp"
	"slices"
	"strings"
	"testing"

	"scriptor/api"
	"scriptor/infer"
	"scriptor/parse"
)

// The model is a second way of reckoning: it works on the program's text as it is
// shown, by words.

var (
	word   = regexp.MustCompile(`[^ ()\n]+`)
	ofData = regexp.MustCompile(`(?m)^\(data (\S+) \(([^()]*)\) (.*)\)$`)
	ofRoot = regexp.MustCompile(`(?m)^\(root (\S+) (.*)$`)
)

// tree is the first tree of a text.
func tree(s string) string {
	open := 0
	for i := range len(s) {
		switch s[i] {
		case '(':
			open++
		case ')':
			open--
		}
		if open == 0 && (i+1 == len(s) || strings.IndexByte(" )\n", s[i+1]) >= 0 || s[i] == ')') {
			return s[:i+1]
		}
	}
	panic(s)
}

// trees are all of a text, with a blank between two.
func trees(s string) []string {
	var l []string
	for s = strings.TrimSpace(s); s != ""; s = strings.TrimSpace(s) {
		t := tree(s)
		l = append(l, t)
		s = s[len(t):]
	}
	return l
}

func ofModel(l []parse.Node) ([]Root, api.Pos, api.Errno) {
	text := parse.Show(l...)
	datas := map[string]string{}
	for _, m := range ofData.FindAllStringSubmatch(text, -1) {
		vars := strings.Fields(m[2])
		cons := m[3]
		head := m[1]
		for i := range vars {
			head += fmt.Sprintf(" '%c", 'a'+i)
		}
		cons = word.ReplaceAllStringFunc(cons, func(w string) string {
			if i := slices.Index(vars, w); i >= 0 {
				return fmt.Sprintf("'%c", 'a'+i)
			}
			return w
		})
		var said []string
		for _, c := range trees(cons) {
			said = append(said, c[1:len(c)-1])
		}
		datas[m[1]] = "|" + head + "=" + strings.Join(said, ",")
	}
	var at, typeAt []api.Pos
	for _, n := range l {
		if n.Op == parse.Root {
			at, typeAt = append(at, n.At), append(typeAt, n.Kids[0].At)
		}
	}
	var out []Root
	for i, m := range ofRoot.FindAllStringSubmatch(text, -1) {
		if i == 100 {
			return nil, at[i], api.ErrBig
		}
		all := tree(m[2])
		for done := ""; done != all; {
			done = all
			for _, w := range word.FindAllString(all, -1) {
				// A comma, a bar and an equals sign stand between words, too.
				for _, w := range strings.FieldsFunc(w, func(r rune) bool { return strings.ContainsRune("|,=", r) }) {
					if d := datas[w]; !strings.Contains(all, d) {
						all += d
					}
				}
			}
		}
		if kept := regexp.MustCompile(`(^|[( ])(->|ref)([) ]|$)`); kept.MatchString(all) {
			return nil, typeAt[i], api.ErrKeep
		}
		if len(all) > 1000 {
			return nil, typeAt[i], api.ErrBig
		}
		out = append(out, Root{m[1], all})
	}
	return out, api.Pos{}, api.OK
}

type maker struct {
	*rand.Rand
	datas []string
	parts []int
	// wrongs of a hundred types can't be kept.
	wrongs int
}

func (g *maker) typ(deep int, vars []string) string {
	if g.Intn(100) < g.wrongs {
		return []string{"(-> int int)", "(ref int)"}[g.Intn(2)]
	}
	if k := g.Intn(8); k < 2 || deep <= 0 {
		if len(vars) > 0 && g.Intn(2) == 0 {
			return vars[g.Intn(len(vars))]
		}
		return []string{"int", "float", "string", "unit", "bool", "exn"}[g.Intn(6)]
	} else if k == 2 {
		return "(pref " + g.typ(deep-1, vars) + ")"
	} else if k == 3 || len(g.datas) == 0 {
		return "(tuple " + g.typ(deep-1, vars) + " " + g.typ(deep-1, vars) + ")"
	}
	i := g.Intn(len(g.datas))
	all := g.datas[i]
	for range g.parts[i] {
		all += " " + g.typ(deep-1, vars)
	}
	if g.parts[i] == 0 {
		return all
	}
	return "(" + all + ")"
}

// program is data types, and roots of them; its types fit.
func (g *maker) program() string {
	var out strings.Builder
	count, most := 0, 8
	if g.Intn(10) == 0 {
		most = 25
	}
	for range 1 + g.Intn(most) {
		name := fmt.Sprintf("t%d", len(g.datas))
		vars := []string{"'x", "'b", "'a", "'y", "'c"}[:g.Intn(4)]
		g.datas, g.parts = append(g.datas, name), append(g.parts, len(vars))
		fmt.Fprintf(&out, "(data %s (%s)", name, strings.Join(vars, " "))
		for range 1 + g.Intn(most/2) {
			fmt.Fprintf(&out, " (C%d", count)
			count++
			for range g.Intn(3) {
				out.WriteString(" " + g.typ(2, vars))
			}
			out.WriteString(")")
		}
		out.WriteString(")\n")
		for range g.Intn(3) {
			fmt.Fprintf(&out, "(root r%d %s (raise Div)) (def x 1)", count, g.typ(3, nil))
			count++
		}
	}
	return out.String()
}

func check(t *testing.T, src string) api.Errno {
	t.Helper()
	l, at, err := parse.Program(src)
	if err != api.OK {
		t.Fatal(src, at)
	}
	got, at, err := Of(l...)
	want, wantAt, wantErr := ofModel(l)
	if !slices.Equal(got, want) || at != wantAt || err != wantErr {
		t.Fatalf("%s\n%v, %v, %v, not\n%v, %v, %v", src, got, at, err, want, wantAt, wantErr)
	}
	return err
}

func TestAgainstModel(t *testing.T) {
	errors := map[api.Errno]int{}
	for seed := range 2000 {
		g := &maker{Rand: rand.New(rand.NewSource(int64(seed)))}
		if seed%3 == 0 {
			g.wrongs = 3
		}
		src := g.program()
		l, _, _ := parse.Program(src)
		if _, at, err := infer.Program(l...); err != api.OK {
			t.Fatal(src, at, err)
		}
		errors[check(t, src)]++
	}
	for _, e := range []api.Errno{api.OK, api.ErrKeep, api.ErrBig} {
		if errors[e] < 30 {
			t.Errorf("error %v came %d times", e, errors[e])
		}
	}
}
