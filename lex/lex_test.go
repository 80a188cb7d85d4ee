package lex

import (
	"math/rand"
	"strings"
	"testing"

	"scriptor/api"
)

func at(line, col int) api.Pos { return api.Pos{Line: line, Col: col} }

func rep(s string, n int) string { return strings.Repeat(s, n) }

// TestWords: each alone is one token.
func TestWords(t *testing.T) {
	a40 := rep("a", 40)
	for src, want := range map[string]Token{
		"(": {Kind: Open}, ")": {Kind: Close},
		"0": {Kind: Int}, "-0": {Kind: Int}, "007": {Kind: Int, Num: 7}, "-12": {Kind: Int, Num: -12},
		"4611686018427387903": {Kind: Int, Num: 1<<62 - 1}, "-4611686018427387904": {Kind: Int, Num: -1 << 62},
		rep("0", 60) + "5": {Kind: Int, Num: 5}, "-" + rep("0", 60) + "5": {Kind: Int, Num: -5},
		"0.0": {Kind: Float, Text: rep("\x00", 8)}, "-0.0": {Kind: Float, Text: "\x80" + rep("\x00", 7)},
		"1.5": {Kind: Float, Text: "\x3f\xf8" + rep("\x00", 6)}, "-1.5": {Kind: Float, Text: "\xbf\xf8" + rep("\x00", 6)},
		"0.1":              {Kind: Float, Text: "\x3f\xb9\x99\x99\x99\x99\x99\x9a"},
		"12345678901234.5": {Kind: Float, Text: "\x42\xa6\x74\xe7\x9c\x5f\xe5\x00"},
		"A":                {Kind: Con, Text: "A"}, "Z9aZ": {Kind: Con, Text: "Z9aZ"}, "A" + a40[1:]: {Kind: Con, Text: "A" + a40[1:]},
		"a": {Kind: Name, Text: "a"}, "zA9": {Kind: Name, Text: "zA9"}, a40: {Kind: Name, Text: a40},
		"'a": {Kind: Name, Text: "'a"}, "'": {Kind: Name, Text: "'"}, "-": {Kind: Name, Text: "-"}, "->": {Kind: Name, Text: "->"},
		"--1": {Kind: Name, Text: "--1"}, "-1a": {Kind: Name, Text: "-1a"}, "-1-": {Kind: Name, Text: "-1-"}, "-x": {Kind: Name, Text: "-x"},
		".5": {Kind: Name, Text: ".5"}, "-.5": {Kind: Name, Text: "-.5"}, "-1.": {Kind: Name, Text: "-1."}, "+1": {Kind: Name, Text: "+1"},
		"-1.2.3": {Kind: Name, Text: "-1.2.3"}, "-123456789012345.6": {Kind: Name, Text: "-123456789012345.6"},
		"'+*/<>=!?_.-": {Kind: Name, Text: "'+*/<>=!?_.-"}, "_": {Kind: Name, Text: "_"}, "fn": {Kind: Name, Text: "fn"},
	} {
		want.At = at(1, 1)
		got, p, err := Scan(src)
		if err != api.OK || p != (api.Pos{}) || len(got) != 1 || got[0] != want {
			t.Errorf("Scan(%q) = %v, %v, %v, not %v", src, got, p, err, want)
		}
	}
}

// wantSyntax: of each text the place that is wrong.
func wantSyntax(t *testing.T, texts map[string]api.Pos) {
	t.Helper()
	for src, want := range texts {
		got, p, err := Scan(src)
		if err != api.ErrSyntax || p != want || got != nil {
			t.Errorf("Scan(%.60q) = %v, %v, %v, not %v", src, got, p, err, want)
		}
	}
}

func TestWrongWords(t *testing.T) {
	for _, w := range []string{
		"12a", "1-", "1.", "1.5.", "1.a", "1e5", "1.5e5", "123456789012345.6", "0.000000000000001", "9'",
		"4611686018427387904", "-4611686018427387905", rep("9", 400), "-" + rep("9", 400),
		"A-b", "A.b", "A_", "A'", "Zé", "a#", "#", "é", "a\x00", "\x7f", "\r", "a,b", "[", "a\\", "\\n", "{}", "a:b", "@", "^", "&", "$", "%", "~", "|", "`",
		rep("a", 41), "A" + rep("a", 40), "-1." + rep("5", 38), "'" + rep("a", 40),
	} {
		wantSyntax(t, map[string]api.Pos{
			w: at(1, 1), " " + w: at(1, 2), "a\n(\t" + w + ")": at(2, 3), ";" + w + "\n" + w + ";": at(2, 1), w + " #": at(1, 1), "\"\"" + w + "\"": at(1, 3),
		})
	}
}

func TestStrings(t *testing.T) {
	for src, want := range map[string]string{
		`""`: "", `"a b"`: "a b", `"; ( )"`: "; ( )", `"\""`: `"`, `"\\"`: `\`, `"\n"`: "\n", `"\x00\xff\x0a\x22\x5c"`: "\x00\xff\n\"\\",
		`"\\n"`: `\n`, `"\\x41"`: `\x41`, `"\x411"`: "A1", `"\x9a\xbc\xde\xf0"`: "\x9a\xbc\xde\xf0",
		"\" \x7f\x80\xff~\"": " \x7f\x80\xff~", `"'é"`: "'é", "\"" + rep("a", 4096) + "\"": rep("a", 4096), "\"" + rep(`\x00`, 4096) + "\"": rep("\x00", 4096),
	} {
		got, _, err := Scan(src)
		if err != api.OK || len(got) != 1 || got[0] != (Token{Kind: Str, At: at(1, 1), Text: want}) {
			t.Errorf("Scan(%.60q) = %v, %v", src, got, err)
		}
	}
}

func TestWrongStrings(t *testing.T) {
	wantSyntax(t, map[string]api.Pos{
		// another byte
		"\"\x00\"": at(1, 2), "\"a\n\"": at(1, 3), "\"\t\"": at(1, 2), "\"ab\x1f": at(1, 4), "\n\"\\n\n": at(2, 4),
		// another one behind a backslash
		`"\q"`: at(1, 3), `"\X41"`: at(1, 3), `"\'"`: at(1, 3), "\"\\\n\"": at(1, 3), "\"\\\x00\"": at(1, 3), "\"a\\\xff": at(1, 4), `"\N"`: at(1, 3), `"\ "`: at(1, 3), `"\0"`: at(1, 3),
		// the x, also where two digits lack
		`"\x"`: at(1, 3), `"\x4"`: at(1, 3), `"\x4g"`: at(1, 3), `"\x4A"`: at(1, 3), `"\xF0"`: at(1, 3), `"\x`: at(1, 3), `"\x4`: at(1, 3), `"\xg`: at(1, 3), `"\x 4"`: at(1, 3),
		"\"\\x\n4\"": at(1, 3), "\"\\x4\n\"": at(1, 3), `"a\x/0"`: at(1, 4), `"a\x0:"`: at(1, 4), "\"a\\x`0\"": at(1, 4), `"\\\x"`: at(1, 5),
		// the text's end
		`"`: at(1, 1), `"a`: at(1, 1), "\n a \"b;": at(2, 4), `"\`: at(1, 1), ` "a\`: at(1, 2), `"\"`: at(1, 1), `"" "\\\"`: at(1, 4), `"\x41`: at(1, 1), `"a"b"`: at(1, 5), `"\n`: at(1, 1),
		// its Text is too long
		" \"" + rep("a", 4097) + "\"": at(1, 2), "\"" + rep(`\x41`, 4097) + "\"": at(1, 1), "\"" + rep("a", 4097): at(1, 1),
		// what is met first
		"\"" + rep("a", 4097) + "\n\"": at(1, 4099), "\"" + rep("a", 4097) + "\\q\"": at(1, 4100), "\"" + rep("a", 4097) + "\" #": at(1, 1),
		"# \"": at(1, 1), "\"\n #": at(1, 2), `"\q\q"`: at(1, 3), "\"\\q\n": at(1, 3), "\"" + rep("a", 5000) + "\\": at(1, 1),
	})
}

func TestBetweenTokens(t *testing.T) {
	for src, want := range map[string][]Token{
		"": nil, " \t\n": nil, ";": nil, "; a ( \" \\ \x00 \xff\r": nil, ";\n;;\n": nil,
		"(a -1 \"x\\n\"":      {{Kind: Open, At: at(1, 1)}, {Kind: Name, At: at(1, 2), Text: "a"}, {Kind: Int, At: at(1, 4), Num: -1}, {Kind: Str, At: at(1, 7), Text: "x\n"}},
		"a\"b\"\"c\"A":        {{Kind: Name, At: at(1, 1), Text: "a"}, {Kind: Str, At: at(1, 2), Text: "b"}, {Kind: Str, At: at(1, 5), Text: "c"}, {Kind: Con, At: at(1, 8), Text: "A"}},
		"a;b\nc;":             {{Kind: Name, At: at(1, 1), Text: "a"}, {Kind: Name, At: at(2, 1), Text: "c"}},
		"\n\n\t\ta\tb \nc":    {{Kind: Name, At: at(3, 3), Text: "a"}, {Kind: Name, At: at(3, 5), Text: "b"}, {Kind: Name, At: at(4, 1), Text: "c"}},
		"\"é\"a;é\n)":         {{Kind: Str, At: at(1, 1), Text: "é"}, {Kind: Name, At: at(1, 5), Text: "a"}, {Kind: Close, At: at(2, 1)}},
		")(1(-a)":             {{Kind: Close, At: at(1, 1)}, {Kind: Open, At: at(1, 2)}, {Kind: Int, At: at(1, 3), Num: 1}, {Kind: Open, At: at(1, 4)}, {Kind: Name, At: at(1, 5), Text: "-a"}, {Kind: Close, At: at(1, 7)}},
		"\";\" ; \"\n\"\\n\"": {{Kind: Str, At: at(1, 1), Text: ";"}, {Kind: Str, At: at(2, 1), Text: "\n"}},
	} {
		got, p, err := Scan(src)
		if err != api.OK || p != (api.Pos{}) || len(got) != len(want) {
			t.Errorf("Scan(%q) = %v, %v, %v, not %v", src, got, p, err, want)
			continue
		}
		for i := range want {
			if got[i] != want[i] {
				t.Errorf("Scan(%q): token %d is %v, not %v", src, i, got[i], want[i])
			}
		}
	}
}

func TestHowLongATextIs(t *testing.T) {
	for src, want := range map[string]int{
		rep(" ", 65536): 0, rep("(", 65536): 65536, ";" + rep("#", 65535): 0, rep("a ", 32768): 32768, rep("\n", 65535) + "a": 1,
	} {
		if got, _, err := Scan(src); err != api.OK || len(got) != want {
			t.Errorf("Scan(%.10q..) = %d tokens, %v", src, len(got), err)
		}
	}
	for _, src := range []string{rep(" ", 65537), rep("(", 65537), "#" + rep(" ", 65536), "\"" + rep("\n", 65536), ";" + rep("#", 1<<20)} {
		if got, p, err := Scan(src); err != api.ErrBig || p != (api.Pos{}) || got != nil {
			t.Errorf("Scan(%.10q..) = %d tokens, %v, %v", src, len(got), p, err)
		}
	}
	if got, _, err := Scan(rep("\n", 65535) + "a"); err != api.OK || got[0].At != at(65536, 1) {
		t.Error(got, err)
	}
}

// TestBlanksAreNothing puts others between the tokens: they are the same, at other places.
func TestBlanksAreNothing(t *testing.T) {
	blanks := []string{" ", "\t", "\n", ";\n", "; \" ( \\ \x00#\n", " ;a;\n\t", "\n\n"}
	tokens := []string{"(", ")", `"a ; b\n"`, `""`, "a", "Con", "-1", "1.5", "-", "'a", "_", "->", "99"}
	r := rand.New(rand.NewSource(2))
	for range 3000 {
		var plain, other strings.Builder
		for range r.Intn(12) {
			w := tokens[r.Intn(len(tokens))]
			plain.WriteString(w + " ")
			other.WriteString(w)
			// Between brackets, strings and others there may be none.
			if strings.ContainsAny(w, `()"`) && r.Intn(2) == 0 {
				continue
			}
			for range 1 + r.Intn(3) {
				other.WriteString(blanks[r.Intn(len(blanks))])
			}
		}
		want, _, err := Scan(plain.String())
		got, _, err2 := Scan(other.String() + ";")
		if err != api.OK || err2 != api.OK || len(got) != len(want) {
			t.Fatal(plain.String(), other.String(), err, err2)
		}
		for i := range got {
			got[i].At, want[i].At = api.Pos{}, api.Pos{}
			if got[i] != want[i] {
				t.Fatal(plain.String(), other.String(), got[i], want[i])
			}
		}
	}
}

func TestAnswersAreNew(t *testing.T) {
	src := `(a "b" 1)`
	one, _, _ := Scan(src)
	clear(one[:cap(one)])
	two, _, _ := Scan(src)
	if len(two) != 5 || two[1].Text != "a" || two[2].Text != "b" || two[3].Num != 1 {
		t.Error(two)
	}
}

// TestKinds: what a token is, as a number.
func TestKinds(t *testing.T) {
	l, _, _ := Scan(`()1 1.5"a"a A`)
	for i, token := range l {
		if token.Kind != i {
			t.Error(i, token)
		}
	}
	if len(l) != 7 {
		t.Error(l)
	}
}
