package lex

import (
	"encoding/binary"
	"math"
	"math/big"
	"math/rand"
	"regexp"
	"strconv"
	"strings"
	"testing"
	"unicode/utf8"

	"scriptor/api"
)

// The model is a second way of reckoning: regular expressions, on a text of
// which each rune is one byte.
var (
	blanksModel = regexp.MustCompile(`^(?:[ \t\n]|;[^\n]*)*`)
	partsModel  = regexp.MustCompile(`^"(?:[^\x00-\x1f"\\]|\\["\\n]|\\x[0-9a-f][0-9a-f])*`)
	escapeModel = regexp.MustCompile(`\\(?:x..|.)`)
	wordModel   = regexp.MustCompile(`^[^ \t\n()";]+`)
	intModel    = regexp.MustCompile(`^-?[0-9]+$`)
	floatModel  = regexp.MustCompile(`^-?[0-9]+\.[0-9]+$`)
	conModel    = regexp.MustCompile(`^[A-Z][a-zA-Z0-9]{0,39}$`)
	nameModel   = regexp.MustCompile(`^[a-z'+*/<>=!?_.-][a-zA-Z0-9'+*/<>=!?_.-]{0,39}$`)
)

// wide is a text of which each rune is a byte of s; narrow: back again.
func wide(s string) string {
	var b strings.Builder
	for i := range len(s) {
		b.WriteRune(rune(s[i]))
	}
	return b.String()
}

func narrow(s string) string {
	var b []byte
	for _, r := range s {
		b = append(b, byte(r))
	}
	return string(b)
}

// place is where a byte of a text stands.
func place(src string, i int) api.Pos {
	return api.Pos{Line: 1 + strings.Count(src[:i], "\n"), Col: i - strings.LastIndex(src[:i], "\n")}
}

func modelWord(w string) (Token, bool) {
	digits := strings.TrimLeft(strings.Replace(w, ".", "", 1), "-")
	switch {
	case intModel.MatchString(w):
		n, _ := new(big.Int).SetString(w, 10)
		limit := new(big.Int).Lsh(big.NewInt(1), 62)
		ok := n.Cmp(new(big.Int).Neg(limit)) >= 0 && n.Cmp(limit) < 0
		return Token{Kind: Int, Num: int(n.Int64())}, ok
	case floatModel.MatchString(w) && len(digits) <= 15:
		f, _ := strconv.ParseFloat(w, 64)
		return Token{Kind: Float, Text: string(binary.BigEndian.AppendUint64(nil, math.Float64bits(f)))}, true
	case conModel.MatchString(w):
		return Token{Kind: Con, Text: w}, true
	}
	return Token{Kind: Name, Text: w}, nameModel.MatchString(w)
}

// modelStr is the string at the beginning of s; where it is wrong, and false.
func modelStr(s string) (text string, size int, ok bool) {
	parts := partsModel.FindString(s)
	size = utf8.RuneCountInString(parts)
	rest := s[len(parts):]
	if rest == "" || rest == `\` {
		return "", 0, false
	}
	if rest[0] == '\\' {
		return "", size + 1, false
	}
	if rest[0] != '"' {
		return "", size, false
	}
	text = escapeModel.ReplaceAllStringFunc(parts[1:], func(e string) string {
		if e[1] == 'n' {
			return "\n"
		}
		if e[1] != 'x' {
			return e[1:]
		}
		n, _ := strconv.ParseUint(e[2:], 16, 8)
		return string(rune(n))
	})
	if utf8.RuneCountInString(text) > 4096 {
		return "", 0, false
	}
	return narrow(text), size + 1, true
}

// model is Scan.
func model(src string) ([]Token, api.Pos, api.Errno) {
	if len(src) > 65536 {
		return nil, api.Pos{}, api.ErrBig
	}
	var out []Token
	for rest := wide(src); ; {
		rest = rest[len(blanksModel.FindString(rest)):]
		i := len(src) - utf8.RuneCountInString(rest)
		if rest == "" {
			return out, api.Pos{}, api.OK
		}
		var t Token
		size, wrong, ok := 1, 0, true
		switch rest[0] {
		case '(':
			t.Kind = Open
		case ')':
			t.Kind = Close
		case '"':
			t.Kind = Str
			if t.Text, size, ok = modelStr(rest); !ok {
				wrong = size
			}
		default:
			w := wordModel.FindString(rest)
			size = utf8.RuneCountInString(w)
			t, ok = modelWord(w)
		}
		if !ok {
			return nil, place(src, i+wrong), api.ErrSyntax
		}
		t.At = place(src, i)
		out = append(out, t)
		rest = wide(narrow(rest)[size:])
	}
}

func check(t *testing.T, src string) {
	t.Helper()
	got, at, err := Scan(src)
	want, wantAt, wantErr := model(src)
	if at != wantAt || err != wantErr || len(got) != len(want) {
		t.Fatalf("Scan(%q) = %v, %v, %v, not %v, %v, %v", src, got, at, err, want, wantAt, wantErr)
	}
	for i := range got {
		if got[i] != want[i] {
			t.Fatalf("Scan(%q): token %d is %v, not %v", src, i, got[i], want[i])
		}
	}
}

var pieces = []string{
	"(", ")", `"`, `"`, `"`, `\`, `\`, "x", "n", "4", "0", "f", "F", " ", "\t", "\n", ";", "a", "z", "A", "Z", "-", ".", "1", "9",
	"'", "+", "*", "/", "<", ">", "=", "!", "?", "_", "#", ",", "@", "[", "`", "{", ":", "\x00", "\x1f", "\x7f", "\x80", "\xff", "\r",
	"12", "-5", "4611686018427387903", "4611686018427387904", "-4611686018427387904", "-4611686018427387905",
	`"ab"`, `\x41`, `\x4`, `\"`, `\\`, `\n`, "1.5", "-0.0", "12345678901234.5", "123456789012345.6", "-12345678901234567.8",
	"(do ", "Cons", "x1", "-x", "é", "; ( \"\n", "abcdefghijklmnopqrstuvwxyz0123456789-+*", strings.Repeat("é", 9),
}

// random is a text of so many pieces at most.
func random(r *rand.Rand, most int) string {
	var b strings.Builder
	for range r.Intn(most + 1) {
		b.WriteString(pieces[r.Intn(len(pieces))])
	}
	return b.String()
}

func TestRandomTexts(t *testing.T) {
	r := rand.New(rand.NewSource(1))
	for range 60000 {
		check(t, random(r, 6))
	}
	for range 20000 {
		check(t, random(r, 25))
	}
	for range 2000 {
		b := make([]byte, r.Intn(30))
		r.Read(b)
		check(t, string(b))
	}
}

// TestEachByte tries each byte in each place in which it may mean something.
func TestEachByte(t *testing.T) {
	for c := range 256 {
		b := string([]byte{byte(c)})
		for _, around := range []string{
			"%", "a%", "%a", "A%", "%A", "1%", "-%", "-%1", "1.%", "%.5", "-1%5", "(%)", "\n%", "a %b", "%%",
			`"%"`, `"\%"`, `"\%`, `"\x%0"`, `"\x0%"`, `"\x0%`, `"\x%`, `"%`, "; %\n(", ";%", `a%"b"`, `"a"%"b"`, `"a" ;%"`,
		} {
			check(t, strings.ReplaceAll(around, "%", b))
		}
	}
}
