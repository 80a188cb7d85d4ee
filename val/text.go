package val

import (
	"strings"

	"scriptor/api"
	"scriptor/num"
)

const hexDigits = "0123456789abcdef"

// Text: as people read it.
func Text(v api.Val) string {
	// What isn't in form may have no end.
	if Check(v) != api.OK {
		return ""
	}
	var b strings.Builder
	writeText(&b, v)
	return b.String()
}

func writeText(b *strings.Builder, v api.Val) {
	switch v.Kind {
	case api.Int:
		b.WriteString(num.Text(v.Num))
	case api.Float:
		b.WriteString(floatOf(v.Text).Bits())
	case api.Str:
		writeQuoted(b, v.Text)
	case api.Con:
		b.WriteByte('C')
		b.WriteString(num.Text(v.Num))
		if len(v.Kids) > 0 {
			writeKids(b, v.Kids)
		}
	case api.Tuple:
		writeKids(b, v.Kids)
	case api.Pref:
		b.WriteByte('@')
		b.WriteString(num.Text(v.Num))
	case api.Unit:
		b.WriteString("()")
	}
}

func writeKids(b *strings.Builder, kids []api.Val) {
	b.WriteByte('(')
	for i, k := range kids {
		if i > 0 {
			b.WriteByte(',')
		}
		writeText(b, k)
	}
	b.WriteByte(')')
}

func writeQuoted(b *strings.Builder, s string) {
	b.WriteByte('"')
	for i := range len(s) {
		switch c := s[i]; {
		case c == '"' || c == '\\':
			b.WriteByte('\\')
			b.WriteByte(c)
		case c < 32 || c > 126:
			b.WriteString("\\x")
			b.WriteByte(hexDigits[c>>4])
			b.WriteByte(hexDigits[c&15])
		default:
			b.WriteByte(c)
		}
	}
	b.WriteByte('"')
}
