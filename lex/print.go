package lex

import (
	"strconv"
	"strings"

	"bellows/api"
)

// Print: P7.2.
func Print(l []api.Token) string {
	var b strings.Builder
	for i, t := range l {
		if i > 0 {
			b.WriteByte(' ')
		}
		switch t.Kind {
		case api.TokNum:
			b.WriteString(strconv.FormatInt(t.N, 10))
		case api.TokText:
			quote(&b, t.Text)
		default:
			b.WriteString(t.Text)
		}
	}
	return b.String()
}

// quote goes by bytes: a text need not be letters of any alphabet.
func quote(b *strings.Builder, s string) {
	b.WriteByte('"')
	for i := range len(s) {
		quoteByte(b, s[i])
	}
	b.WriteByte('"')
}

func quoteByte(b *strings.Builder, c byte) {
	switch {
	case c == '\n':
		b.WriteString(`\n`)
	case c == '\t':
		b.WriteString(`\t`)
	case c == '"' || c == '\\':
		b.WriteByte('\\')
		b.WriteByte(c)
	case c < ' ' || c > '~':
		b.WriteByte('\\')
		b.WriteByte('0' + c/100)
		b.WriteByte('0' + c/10%10)
		b.WriteByte('0' + c%10)
	default:
		b.WriteByte(c)
	}
}
