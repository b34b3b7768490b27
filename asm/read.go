package asm

import (
	"strconv"
	"strings"

	"bellows/api"
	"bellows/code"
)

// reader stands at a line of a text. Once it is bad, it stays there, and what it takes means nothing.
type reader struct {
	behind string // the lines behind this one
	at     int    // the number of this one, from 1 on
	none   bool   // there are no more lines
	word   string // with which it begins; none, if it isn't ended
	parts  string // that are still to be taken
	more   bool   // are there any
	bad    bool
}

// next goes on to the next line. One that isn't ended gets no word: so it can't be any, wherever it stands.
func (r *reader) next() {
	r.at++
	r.none = r.behind == ""
	line, behind, ended := strings.Cut(r.behind, "\n")
	if !ended {
		line = ""
	}
	r.behind = behind
	r.word, r.parts, r.more = strings.Cut(line, " ")
}

// must: else the reader is bad.
func (r *reader) must(so bool) {
	if !so {
		r.bad = true
	}
}

// end goes on behind a line of which all parts must have been taken.
func (r *reader) end() {
	r.must(!r.more)
	if !r.bad {
		r.next()
	}
}

// lines takes what begins with that word, as long as there is some.
func lines[E any](r *reader, word string, take func() E) []E {
	var l []E
	for !r.bad && r.word == word {
		l = append(l, take())
	}
	return l
}

// image and what follows lean on the order in which Go makes a literal's calls: from the left to the right.
func (r *reader) image() api.Image {
	m := api.Image{
		Types:   lines(r, typeWord, r.kind),
		Shapes:  lines(r, shapeWord, r.shape),
		Strings: lines(r, stringWord, r.text),
		Names:   lines(r, nameWord, r.text),
		Funcs:   lines(r, funcWord, r.function),
		Main:    r.only(mainWord),
		Exn:     r.only(exnWord),
	}
	r.must(r.none)
	return m
}

// kind takes a type.
func (r *reader) kind() api.Type {
	t := api.Type{Imm: r.yes(), Shapes: r.list()}
	r.end()
	return t
}

func (r *reader) shape() api.Shape {
	return api.Shape{Kind: r.number(), Fields: r.list(), Name: r.text()}
}

func (r *reader) function() api.Func {
	f := api.Func{Params: r.list(), Result: r.number(), Slots: r.number()}
	r.end()
	f.Blocks = lines(r, blockWord, r.block)
	return f
}

func (r *reader) block() api.Block {
	b := api.Block{In: r.list()}
	r.end()
	for op := opOf(r.word); !r.bad && op != 0; op = opOf(r.word) {
		b.Code = append(b.Code, r.instr(op))
	}
	return b
}

func (r *reader) instr(op int) api.Instr {
	x := api.Instr{Op: op}
	for _, letter := range code.Uses(op) {
		r.field(&x, letter)
	}
	r.end()
	return x
}

// field takes what an instruction has by a letter of Uses.
func (r *reader) field(x *api.Instr, letter rune) {
	switch letter {
	case 'D':
		x.D = r.number()
	case 'A':
		x.A = r.number()
	case 'B':
		x.B = r.number()
	case 'C':
		x.C = r.number()
	case 'N':
		x.N = r.long()
	case 'L':
		x.L = r.list()
	case 'M':
		x.M = r.list()
	case 'l':
		x.Live = r.list()
	}
}

// only takes a line that there must be once.
func (r *reader) only(word string) int {
	r.must(r.word == word)
	n := r.number()
	r.end()
	return n
}

// part takes the next part, which is no list, and no text. Where there is no more, it is empty, which none may be.
func (r *reader) part() string {
	part, parts, more := strings.Cut(r.parts, " ")
	r.parts, r.more = parts, more
	return part
}

func (r *reader) yes() bool {
	part := r.part()
	r.must(part == yes(true) || part == yes(false))
	return part == yes(true)
}

func (r *reader) number() int { return int(r.long()) }

func (r *reader) long() int64 { return r.meant(r.part()) }

// meant is the number of some digits: they must be as they are written.
func (r *reader) meant(digits string) int64 {
	n, err := strconv.ParseInt(digits, 10, 64)
	r.must(err == nil && long(n) == digits)
	return n
}

func (r *reader) list() []int {
	list, parts, ended := strings.Cut(r.parts, ")")
	numbers, begun := strings.CutPrefix(list, "(")
	r.parts, r.more = strings.CutPrefix(parts, " ")
	r.must(begun && ended && (r.more || parts == ""))
	if numbers == "" {
		return nil
	}
	var l []int
	for _, digits := range strings.Split(numbers, " ") {
		l = append(l, int(r.meant(digits)))
	}
	return l
}

// text takes a text, which is all that is left of a line, and goes on behind that. It must be as it is written.
func (r *reader) text() string {
	s := unquoted(r.parts)
	r.must(quoted(s) == r.parts)
	r.parts, r.more = "", false
	r.end()
	return s
}

// unquoted is the text that is written so; of what isn't written as any text is, it means nothing.
func unquoted(written string) string {
	rest := strings.TrimSuffix(strings.TrimPrefix(written, `"`), `"`)
	var b strings.Builder
	for rest != "" {
		c, n := first(rest)
		b.WriteByte(c)
		rest = rest[n:]
	}
	return b.String()
}

// first is the byte that is written ahead of all, and of how many it is written.
func first(written string) (byte, int) {
	if written[0] != '\\' || len(written) == 1 {
		return written[0], 1
	}
	switch c := written[1]; {
	case c == 'n':
		return '\n', 2
	case c == 't':
		return '\t', 2
	case '0' <= c && c <= '9' && len(written) >= 4:
		return 100*(c-'0') + 10*(written[2]-'0') + written[3] - '0', 4
	default:
		return c, 2
	}
}
