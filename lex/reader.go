package lex

import (
	"strings"

	"bellows/api"
)

// maxNum is the greatest number of a token.
const maxNum = 1<<62 - 1

// reader stands at a place of a text. Where one of its ways takes no token, the place means nothing any more.
type reader struct {
	src   string
	at    int
	words map[string]int
}

func (r *reader) atEnd() bool { return r.at == len(r.src) }

// sees: does s stand here?
func (r *reader) sees(s string) bool { return strings.HasPrefix(r.src[r.at:], s) }

// next: is there a byte here of which that holds?
func (r *reader) next(holds func(c byte) bool) bool { return !r.atEnd() && holds(r.src[r.at]) }

// skip goes on to where a token should begin, or to the end. If a remark isn't ended, it stays where the outermost one begins.
func (r *reader) skip() bool {
	for !r.atEnd() {
		switch {
		case isBlank(r.src[r.at]):
			r.at++
		case !r.sees("(*"):
			return true
		case !r.remark():
			return false
		}
	}
	return true
}

// remark counts how deep it stands, and doesn't call itself: a text may have thousands of remarks in one another.
func (r *reader) remark() bool {
	from, depth := r.at, 0
	for !r.atEnd() {
		switch {
		case r.sees("(*"):
			depth++
			r.at += 2
		case r.sees("*)"):
			depth--
			r.at += 2
		default:
			r.at++
		}
		if depth == 0 {
			return true
		}
	}
	r.at = from
	return false
}

// taker is the way to take the token that begins here: its first byte tells of which kind it can be.
func (r *reader) taker() func() (api.Token, bool) {
	switch c := r.src[r.at]; {
	case isDigit(c):
		return r.number
	case c == '"':
		return r.text
	case c == '\'':
		return r.variable
	case isSmall(c) || isGreat(c):
		return r.word
	default:
		return r.sign
	}
}

func (r *reader) number() (api.Token, bool) {
	n := int64(0)
	for r.next(isDigit) {
		d := int64(r.src[r.at] - '0')
		if n > (maxNum-d)/10 {
			return api.Token{}, false
		}
		n = 10*n + d
		r.at++
	}
	return api.Token{Kind: api.TokNum, N: n}, true
}

// variable takes a type variable: a mark alone is none.
func (r *reader) variable() (api.Token, bool) {
	from := r.at
	r.at++
	if !r.next(inName) {
		return api.Token{}, false
	}
	return api.Token{Kind: api.TokVar, Text: r.nameFrom(from)}, true
}

func (r *reader) word() (api.Token, bool) {
	name := r.nameFrom(r.at)
	return api.Token{Kind: r.kind(name), Text: name}, true
}

// kind is that of a word.
func (r *reader) kind(word string) int {
	if kind, known := r.words[word]; known {
		return kind
	}
	if isGreat(word[0]) {
		return api.TokCon
	}
	return api.TokName
}

// nameFrom goes behind the letters of a name, and gives what stands ahead, from that place on.
func (r *reader) nameFrom(from int) string {
	for r.next(inName) {
		r.at++
	}
	return strings.Clone(r.src[from:r.at])
}

func (r *reader) sign() (api.Token, bool) {
	from := r.at
	r.at += signLen(r.src[from:])
	if r.at == from {
		return api.Token{}, false
	}
	return api.Token{Kind: api.TokSign, Text: strings.Clone(r.src[from:r.at])}, true
}
