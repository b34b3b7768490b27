package lex

import "bellows/api"

// text takes what stands between two quotation marks.
func (r *reader) text() (api.Token, bool) {
	r.at++
	var b []byte
	for !r.atEnd() && r.src[r.at] != '"' {
		c, ok := r.meant()
		if !ok {
			return api.Token{}, false
		}
		b = append(b, c)
	}
	if r.atEnd() {
		return api.Token{}, false
	}
	r.at++
	return api.Token{Kind: api.TokText, Text: string(b)}, true
}

// meant takes one byte of a text, as it stands, or as it is written behind a backslash.
func (r *reader) meant() (byte, bool) {
	c := r.src[r.at]
	r.at++
	if c == '\\' {
		return r.escaped()
	}
	return c, c >= ' '
}

func (r *reader) escaped() (byte, bool) {
	if r.next(isDigit) {
		return r.byNumber()
	}
	if r.atEnd() {
		return 0, false
	}
	c := r.src[r.at]
	r.at++
	switch c {
	case 'n':
		return '\n', true
	case 't':
		return '\t', true
	case '\\', '"':
		return c, true
	}
	return 0, false
}

// byNumber takes three digits, the number of a byte.
func (r *reader) byNumber() (byte, bool) {
	n := 0
	for range 3 {
		if !r.next(isDigit) {
			return 0, false
		}
		n = 10*n + int(r.src[r.at]-'0')
		r.at++
	}
	return byte(n), n <= 255
}
