package lex

import (
	"math/big"
	"regexp"
	"slices"
	"strconv"
	"strings"

	"bellows/api"
)

// The forms of tokens by the chapter's words. Of a text that is cut bytes are read as letters of one byte each, so that each has its place.
var (
	numAsTold  = regexp.MustCompile(`^[0-9]+$`)
	textAsTold = regexp.MustCompile(`^"(?:[ !#-\[\]-\x{ff}]|\\[nt\\"]|\\(?:[01][0-9][0-9]|2[0-4][0-9]|25[0-5]))*"$`)
	varAsTold  = regexp.MustCompile(`^'[a-zA-Z0-9_']+$`)
	wordAsTold = regexp.MustCompile(`^[a-zA-Z][a-zA-Z0-9_']*$`)
	partAsTold = regexp.MustCompile(`\\[0-9]{3}|\\.|[^\\]`)
)

// tokenAsTold is the token that s as a whole is.
func tokenAsTold(s string) (api.Token, bool) {
	letters := make([]rune, len(s))
	for i := range len(s) {
		letters[i] = rune(s[i])
	}
	wide := string(letters)
	switch {
	case numAsTold.MatchString(wide):
		n, _ := new(big.Int).SetString(s, 10)
		if !n.IsInt64() || n.Int64() >= 1<<62 {
			return api.Token{}, true
		}
		return num(0, n.Int64()), true
	case textAsTold.MatchString(wide):
		return text(0, meantAsTold(wide[1:len(wide)-1])), true
	case varAsTold.MatchString(wide):
		return variable(0, s), true
	case slices.Contains(wordsAsTold(), s), slices.Contains(signsAsTold(), s):
		return sign(0, s), true
	case !wordAsTold.MatchString(wide):
		return api.Token{}, false
	case s == "true" || s == "false" || s[0] >= 'A' && s[0] <= 'Z':
		return con(0, s), true
	}
	return name(0, s), true
}

// meantAsTold is the text that is meant by what stands between quotation marks.
func meantAsTold(wide string) string {
	var b []byte
	for _, part := range partAsTold.FindAllString(wide, -1) {
		switch {
		case part == `\n`:
			b = append(b, 10)
		case part == `\t`:
			b = append(b, 9)
		case len(part) == 4:
			n, _ := strconv.Atoi(part[1:])
			b = append(b, byte(n))
		default:
			letters := []rune(part)
			b = append(b, byte(letters[len(letters)-1]))
		}
	}
	return string(b)
}

// remarkAsTold is how many bytes the remark has with which s begins, -1, if it isn't ended.
func remarkAsTold(s string) int {
	at := 2
	for {
		switch {
		case at >= len(s):
			return -1
		case strings.HasPrefix(s[at:], "*)"):
			return at + 2
		case strings.HasPrefix(s[at:], "(*"):
			n := remarkAsTold(s[at:])
			if n < 0 {
				return -1
			}
			at += n
		default:
			at++
		}
	}
}

// longestAsTold is the longest token with which s begins, and how many bytes it has, 0, if there is none.
func longestAsTold(s string) (api.Token, int) {
	for n := len(s); n > 0; n-- {
		if t, ok := tokenAsTold(s[:n]); ok && t.Kind != 0 {
			return t, n
		} else if ok {
			return api.Token{}, 0
		}
	}
	return api.Token{}, 0
}

// lexAsTold is Lex by the chapter's words, at a pace that suits short texts.
func lexAsTold(src string) ([]api.Token, api.Errno, int) {
	if len(src) > api.MaxText {
		return nil, api.ErrBig, 0
	}
	var l []api.Token
	at := 0
	for at < len(src) {
		if strings.Contains(" \t\n\r", src[at:at+1]) {
			at++
			continue
		}
		if strings.HasPrefix(src[at:], "(*") {
			n := remarkAsTold(src[at:])
			if n < 0 {
				return nil, api.ErrLex, at
			}
			at += n
			continue
		}
		t, n := longestAsTold(src[at:])
		if n == 0 {
			return nil, api.ErrLex, at
		}
		if len(l) == api.MaxTokens {
			return nil, api.ErrBig, at
		}
		t.At = at
		l = append(l, t)
		at += n
	}
	return l, api.OK, 0
}

// printAsTold is Print by the chapter's words.
func printAsTold(l []api.Token) string {
	var parts []string
	for _, t := range l {
		switch t.Kind {
		case api.TokNum:
			parts = append(parts, big.NewInt(t.N).String())
		case api.TokText:
			s := `"`
			for i := range len(t.Text) {
				s += byteAsTold(t.Text[i])
			}
			parts = append(parts, s+`"`)
		default:
			parts = append(parts, t.Text)
		}
	}
	return strings.Join(parts, " ")
}
