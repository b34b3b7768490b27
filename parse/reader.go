package parse

import (
	"slices"

	"bellows/api"
)

// reader has the tokens that are still to be read, where the text ends, and in how many forms that are counted it is.
type reader struct {
	rest  []api.Token
	end   int
	depth int
}

// here is the next token: behind the last one, one of no kind, where the text ends.
func (r *reader) here() api.Token {
	if len(r.rest) == 0 {
		return api.Token{At: r.end}
	}
	return r.rest[0]
}

// stop gives up at the next token.
func (r *reader) stop(err api.Errno) {
	panic(refused{err, r.here().At})
}

// is: is the next token of one of these kinds?
func (r *reader) is(kinds ...int) bool {
	return slices.Contains(kinds, r.here().Kind)
}

// sees: is the next token one of these signs?
func (r *reader) sees(signs ...string) bool {
	return r.is(api.TokSign) && slices.Contains(signs, r.here().Text)
}

// takes goes behind the next token, if it is one of these signs.
func (r *reader) takes(signs ...string) bool {
	if !r.sees(signs...) {
		return false
	}
	r.rest = r.rest[1:]
	return true
}

// need goes behind the next token, which must be that sign.
func (r *reader) need(sign string) {
	if !r.takes(sign) {
		r.stop(api.ErrParse)
	}
}

// needs goes behind the next token, which must be of one of these kinds.
func (r *reader) needs(kinds ...int) api.Token {
	t := r.here()
	if !r.is(kinds...) {
		r.stop(api.ErrParse)
	}
	r.rest = r.rest[1:]
	return t
}

// within reads a form that is counted. How deep it stands is asked ahead of its first token, whatever that is.
func within[F any](r *reader, form func() F) F {
	if r.depth == api.MaxNest {
		r.stop(api.ErrBig)
	}
	r.depth++
	f := form()
	r.depth--
	return f
}

// row reads a part, and one more behind each sign.
func row[F any](r *reader, sign string, part func() F) []F {
	l := []F{part()}
	for r.takes(sign) {
		l = append(l, part())
	}
	return l
}

// closed reads what ends with a closing bracket: a row with commas, or nothing.
func closed[F any](r *reader, closing string, part func() F) []F {
	if r.takes(closing) {
		return nil
	}
	l := row(r, ",", part)
	r.need(closing)
	return l
}

// joins makes a form of what stands on both sides of a sign.
type joins func(sign string, a, b api.Exp) api.Exp

// repeated reads on behind a, while there are signs: all that is ahead of a sign is its left side.
func (r *reader) repeated(a api.Exp, part func() api.Exp, join joins, signs ...string) api.Exp {
	for r.sees(signs...) {
		sign := r.needs(api.TokSign).Text
		a = join(sign, a, part())
	}
	return a
}

// once reads on behind a, if there is a sign, but not behind what is to the right of it.
func (r *reader) once(a api.Exp, part func() api.Exp, join joins, signs ...string) api.Exp {
	if !r.sees(signs...) {
		return a
	}
	sign := r.needs(api.TokSign).Text
	return join(sign, a, part())
}
