package elab

import (
	"math"
	"math/bits"
	"reflect"
)

// chance is a row of numbers, the same in each run.
type chance struct{ seed uint64 }

func (c *chance) next() uint64 {
	c.seed = c.seed*6364136223846793005 + 1442695040888963407
	return bits.RotateLeft64(c.seed, 27) ^ c.seed>>17
}

// below is a number from 0 to n - 1.
func (c *chance) below(n int) int { return int(c.next() % uint64(n)) }

// oneOf is one of a list.
func oneOf[E any](c *chance, l []E) E { return l[c.below(len(l))] }

// fill makes up any thing, most of which no text is read as, nothing answers.
func (c *chance) fill(to any, depth int) { c.fillIn(reflect.ValueOf(to).Elem(), depth) }

func (c *chance) fillIn(v reflect.Value, depth int) {
	switch v.Kind() {
	case reflect.Struct:
		for i := range v.NumField() {
			c.fillIn(v.Field(i), depth)
		}
	case reflect.Slice:
		if depth <= 0 || c.below(3) > 0 {
			return
		}
		n := c.below(4)
		v.Set(reflect.MakeSlice(v.Type(), n, n))
		for i := range n {
			c.fillIn(v.Index(i), depth-1)
		}
	case reflect.Int, reflect.Int64:
		v.SetInt(oneOf(c, []int64{0, 1, 1, 2, 3, 4, 5, 6, 7, 8, 9, 10, 11, 12, 13, -1, math.MinInt64, math.MaxInt64}))
	case reflect.String:
		v.SetString(oneOf(c, []string{"", "x", "x", "A", "+", "!", "'a", "'a", "Cons", "Nil", "true", "list", "int", "print", "ref", "sub", "t", "bool", "exn"}))
	case reflect.Bool:
		v.SetBool(c.below(2) == 0)
	}
}
