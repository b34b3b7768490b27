package parse

import "math/bits"

// chance is a row of numbers, the same in each run.
type chance struct{ seed uint64 }

func (c *chance) next() uint64 {
	c.seed = c.seed*6364136223846793005 + 1442695040888963407
	return bits.RotateLeft64(c.seed, 27) ^ c.seed>>17
}

// below is a number from 0 to n - 1.
func (c *chance) below(n int) int { return int(c.next() % uint64(n)) }

// oneOf is one of a list.
func oneOf[E any](c *chance, l []E) E { return l[c.below(len(l))] }
