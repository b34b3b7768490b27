package elab

import "bellows/parse"

// ahead is what stands ahead of each program, but for what no text says: types that have no constructors, and exn.
const ahead = `
datatype bool = false | true
datatype 'a list = Nil | Cons of 'a * 'a list
exception Match
exception Div
exception Subscript
exception Size
in ()`

// begin: P9.1, what there is to begin with.
func (c *checker) begin() {
	c.num = c.addFamily("int").t
	c.text = c.addFamily("string").t
	c.addFamily("ref", newGeneric())
	c.addFamily("array", newGeneric())
	c.exns = c.addFamily("exn")
	c.exn, c.unit = c.exns.t, tuple()
	c.datas = []*family{c.exns}
	e, _, _ := parse.Parse(ahead)
	for i := range e.Decs {
		c.dec(&e.Decs[i])
	}
	c.truth = c.types.now["bool"].t
	c.prims = c.reckonings()
	for _, name := range []string{"print", "putc", "getc", "size", "byte", "cmp", "ref", "array", "length", "sub", "update"} {
		c.vars.add(name, &variable{name: name, prim: c.prims[name]})
	}
}
