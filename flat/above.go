package flat

import "bellows/api"

// above is a number that is above those of all variables of a program.
func above(p *api.FProg) int {
	next := 0
	see := func(id int) { next = max(next, id+1) }
	for i := range p.Funs {
		for _, v := range p.Funs[i].Params {
			see(v.Id)
		}
		ids(&p.Funs[i].E, see)
	}
	ids(&p.Main, see)
	return next
}

// ids visits the numbers in a core.
func ids(c *api.Core, see func(id int)) {
	see(c.Id)
	for i := range c.L {
		ids(&c.L[i], see)
	}
	for i := range c.Funs {
		see(c.Funs[i].Id)
		ids(&c.Funs[i].E, see)
	}
	for i := range c.Ways {
		patIds(&c.Ways[i].P, see)
		ids(&c.Ways[i].E, see)
	}
}

func patIds(p *api.CPat, see func(id int)) {
	see(p.Id)
	for i := range p.L {
		patIds(&p.L[i], see)
	}
}
