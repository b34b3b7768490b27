package mono

import (
	"strconv"

	"bellows/api"
)

// family is a datatype's instance, at a row of types.
type family struct {
	of   *api.Data
	row  int
	mark string
}

// newFamily makes one. What its constructors reach is asked when it is written.
func (s *types) newFamily(d *api.Data, row int) typ {
	s.one()
	f := family{of: d, row: row}
	if row > 0 {
		f.mark = "@" + strconv.Itoa(s.number())
	}
	s.made = append(s.made, f)
	return typ{api.T{Kind: api.XCon, Name: d.Name + f.mark}, f.mark}
}

// begin reaches the datatypes that are always there, in the order in which Datas begin.
func (s *types) begin() {
	for _, name := range []string{"exn", "bool"} {
		if s.datas[name] != nil {
			s.typ(form{kind: api.XCon, name: name})
		}
	}
}

// families writes the instances of datatypes, those too that are reached by this.
func (s *types) families() []api.Data {
	var l []api.Data
	for i := 0; i < len(s.made); i++ {
		l = append(l, s.data(s.made[i]))
	}
	return l
}

func (s *types) data(f family) api.Data {
	r := newReader(s)
	r.put(f.of.Vars, f.row)
	return api.Data{Name: f.of.Name + f.mark, Cons: each(f.of.Cons, func(c *api.DataCon) api.DataCon {
		con := api.DataCon{Name: c.Name + f.mark, Has: c.Has}
		if c.Has {
			con.Arg = r.t(&c.Arg)
		}
		return con
	})}
}
