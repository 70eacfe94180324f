package graph

import (
	"hawthorn/api"
	"hawthorn/op"
	"hawthorn/thread"
)

// perform does an operation of a thread that lives, but for its end.
func (g *Graph) perform(x api.Item, full bool) api.Answer {
	if e := op.Check(g.config, x); e != api.OK {
		return api.Answer{Err: e}
	}
	th := g.roots.Of(x.T)
	switch x.Code {
	case api.Alloc, api.Load, api.Move, api.Clear, api.Pop, api.GetG:
		return g.fetch(th, x, full)
	case api.Store, api.StoreS, api.Push, api.PutG:
		return api.Answer{Err: g.put(th, x)}
	}
	return g.ask(th, x)
}

// fetch does an operation by which register A becomes something.
func (g *Graph) fetch(th *thread.Thread, x api.Item, full bool) api.Answer {
	r, e := g.source(th, x, full)
	// An Alloc that has no room leaves 0 there; other errors change nothing.
	if e == api.OK || e == api.ErrMem {
		th.SetReg(x.A, r)
	}
	if e != api.OK || !op.Tells(x.Code) {
		return api.Answer{Err: e}
	}
	return api.Answer{Val: int(r)}
}

// source gives what register A is to become.
func (g *Graph) source(th *thread.Thread, x api.Item, full bool) (api.Ref, api.Errno) {
	switch x.Code {
	case api.Alloc:
		return g.bear(x.B, full)
	case api.Load:
		field, e := g.field(reg(th, x.B), x.C)
		if e != api.OK {
			return 0, e
		}
		return *field, api.OK
	case api.Move:
		return th.Reg(x.B)
	case api.Pop:
		return th.Pop()
	case api.GetG:
		return g.roots.Global(x.B)
	}
	return 0, api.OK // Clear
}

// put does an operation that changes what isn't a register.
func (g *Graph) put(th *thread.Thread, x api.Item) api.Errno {
	a := reg(th, x.A)
	switch x.Code {
	case api.Store:
		field, e := g.field(a, x.B)
		if e == api.OK {
			*field = reg(th, x.C)
		}
		return e
	case api.StoreS:
		o, e := g.object(a)
		if e == api.OK {
			o.scalar = x.B
		}
		return e
	case api.Push:
		return th.Push(a)
	}
	return g.roots.SetGlobal(x.B, a) // PutG
}

// ask does an operation that changes nothing.
func (g *Graph) ask(th *thread.Thread, x api.Item) api.Answer {
	a := reg(th, x.A)
	switch x.Code {
	case api.Eq:
		return truth(a == reg(th, x.B))
	case api.IsNil:
		return truth(a == 0)
	}
	o, e := g.object(a) // LoadS
	if e != api.OK {
		return api.Answer{Err: e}
	}
	return api.Answer{Val: o.scalar}
}

// truth is the answer of an operation that asks whether something is so.
func truth(so bool) api.Answer {
	if so {
		return api.Answer{Val: 1}
	}
	return api.Answer{}
}

// reg is one of a thread's registers.
func reg(th *thread.Thread, i int) api.Ref {
	r, _ := th.Reg(i)
	return r
}

// bear gives a new object of so many fields, unless it is told that there is no room.
func (g *Graph) bear(fields int, full bool) (api.Ref, api.Errno) {
	if full {
		return 0, api.ErrMem
	}
	g.objects = append(g.objects, object{fields: make([]api.Ref, fields)})
	return api.Ref(g.Born()), api.OK
}

// object gives the object that a register is; what it gives holds till the next object is born.
func (g *Graph) object(r api.Ref) (*object, api.Errno) {
	if r == 0 {
		return nil, api.ErrNil
	}
	return &g.objects[r-1], api.OK
}

// field gives one of its fields likewise.
func (g *Graph) field(r api.Ref, i int) (*api.Ref, api.Errno) {
	o, e := g.object(r)
	if e != api.OK {
		return nil, e
	}
	if i < 0 || i >= len(o.fields) {
		return nil, api.ErrField
	}
	return &o.fields[i], api.OK
}
