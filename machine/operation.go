package machine

import (
	"hawthorn/api"
	"hawthorn/cell"
	"hawthorn/op"
)

// operations gives what does an operation of each code, all of whose numbers are such as may be.
func operations() []func(*Machine, api.Item) api.Answer {
	return []func(*Machine, api.Item) api.Answer{
		api.Alloc:  (*Machine).alloc,
		api.Load:   (*Machine).load,
		api.Store:  (*Machine).store,
		api.LoadS:  (*Machine).loadScalar,
		api.StoreS: (*Machine).storeScalar,
		api.Move:   (*Machine).move,
		api.Clear:  (*Machine).clear,
		api.Eq:     (*Machine).same,
		api.IsNil:  (*Machine).isNil,
		api.Push:   (*Machine).push,
		api.Pop:    (*Machine).pop,
		api.GetG:   (*Machine).getGlobal,
		api.PutG:   (*Machine).putGlobal,
	}
}

// perform does a thread's operation, but for its end.
func (x *Machine) perform(t int) Result {
	x.threads[t].at = done
	i := x.threads[t].item
	if e := op.Check(x.config, i); e != api.OK {
		return refused(e)
	}
	r := Result{Answer: operations()[i.Code](x, i)}
	if r.Err == api.OK && op.Tells(i.Code) {
		r.Ref = x.reg(i.T, i.A)
	}
	return r
}

// outcome is the answer of an operation that answers no number.
func outcome(e api.Errno) api.Answer { return api.Answer{Err: e} }

// truth is the answer of an operation that asks whether something is so.
func truth(so bool) api.Answer {
	if so {
		return api.Answer{Val: 1}
	}
	return api.Answer{}
}

// reg is a register of a thread that lives.
func (x *Machine) reg(t, i int) api.Ref {
	r, _ := x.roots.Of(t).Reg(i)
	return r
}

// become lets the operation's register A become something else, if there was no error.
func (x *Machine) become(i api.Item, r api.Ref, e api.Errno) api.Answer {
	if e == api.OK {
		x.roots.Of(i.T).SetReg(i.A, r)
	}
	return outcome(e)
}

// alloc bears an object, if there is room; register A becomes 0, if there is none.
func (x *Machine) alloc(i api.Item) api.Answer {
	r, e := cell.New(x.Arena(), i.B)
	x.become(i, r, api.OK)
	if x.bornBlack(r) {
		x.marker.Blacken(r)
	}
	return outcome(e)
}

// bornBlack: is a new object black? If its page is still to be swept, it must be, or it would be given back.
func (x *Machine) bornBlack(r api.Ref) bool {
	switch x.Phase() {
	case api.Scanning, api.Marking:
		return x.config.Black
	case api.Sweeping:
		return x.sweeper.Ahead(r)
	}
	return false
}

func (x *Machine) load(i api.Item) api.Answer {
	r, e := cell.Field(x.Arena(), x.reg(i.T, i.B), i.C)
	return x.become(i, r, e)
}

// target gives the object that a Store writes to (0: it is a PutG), and what stands there now. The operation's
// numbers are such as may be.
func (x *Machine) target(i api.Item) (src, old api.Ref, e api.Errno) {
	if i.Code == api.PutG {
		old, e = x.roots.Global(i.B)
		return 0, old, e
	}
	src = x.reg(i.T, i.A)
	old, e = cell.Field(x.Arena(), src, i.B)
	return src, old, e
}

// write does a Store or a PutG, and keeps what that did for the operation's end.
func (x *Machine) write(i api.Item, to api.Ref) api.Answer {
	src, old, e := x.target(i)
	if e != api.OK {
		return outcome(e)
	}
	if i.Code == api.PutG {
		x.roots.SetGlobal(i.B, to)
	} else {
		cell.SetField(x.Arena(), src, i.B, to)
	}
	of := &x.threads[i.T]
	of.wrote = true
	of.write = api.Write{Src: src, Old: old, New: to, Black: x.marker.Scanned(src), Early: of.write.Early}
	return api.Answer{}
}

func (x *Machine) store(i api.Item) api.Answer { return x.write(i, x.reg(i.T, i.C)) }

func (x *Machine) putGlobal(i api.Item) api.Answer { return x.write(i, x.reg(i.T, i.A)) }

func (x *Machine) getGlobal(i api.Item) api.Answer {
	r, e := x.roots.Global(i.B)
	return x.become(i, r, e)
}

func (x *Machine) loadScalar(i api.Item) api.Answer {
	n, e := cell.Scalar(x.Arena(), x.reg(i.T, i.A))
	return api.Answer{Err: e, Val: n}
}

func (x *Machine) storeScalar(i api.Item) api.Answer {
	return outcome(cell.SetScalar(x.Arena(), x.reg(i.T, i.A), i.B))
}

func (x *Machine) move(i api.Item) api.Answer { return x.become(i, x.reg(i.T, i.B), api.OK) }

func (x *Machine) clear(i api.Item) api.Answer { return x.become(i, 0, api.OK) }

func (x *Machine) same(i api.Item) api.Answer { return truth(x.reg(i.T, i.A) == x.reg(i.T, i.B)) }

func (x *Machine) isNil(i api.Item) api.Answer { return truth(x.reg(i.T, i.A) == 0) }

func (x *Machine) push(i api.Item) api.Answer {
	return outcome(x.roots.Of(i.T).Push(x.reg(i.T, i.A)))
}

func (x *Machine) pop(i api.Item) api.Answer {
	r, e := x.roots.Of(i.T).Pop()
	return x.become(i, r, e)
}
