package sheet

import (
	"folkmoot/api"
	"folkmoot/flat"
)

// Eye is an eye of package flat that reads these, too; it checks nothing of them, but that they stand there whole.
type Eye struct {
	*flat.Eye
	lied bool // a list was said to have less than nothing
}

// Open is an eye at the front of the bytes as they are now.
func Open(b []byte) *Eye { return &Eye{Eye: flat.Open(b)} }

// Ops is the ops that stand there.
func (e *Eye) Ops() []api.Op { return list(e, (*Eye).op) }

// Deps is the dependencies that stand there.
func (e *Eye) Deps() []api.Dep { return list(e, (*Eye).dep) }

// Value is the value that stands there.
func (e *Eye) Value() api.Value {
	gone := e.Bool()
	at := e.Stamp()
	return api.Value{Gone: gone, At: at, Deps: e.Deps()}
}

// Writes is the writes that stand there.
func (e *Eye) Writes() []api.Write { return list(e, (*Eye).write) }

// Pairs is the pairs that stand there.
func (e *Eye) Pairs() []api.Pair { return list(e, (*Eye).pair) }

// Done tells whether all was read, and was such as is laid.
func (e *Eye) Done() api.Errno {
	if e.lied {
		return api.ErrFlat
	}
	return e.Eye.Done()
}

// list is as many as the number that stands there says, as far as they are there.
func list[T any](e *Eye, read func(*Eye) T) []T {
	count := e.Int()
	if count < 0 {
		e.lied = true
	}
	var l []T
	for range count {
		left := e.Left()
		x := read(e)
		// Nothing has no bytes: an eye that has not moved is blind, and would answer as often as it is asked.
		if e.Left() == left {
			break
		}
		l = append(l, x)
	}
	return l
}

// The parts of each stand in the order in which they are laid.

func (e *Eye) op() api.Op {
	kind := int(e.Int())
	key := e.Text()
	to := e.Text()
	return api.Op{Kind: kind, Key: key, To: to, Num: e.num()}
}

func (e *Eye) dep() api.Dep {
	shard := int(e.Int())
	return api.Dep{Shard: shard, Ids: e.Stamps()}
}

func (e *Eye) write() api.Write {
	key := e.Text()
	n := e.num()
	return api.Write{Key: key, Num: n, Gone: e.Bool()}
}

func (e *Eye) pair() api.Pair {
	key := e.Text()
	return api.Pair{Key: key, Num: e.num()}
}

func (e *Eye) num() api.Num { return api.Num(e.Int()) }
