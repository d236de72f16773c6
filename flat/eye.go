package flat

import (
	"bytes"

	"folkmoot/api"
)

// Eye reads what a pen has laid, from the front on. One goroutine at a time uses it.
type Eye struct {
	left  []byte // from where the eye is on
	blind bool
}

// blindness is what is panicked with, within, where what is asked does not stand whole.
type blindness struct{}

// Open is an eye at the front of the bytes as they are now.
func Open(b []byte) *Eye { return &Eye{left: bytes.Clone(b)} }

// Int is the number that stands there; 0, if there is none.
func (e *Eye) Int() int64 { return look(e, (*Eye).int) }

// Text is the text that stands there; "", if there is none.
func (e *Eye) Text() string { return look(e, (*Eye).text) }

// Bool is the truth that stands there; false, if there is none.
func (e *Eye) Bool() bool { return look(e, (*Eye).bool) }

// Stamp is the stamp that stands there; the zero Stamp, if there is none.
func (e *Eye) Stamp() api.Stamp { return look(e, (*Eye).stamp) }

// Stamps is the list of stamps that stands there; none, if there is none.
func (e *Eye) Stamps() []api.Stamp { return look(e, (*Eye).stamps) }

// Left is how many bytes stand from where the eye is on.
func (e *Eye) Left() int {
	if e == nil {
		return 0
	}
	return len(e.left)
}

// Done tells whether all was read, and was such as is laid.
func (e *Eye) Done() api.Errno {
	if e != nil && (e.blind || len(e.left) > 0) {
		return api.ErrFlat
	}
	return api.OK
}

// look is an eye's door: what read tells; or the eye is blind, and where it was, and the answer is zero.
func look[T any](e *Eye, read func(*Eye) T) (seen T) {
	if e == nil || e.blind {
		return seen
	}
	from := e.left
	defer func() {
		fault := recover()
		if fault == nil {
			return
		}
		if _, ok := fault.(blindness); !ok {
			// Nobody here has panicked with it, so it is not to be hidden.
			panic(fault)
		}
		e.left, e.blind = from, true
	}()
	return read(e)
}

func (e *Eye) int() int64 { return int64(e.number(numberSize)) }

func (e *Eye) text() string {
	size := e.number(lengthSize)
	if size > api.MaxFlat {
		panic(blindness{})
	}
	return string(e.take(int(size)))
}

func (e *Eye) bool() bool {
	n := e.number(1)
	if n > 1 {
		panic(blindness{})
	}
	return n == 1
}

func (e *Eye) stamp() api.Stamp {
	time := e.int()
	return api.Stamp{Time: time, Node: int(e.int())}
}

func (e *Eye) stamps() []api.Stamp {
	count := e.int()
	if count < 0 {
		panic(blindness{})
	}
	// No room is made ahead for what may not be there: the bytes end before a count that lies is reached.
	var l []api.Stamp
	for range count {
		l = append(l, e.stamp())
	}
	return l
}

// number is a number of that many bytes, the lowest first.
func (e *Eye) number(size int) uint64 {
	b := e.take(size)
	n := uint64(0)
	for i := range size {
		n |= uint64(b[i]) << (8 * i)
	}
	return n
}

// take is the next bytes, as many as size; the eye is behind them then.
func (e *Eye) take(size int) []byte {
	if size > len(e.left) {
		panic(blindness{})
	}
	taken := e.left[:size]
	e.left = e.left[size:]
	return taken
}
