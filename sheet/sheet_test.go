package sheet_test

import (
	"bytes"
	"math"
	"reflect"
	"testing"

	"folkmoot/api"
	"folkmoot/sheet"
)

func at(time int64, node int) api.Stamp { return api.Stamp{Time: time, Node: node} }

// all is one of each thing that is laid.
type all struct {
	ops    []api.Op
	deps   []api.Dep
	value  api.Value
	writes []api.Write
	pairs  []api.Pair
}

// some is several of all things; what they are told to be is not checked here, so they may be anything.
func some() []all {
	return []all{
		{},
		{
			ops:    []api.Op{{Kind: 6, Key: "a", To: "bc", Num: 7}, {Kind: -1, Key: "", To: "\x00", Num: math.MaxUint64}},
			deps:   []api.Dep{{Shard: 3, Ids: []api.Stamp{at(1, 2), at(0, 0)}}, {Shard: -3}},
			value:  api.Value{Gone: true, At: at(-1, 9), Deps: []api.Dep{{Shard: 1}, {Shard: 0, Ids: []api.Stamp{at(8, 8)}}}},
			writes: []api.Write{{Key: "b", Num: 5, Gone: true}, {Key: "a", Num: math.MaxUint64}},
			pairs:  []api.Pair{{Key: "b", Num: 5}, {}, {Key: "a", Num: 1 << 63}},
		},
		{ops: make([]api.Op, 300), pairs: make([]api.Pair, 300), writes: make([]api.Write, 300), deps: make([]api.Dep, 300)},
	}
}

func lay(x all) []byte {
	p := &sheet.Pen{}
	p.Ops(x.ops)
	p.Deps(x.deps)
	p.Value(x.value)
	p.Writes(x.writes)
	p.Pairs(x.pairs)
	return p.Bytes()
}

func read(b []byte) (all, api.Errno) {
	e := sheet.Open(b)
	x := all{ops: e.Ops(), deps: e.Deps()}
	x.value = e.Value()
	x.writes = e.Writes()
	x.pairs = e.Pairs()
	return x, e.Done()
}

func TestThereAndBack(t *testing.T) {
	for _, x := range some() {
		b := lay(x)
		got, err := read(b)
		if err != api.OK || !reflect.DeepEqual(got, x) {
			t.Errorf("got %#v, %d, want %#v", got, err, x)
		}
		if again := lay(got); !bytes.Equal(again, b) {
			t.Errorf("back and there: %x, was %x", again, b)
		}
	}
}

func TestLaidByHand(t *testing.T) {
	p := &sheet.Pen{}
	p.Value(api.Value{Gone: true, At: at(2, 3), Deps: []api.Dep{{Shard: 4, Ids: []api.Stamp{at(5, 6)}}}})
	p.Writes([]api.Write{{Key: "k", Num: 9, Gone: true}})
	p.Pairs([]api.Pair{{Key: "q", Num: 8}})
	var want []byte
	number := func(n byte) { want = append(want, n, 0, 0, 0, 0, 0, 0, 0) }
	want = append(want, 1)
	for _, n := range []byte{2, 3, 1, 4, 1, 5, 6, 1} {
		number(n)
	}
	want = append(want, 1, 0, 0, 0, 'k')
	number(9)
	want = append(want, 1)
	number(1)
	want = append(want, 1, 0, 0, 0, 'q')
	number(8)
	if got := p.Bytes(); !bytes.Equal(got, want) {
		t.Errorf("laid %x, want %x", got, want)
	}
}

func TestBytesThatEndTooEarlyOrTooLate(t *testing.T) {
	b := lay(some()[1])
	for i := range b {
		if _, err := read(b[:i]); err != api.ErrFlat {
			t.Errorf("%d bytes of %d: %d", i, len(b), err)
		}
	}
	if _, err := read(append(b, 0)); err != api.ErrFlat {
		t.Errorf("a byte more: %d", err)
	}
}

// Each list ends, is refused, and makes no room for what is not there, whatever number stands ahead of it.
func TestCountsThatLie(t *testing.T) {
	reads := map[string]func(*sheet.Eye) int{
		"ops":    func(e *sheet.Eye) int { return len(e.Ops()) },
		"deps":   func(e *sheet.Eye) int { return len(e.Deps()) },
		"value":  func(e *sheet.Eye) int { return len(e.Value().Deps) },
		"writes": func(e *sheet.Eye) int { return len(e.Writes()) },
		"pairs":  func(e *sheet.Eye) int { return len(e.Pairs()) },
	}
	for name, read := range reads {
		for _, n := range []int64{-1, -8, math.MinInt64, 100, 1 << 32, 1 << 60, math.MaxInt64} {
			for _, more := range []int{0, 1, 8, 100, 1000} {
				p := &sheet.Pen{}
				if name == "value" {
					p.Bool(false)
					p.Stamp(at(1, 1))
				}
				p.Int(n)
				e := sheet.Open(append(p.Bytes(), make([]byte, more)...))
				if got := read(e); got > more || n < 0 && got > 0 {
					t.Errorf("%s: %d of %d, with %d bytes", name, got, n, more)
				}
				if err := e.Done(); err != api.ErrFlat {
					t.Errorf("%s: %d of them, with %d bytes: %d", name, n, more, err)
				}
			}
		}
	}
	p := &sheet.Pen{}
	p.Int(-1)
	e := sheet.Open(p.Bytes())
	e.Pairs()
	if e.Left() != 0 || e.Done() != api.ErrFlat {
		t.Errorf("less than nothing: %d bytes are left, %d", e.Left(), e.Done())
	}
}
