package wire_test

import (
	"bytes"
	"math"
	"reflect"
	"slices"
	"strings"
	"testing"

	"folkmoot/api"
	"folkmoot/wire"
)

// roomy is a copy of a list with spare elements behind it.
func roomy[T any](l []T, spare T) []T { return append(slices.Clone(l), spare, spare, spare)[:len(l)] }

// spoil writes over all of a list, and over its spare room.
func spoil[T any](l []T, with T) {
	l = l[:cap(l)]
	for i := range l {
		l[i] = with
	}
}

// What is written over lists, or stands in their spare room.

func spareOp() api.Op { return api.Op{Kind: -7, Key: "spare", To: "room", Num: 77} }

func spareWrite() api.Write { return api.Write{Key: "spare", Num: 77, Gone: true} }

func sparePair() api.Pair { return api.Pair{Key: "spare", Num: 77} }

func roomyDeps(d []api.Dep) []api.Dep {
	var l []api.Dep
	for _, x := range d {
		l = append(l, dep(x.Shard, roomy(x.Ids, at(-77, -77))...))
	}
	return roomy(l, dep(-77, at(-7, -7)))
}

func spoilDeps(d []api.Dep) {
	for _, x := range d {
		spoil(x.Ids, at(-99, -99))
	}
	spoil(d, dep(-99))
}

// roomyMsg is a copy of a message, whose lists have spare room.
func roomyMsg(m api.Msg) api.Msg {
	m.Ops, m.Writes, m.Pairs = roomy(m.Ops, spareOp()), roomy(m.Writes, spareWrite()), roomy(m.Pairs, sparePair())
	m.Deps, m.Value.Deps = roomyDeps(m.Deps), roomyDeps(m.Value.Deps)
	return m
}

func spoilMsg(m api.Msg) {
	spoil(m.Ops, spareOp())
	spoil(m.Writes, spareWrite())
	spoil(m.Pairs, sparePair())
	spoilDeps(m.Deps)
	spoilDeps(m.Value.Deps)
}

// whole is all lists of a message to the end of their spare room, in memory of its own.
func whole(m api.Msg) api.Msg {
	wholeDeps := func(d []api.Dep) []api.Dep {
		var l []api.Dep
		for _, x := range d[:cap(d)] {
			l = append(l, dep(x.Shard, slices.Clone(x.Ids[:cap(x.Ids)])...))
		}
		return l
	}
	m.Ops, m.Writes, m.Pairs = slices.Clone(m.Ops[:cap(m.Ops)]), slices.Clone(m.Writes[:cap(m.Writes)]), slices.Clone(m.Pairs[:cap(m.Pairs)])
	m.Deps, m.Value.Deps = wholeDeps(m.Deps), wholeDeps(m.Value.Deps)
	return m
}

// several is messages that may be, and some that may not.
func several() []api.Msg {
	l := messages()
	dice := dice(33)
	for range 300 {
		l = append(l, spoilt(dice, anyMsg(dice)))
	}
	for _, kind := range kinds() {
		l = append(l, everything(kind))
	}
	return l
}

// Rule 3: what is handed in is not changed, its spare room neither.
func TestWhatIsHandedInStays(t *testing.T) {
	for _, m := range several() {
		a := roomyMsg(m)
		old := whole(a)
		wire.Check(a)
		b, err := wire.Put(a)
		if !reflect.DeepEqual(whole(a), old) {
			t.Fatalf("changed: %#v, was %#v", whole(a), old)
		}
		if err != api.OK {
			continue
		}
		room := roomy(b, 77)
		oldBytes := bytes.Clone(room[:cap(room)])
		wire.Parse(room)
		wire.Parse(room[:len(room)-1])
		if !bytes.Equal(room[:cap(room)], oldBytes) {
			t.Fatalf("the bytes are %x, were %x", room[:cap(room)], oldBytes)
		}
	}
}

// Rule 3: answers are new each time, and keep nothing of what is handed in.
func TestAnswersLieApart(t *testing.T) {
	for _, m := range messages() {
		a := roomyMsg(m)
		first, second := bytesOf(t, a), bytesOf(t, a)
		want := bytes.Clone(first)
		spoil(first, 99)
		spoilMsg(a)
		if !bytes.Equal(second, want) {
			t.Fatalf("two answers share: %x, was %x", second, want)
		}
		got, _ := wire.Parse(second)
		again, _ := wire.Parse(second)
		spoil(second, 0)
		if !same(got, m) || !same(again, m) {
			t.Fatalf("the bytes are other ones now: %#v and %#v, were %#v", got, again, m)
		}
		spoilMsg(got)
		if !same(again, m) {
			t.Fatalf("two answers share: %#v, was %#v", again, m)
		}
	}
}

// Rule 3: the lists of one answer share nothing.
func TestListsOfAMessageLieApart(t *testing.T) {
	want := good(api.MsgTold)
	m, _ := wire.Parse(bytesOf(t, want))
	spoilDeps(m.Deps)
	spoil(m.Ops, spareOp())
	if !reflect.DeepEqual(m.Value, want.Value) {
		t.Errorf("the value: %#v", m.Value)
	}
	m, _ = wire.Parse(bytesOf(t, with(want, set("Deps", full()))))
	for i := range m.Deps {
		spoil(m.Deps[i].Ids, none())
		if i+1 < len(m.Deps) && !slices.Equal(m.Deps[i+1].Ids, full()[i+1].Ids) {
			t.Errorf("the Ids of the next shard: %v", m.Deps[i+1].Ids)
		}
	}
}

// Rule 4: the calls hang on nothing else.
func TestTheSameAgain(t *testing.T) {
	l := several()
	var errs []api.Errno
	var laid [][]byte
	for _, m := range l {
		errs = append(errs, wire.Check(m))
		b, _ := wire.Put(m)
		laid = append(laid, b)
	}
	for i := len(l) - 1; i >= 0; i-- {
		b, err := wire.Put(l[i])
		if wire.Check(l[i]) != errs[i] || err != errs[i] || !bytes.Equal(b, laid[i]) {
			t.Errorf("not the same again: %#v", l[i])
		}
	}
}

// Rule 1: much of it, and wild ones.
func TestMuchIsAnswered(t *testing.T) {
	const n = 200000
	for _, kind := range append(kinds(), 0, 18) {
		m := everything(kind)
		m.Ops, m.Deps, m.Writes, m.Pairs = make([]api.Op, n), make([]api.Dep, n), make([]api.Write, n), make([]api.Pair, n)
		m.Value = value(at(6, 1), make([]api.Dep, n)...)
		wantCheck(t, "much", m, api.ErrWire)
		m = with(good(kind), set("Value", value(at(6, 1), dep(0, make([]api.Stamp, n)...))))
		wantCheck(t, "many Ids", m, api.ErrWire)
	}
	long := strings.Repeat("k", api.MaxFlat+5)
	wantCheck(t, "a long key", with(good(api.MsgPairs), set("Pairs", []api.Pair{{Key: long, Num: math.MaxUint64}})), api.ErrWire)
	w, p := many(1 << 16)
	wantParse(t, "many writes", bytesOf(t, with(good(api.MsgApply), set("Writes", w))), with(good(api.MsgApply), set("Writes", w)))
	wantParse(t, "many pairs", bytesOf(t, with(good(api.MsgPairs), set("Pairs", p))), with(good(api.MsgPairs), set("Pairs", p)))
	wantNoMsg(t, "zeros", make([]byte, 1<<22))
	wantNoMsg(t, "bytes of 255", bytes.Repeat([]byte{255}, 1<<20))
	wantNoMsg(t, "bytes of 1", summed(bytes.Repeat([]byte{1}, 1<<20)))
}
