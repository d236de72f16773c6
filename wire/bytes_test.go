package wire_test

import (
	"bytes"
	"math"
	"reflect"
	"testing"

	"folkmoot/api"
	"folkmoot/flat"
	"folkmoot/wire"
)

// same tells whether two messages are alike; empty lists and none are.
func same(a, b api.Msg) bool { return reflect.DeepEqual(plain(a), plain(b)) }

// plain is a message whose empty lists are none.
func plain(m api.Msg) api.Msg {
	m.Deps, m.Value.Deps = plainDeps(m.Deps), plainDeps(m.Value.Deps)
	m.Ops, m.Writes, m.Pairs = append([]api.Op(nil), m.Ops...), append([]api.Write(nil), m.Writes...), append([]api.Pair(nil), m.Pairs...)
	return m
}

func plainDeps(d []api.Dep) []api.Dep {
	var l []api.Dep
	for _, x := range d {
		l = append(l, dep(x.Shard, append([]api.Stamp(nil), x.Ids...)...))
	}
	return l
}

// bytesOf is the bytes of a message that may be.
func bytesOf(t *testing.T, m api.Msg) []byte {
	t.Helper()
	b, err := wire.Put(m)
	if err != api.OK {
		t.Fatalf("Put(%#v): %d", m, err)
	}
	return b
}

func wantParse(t *testing.T, what string, b []byte, want api.Msg) {
	t.Helper()
	got, err := wire.Parse(b)
	if !same(got, want) || err != api.OK {
		t.Fatalf("%s: Parse(%x):\n got %#v, %d,\nwant %#v", what, b, got, err, want)
	}
}

func wantNoMsg(t *testing.T, what string, b []byte) {
	t.Helper()
	got, err := wire.Parse(b)
	if !reflect.DeepEqual(got, api.Msg{}) || err != api.ErrWire {
		t.Fatalf("%s: Parse(%x): %#v, %d, want the zero Msg and ErrWire", what, b, got, err)
	}
}

// laid is bytes by hand: an int as eight bytes, a text as four that say how many it has, and these, the lowest first; a bool as one.
func laid(l ...any) []byte {
	var b []byte
	for _, x := range l {
		switch x := x.(type) {
		case int:
			b = append(b, lowest(uint64(x), 8)...)
		case string:
			b = append(append(b, lowest(uint64(len(x)), 4)...), x...)
		case bool:
			b = append(b, 0)
			if x {
				b[len(b)-1] = 1
			}
		}
	}
	return b
}

// lowest is that many bytes of a number, the lowest first.
func lowest(n uint64, size int) []byte {
	var b []byte
	for i := range size {
		b = append(b, byte(n>>(8*i)))
	}
	return b
}

// summed is bytes, and their sum behind them.
func summed(b []byte) []byte {
	sum := uint64(14695981039346656037)
	for _, x := range b {
		sum = (sum ^ uint64(x)) * 1099511628211
	}
	return append(bytes.Clone(b), lowest(sum, 8)...)
}

// messages is several of each kind.
func messages() []api.Msg {
	var l []api.Msg
	for _, kind := range kinds() {
		m := good(kind)
		l = append(l, m, with(m, set("From", 7), set("To", 7), set("Id", at(1, 1))))
		for _, name := range own(kind) {
			x := take(m, api.Msg{}, name)
			if wire.Check(x) == api.OK {
				l = append(l, x)
			}
		}
	}
	for _, kind := range []int{api.MsgAccept, api.MsgDecide, api.MsgKnown, api.MsgTold} {
		dead := with(good(kind), set("Value", gone()))
		l = append(l, dead, take(dead, api.Msg{}, "Ops"))
	}
	return append(l, with(good(api.MsgTold), set("Has", false), set("Acc", none()), set("Value", api.Value{})))
}

// P13.2
func TestPutByHand(t *testing.T) {
	const five, three, minus = 0x4014000000000000, 0x4008000000000000, -0x3fec000000000000
	hung := []any{2, 0, 2, 1, 1, 4, 7, 3, 0}
	ops := []any{2, api.OpGet, "a", "", 0, api.OpMove, "b", "c", three}
	row := func(parts ...[]any) []byte {
		var all []any
		for _, x := range parts {
			all = append(all, x...)
		}
		return summed(laid(all...))
	}
	for _, x := range []struct {
		m    api.Msg
		want []byte
	}{
		{bare(api.MsgForget), row([]any{17, 1, 2, 5, 2, 0, 0, 0, 0, 0, false, 0, false, 0, 0, false, 0, 0, 0, 0, 0})},
		{good(api.MsgNack), row([]any{14, 1, 2, 5, 2, 7, 3, 0, 0, 0, false, 0, false, 0, 0, false, 0, 0, 0, 0, 0})},
		{good(api.MsgPre), row([]any{1, 1, 2, 5, 2, 0, 0, 0, 0}, ops, []any{false, 0, false, 0, 0, false, 0, 0, 0, 0, 0})},
		{good(api.MsgVote), row([]any{2, 1, 2, 5, 2, 0, 0, 6, 1, 0, true}, hung, []any{false, 0, 0, false, 0, 0, 0, 0, 0})},
		{
			good(api.MsgTold),
			row([]any{9, 1, 2, 5, 2, 7, 3, 6, 1}, ops, []any{true}, hung, []any{true, 4, 3, false, 6, 2}, hung, []any{0, 0}),
		},
		{
			with(bare(api.MsgKnown), set("Value", gone()), set("From", 3), set("To", 4)),
			row([]any{15, 3, 4, 5, 2, 0, 0, 0, 0, 0, false, 0, false, 0, 0, true, 0, 0, 0, 0, 0}),
		},
		{
			good(api.MsgApply),
			row([]any{12, 1, 2, 5, 2, 0, 0, 0, 0}, ops, []any{false, 0, false, 0, 0, false, 6, 2}, hung,
				[]any{3, "a", five, false, "b", 0, true, "c", 0, false, 0}),
		},
		{
			good(api.MsgPairs),
			row([]any{11, 1, 2, 5, 2, 0, 0, 0, 0, 0, false, 0, false, 0, 0, false, 0, 0, 0, 0, 2, "a", minus, "b", 0}),
		},
	} {
		if got := bytesOf(t, x.m); !bytes.Equal(got, x.want) {
			t.Errorf("Put(%#v):\n got %x,\nwant %x", x.m, got, x.want)
		}
		wantParse(t, "by hand", x.want, x.m)
	}
}

// P13.2: the sum is flat's, of all ahead of it.
func TestPutHasTheSumBehind(t *testing.T) {
	for _, m := range messages() {
		b := bytesOf(t, m)
		body := b[:len(b)-8]
		if want := lowest(flat.Sum(body), 8); !bytes.Equal(b[len(body):], want) {
			t.Errorf("Put(%#v): the sum is %x, want %x", m, b[len(body):], want)
		}
	}
}

// P13.2, P13.3
func TestThereAndBack(t *testing.T) {
	w, p := many(5000)
	l := append(messages(), with(good(api.MsgApply), set("Writes", w), set("Ops", eight())), with(good(api.MsgPairs), set("Pairs", p)))
	l = append(l, with(good(api.MsgTold), set("Deps", full()), set("Value", value(at(api.MaxTime, api.MaxNode), full()...))))
	for _, m := range l {
		b := bytesOf(t, m)
		wantParse(t, "there and back", b, m)
		back, _ := wire.Parse(b)
		if again := bytesOf(t, back); !bytes.Equal(again, b) {
			t.Errorf("back and there: %x, was %x", again, b)
		}
	}
}

// P13.2
func TestPutOfWhatMayNotBe(t *testing.T) {
	l := []api.Msg{{}, bare(0), bare(18), bare(-1), bare(api.MsgPre), with(bare(api.MsgApplied), set("Ballot", at(1, 1)))}
	for _, kind := range kinds() {
		l = append(l, everything(kind), with(good(kind), set("From", 0)), with(good(kind), set("To", 8)), with(good(kind), set("Id", none())))
	}
	for _, m := range l {
		if b, err := wire.Put(m); len(b) > 0 || err != api.ErrWire {
			t.Errorf("Put(%#v): %x, %d, want none and ErrWire", m, b, err)
		}
	}
}

// P13.3: each byte in turn is each other one.
func TestBytesOfWhichOneIsAnotherOne(t *testing.T) {
	for _, m := range messages() {
		b := bytesOf(t, m)
		for i := range b {
			for _, by := range []byte{1, 2, 4, 128, 255, byte(i)%254 + 1} {
				b[i] ^= by
				wantNoMsg(t, "another byte", b)
				b[i] ^= by
			}
		}
	}
	b := bytesOf(t, good(api.MsgTold))
	for i := range b {
		for by := 1; by < 256; by++ {
			b[i] ^= byte(by)
			wantNoMsg(t, "any other byte", b)
			b[i] ^= byte(by)
		}
	}
}

// P13.2
func TestParseOfBytesThatEndTooEarlyOrTooLate(t *testing.T) {
	wantNoMsg(t, "nothing", nil)
	wantNoMsg(t, "no bytes", []byte{})
	for n := range 40 {
		wantNoMsg(t, "zeros", make([]byte, n))
		wantNoMsg(t, "the sum of nothing, and zeros", append(summed(nil), make([]byte, n)...))
	}
	for _, m := range messages() {
		b := bytesOf(t, m)
		for n := range b {
			wantNoMsg(t, "cut off", b[:n])
			wantNoMsg(t, "without its front", b[n+1:])
			if n != len(b)-8 {
				wantNoMsg(t, "cut off, with a sum of its own", summed(b[:n]))
			}
		}
		wantNoMsg(t, "a byte more", append(bytes.Clone(b), 0))
		wantNoMsg(t, "twice", append(bytes.Clone(b), b...))
		body := b[:len(b)-8]
		wantNoMsg(t, "a byte more ahead of the sum", summed(append(bytes.Clone(body), 0)))
		wantNoMsg(t, "summed twice", summed(b))
		wantNoMsg(t, "without a sum", body)
		wantNoMsg(t, "another sum", append(bytes.Clone(body), summed(body[1:])[len(body)-1:]...))
		wantParse(t, "the same sum", summed(body), m)
	}
}

// P13.2: the sum is right, but the message may not be.
func TestParseOfMessagesThatMayNotBe(t *testing.T) {
	zeros := []any{false, 0, false, 0, 0, false, 0, 0, 0, 0, 0}
	row := func(l ...any) []byte { return summed(laid(append(l, zeros...)...)) }
	wantParse(t, "right", row(17, 1, 2, 5, 2, 0, 0, 0, 0, 0), bare(api.MsgForget))
	for name, b := range map[string][]byte{
		"kind 0":            row(0, 1, 2, 5, 2, 0, 0, 0, 0, 0),
		"kind 18":           row(18, 1, 2, 5, 2, 0, 0, 0, 0, 0),
		"below 0":           row(-1, 1, 2, 5, 2, 0, 0, 0, 0, 0),
		"a kind far off":    row(17+1<<32, 1, 2, 5, 2, 0, 0, 0, 0, 0),
		"From nobody":       row(17, 0, 2, 5, 2, 0, 0, 0, 0, 0),
		"To somebody else":  row(17, 1, 8, 5, 2, 0, 0, 0, 0, 0),
		"no Id":             row(17, 1, 2, 0, 0, 0, 0, 0, 0, 0),
		"an Id of nobody":   row(17, 1, 2, 5, 8, 0, 0, 0, 0, 0),
		"a Ballot":          row(17, 1, 2, 5, 2, 1, 1, 0, 0, 0),
		"At":                row(17, 1, 2, 5, 2, 0, 0, 6, 1, 0),
		"Ops":               row(17, 1, 2, 5, 2, 0, 0, 0, 0, 1, api.OpGet, "a", "", 0),
		"a MsgPre without":  row(1, 1, 2, 5, 2, 0, 0, 0, 0, 0),
		"less than nothing": row(17, 1, 2, 5, 2, 0, 0, 0, 0, -1),
		"less, and an op":   row(1, 1, 2, 5, 2, 0, 0, 0, 0, -1, api.OpGet, "a", "", 0),
		"a wrong op":        row(1, 1, 2, 5, 2, 0, 0, 0, 0, 1, 7, "a", "", 0),
	} {
		wantNoMsg(t, name, b)
	}
	wantParse(t, "an op", row(1, 1, 2, 5, 2, 0, 0, 0, 0, 1, api.OpGet, "a", "", 0), with(bare(api.MsgPre), set("Ops", []api.Op{get("a")})))
	// Fast, Has and Gone are truths.
	for _, place := range []int{80, 89, 106} {
		b := laid(append([]any{17, 1, 2, 5, 2, 0, 0, 0, 0, 0}, zeros...)...)
		b[place] = 2
		wantNoMsg(t, "a truth that is none", summed(b))
	}
}

// P13.2: a count that is not what is there is none, and makes no room for what it says.
func TestParseOfCountsThatLie(t *testing.T) {
	b := bytesOf(t, bare(api.MsgForget))
	body := b[:len(b)-8]
	wantParse(t, "right", summed(body), bare(api.MsgForget))
	for name, place := range map[string]int{"ops": 72, "deps": 81, "a value's deps": 123, "writes": 131, "pairs": 139} {
		for _, n := range []int{1, 2, 100, 1 << 31, 1 << 40, 1 << 60, math.MaxInt, -1, -100, math.MinInt} {
			c := bytes.Clone(body)
			copy(c[place:], lowest(uint64(n), 8))
			wantNoMsg(t, name, summed(c))
			wantNoMsg(t, name+", with zeros behind", summed(append(c, make([]byte, 1000)...)))
		}
	}
	// Of each kind, each number that stands anywhere, far too great, or below 0.
	for _, m := range messages() {
		b := bytesOf(t, m)
		for place := 72; place+8 <= len(b)-8; place++ {
			c := bytes.Clone(b[:len(b)-8])
			copy(c[place:], lowest(math.MaxInt64-1, 8))
			got, err := wire.Parse(summed(c))
			if err == api.OK && wire.Check(got) != api.OK || err != api.OK && !reflect.DeepEqual(got, api.Msg{}) {
				t.Fatalf("at %d: %#v, %d", place, got, err)
			}
		}
	}
}
