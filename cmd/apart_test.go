package cmd_test

import (
	"bytes"
	"math"
	"reflect"
	"slices"
	"strings"
	"testing"

	"folkmoot/api"
	"folkmoot/cmd"
)

// roomy is a copy of a list with spare elements behind it.
func roomy[T any](l []T, spare T) []T { return append(slices.Clone(l), spare, spare, spare)[:len(l)] }

// spoil writes over all of a list, and over its spare room.
func spoil[T any](l []T, with T) {
	l = l[:cap(l)]
	for i := range l {
		l[i] = with
	}
}

// What is written over lists, or stands in their spare room.

func spareOp() api.Op { return api.Op{Kind: -7, Key: "spare", To: "room", Num: 77} }

func spareWrite() api.Write { return api.Write{Key: "spare", Num: 77, Gone: true} }

func sparePair() api.Pair { return pair("spare", 77) }

// roomyDeps is a copy of dependencies with spare room behind them, and behind the Ids of each.
func roomyDeps(d []api.Dep) []api.Dep {
	var l []api.Dep
	for _, x := range d {
		l = append(l, dep(x.Shard, roomy(x.Ids, at(-77, -77))...))
	}
	return roomy(l, dep(-77, at(-7, -7)))
}

func spoilDeps(d []api.Dep) {
	for _, x := range d {
		spoil(x.Ids, at(-99, -99))
	}
	spoil(d, dep(-99))
}

// roomyCmd is a copy of a command, whose lists have spare room.
func roomyCmd(c api.Cmd) api.Cmd {
	c.Ops, c.Writes, c.Pairs = roomy(c.Ops, spareOp()), roomy(c.Writes, spareWrite()), roomy(c.Pairs, sparePair())
	c.Seen, c.Value.Deps = roomyDeps(c.Seen), roomyDeps(c.Value.Deps)
	return c
}

// whole is all lists of a command to the end of their spare room, in memory of its own.
func whole(c api.Cmd) api.Cmd {
	wholeDeps := func(d []api.Dep) []api.Dep {
		var l []api.Dep
		for _, x := range d[:cap(d)] {
			l = append(l, dep(x.Shard, slices.Clone(x.Ids[:cap(x.Ids)])...))
		}
		return l
	}
	c.Ops, c.Writes, c.Pairs = slices.Clone(c.Ops[:cap(c.Ops)]), slices.Clone(c.Writes[:cap(c.Writes)]), slices.Clone(c.Pairs[:cap(c.Pairs)])
	c.Seen, c.Value.Deps = wholeDeps(c.Seen), wholeDeps(c.Value.Deps)
	return c
}

// several is some of the commands that may be, and some that may not.
func several() []api.Cmd {
	l := goods()
	for i, c := range wrong() {
		if i%7 == 0 {
			l = append(l, c)
		}
	}
	return l
}

// Rule 3: what is handed in is not changed, its spare room neither.
func TestWhatIsHandedInStays(t *testing.T) {
	for _, c := range several() {
		a := roomyCmd(c)
		// The lists of one that is applied are handed in one by one.
		in := roomyCmd(applied())
		oldA, oldIn := whole(a), whole(in)
		cmd.Check(a)
		cmd.Top(a)
		cmd.Final(a)
		cmd.Put(a)
		for _, c := range []api.Cmd{a, cmd.New(id())} {
			seen := cmd.Witness(c, in.Ops, at(6, 1), true, in.Seen)
			cmd.Promise(seen, at(9, 9))
			cmd.Bind(seen, at(9, 9), at(99, 1))
			acc, _ := cmd.Accept(seen, at(9, 9), in.Value)
			for _, c := range []api.Cmd{c, seen, acc} {
				decided := cmd.Decide(c, in.Ops, in.Value)
				done := cmd.Done(cmd.Load(decided, in.Writes), in.Pairs)
				cmd.Check(done)
				cmd.Put(done)
			}
		}
		if !reflect.DeepEqual(whole(a), oldA) || !reflect.DeepEqual(whole(in), oldIn) {
			t.Fatalf("changed: %#v and %#v, were %#v and %#v", whole(a), whole(in), oldA, oldIn)
		}
	}
}

// Rule 3: a list that is handed in alone is not kept.
func TestListsAreNotKept(t *testing.T) {
	seen, l, read := roomyDeps(hang()), roomy(loaded().Writes, spareWrite()), roomy(applied().Pairs, sparePair())
	saw := cmd.Witness(accepted(), two(), at(6, 3), true, seen)
	ready := cmd.Load(decided(), l)
	done := cmd.Done(loaded(), read)
	spoilDeps(seen)
	spoil(l, spareWrite())
	spoil(read, sparePair())
	wantCmd(t, "Witness", saw, with(decided(), func(c *api.Cmd) { c.Phase = api.PhaseSeen }))
	wantCmd(t, "Load", ready, loaded())
	wantCmd(t, "Done", done, applied())
}

// Rule 3: bytes are new each time, and those that are handed in are neither changed nor kept.
func TestBytesLieApart(t *testing.T) {
	for _, c := range several() {
		first, second := cmd.Put(c), cmd.Put(c)
		b := append(bytes.Clone(first), 1, 2, 3)
		old := bytes.Clone(b)
		spoil(first, 99)
		if !bytes.Equal(second, old[:len(old)-3]) {
			t.Fatalf("two answers share: %x, was %x", second, old)
		}
		got, err := cmd.Parse(b[:len(b)-3])
		again, _ := cmd.Parse(b[:len(b)-3])
		if !bytes.Equal(b, old) {
			t.Fatalf("the bytes are %x, were %x", b, old)
		}
		clear(b)
		if err != api.OK {
			continue
		}
		wantCmd(t, "the bytes are other ones now", got, c)
		spoil(got.Ops, spareOp())
		spoilDeps(got.Seen)
		spoilDeps(got.Value.Deps)
		spoil(got.Writes, spareWrite())
		spoil(got.Pairs, sparePair())
		wantCmd(t, "the other answer", again, c)
	}
}

// Rule 3: the lists of one answer share nothing.
func TestListsOfWhatIsParsedLieApart(t *testing.T) {
	c, _ := cmd.Parse(cmd.Put(applied()))
	spoilDeps(c.Seen)
	want := with(applied(), func(c *api.Cmd) { c.Seen = nil })
	wantCmd(t, "without what was seen", with(c, func(c *api.Cmd) { c.Seen = nil }), want)
	spoil(c.Value.Deps[0].Ids, at(-9, -9))
	if got := c.Value.Deps[1].Ids; !slices.Equal(got, later()[1].Ids) {
		t.Errorf("the Ids of the next shard: %v", got)
	}
}

// Rule 1, P9.1: of what may not be every call still answers, and the same again.
func TestWrongOnesAreAnswered(t *testing.T) {
	stamps := append(wrongStamps(), none(), at(1, 1), at(8, 3))
	_, wrongValues := values()
	all := wrong()
	for i, c := range all {
		in := all[i*31%len(all)]
		s, v := stamps[i%len(stamps)], wrongValues[i%len(wrongValues)]
		call := func() []api.Cmd {
			seen := cmd.Witness(c, in.Ops, s, true, in.Seen)
			p, _ := cmd.Promise(seen, s)
			b, _ := cmd.Bind(seen, s, in.Id)
			a, _ := cmd.Accept(seen, s, v)
			l := []api.Cmd{c, cmd.New(s), seen, p, b, a}
			for _, c := range []api.Cmd{c, seen, a} {
				d := cmd.Decide(c, in.Ops, v)
				l = append(l, d, cmd.Load(c, in.Writes), cmd.Load(d, in.Writes), cmd.Done(c, in.Pairs), cmd.Done(cmd.Load(d, in.Writes), in.Pairs))
			}
			return l
		}
		first, second := call(), call()
		for i, c := range first {
			wantCmd(t, "the same again", second[i], c)
			if cmd.Check(c) != cmd.Check(c) || cmd.Top(c) != cmd.Top(c) || cmd.Final(c) != cmd.Final(c) || !bytes.Equal(cmd.Put(c), cmd.Put(c)) {
				t.Errorf("not the same again: %#v", c)
			}
		}
	}
}

// Rule 1: so much of it that it ought to be refused soon.
func TestMuchIsAnswered(t *testing.T) {
	const many = 200000
	c := applied()
	c.Ops, c.Seen = make([]api.Op, many), make([]api.Dep, many)
	c.Writes, c.Pairs = make([]api.Write, many), make([]api.Pair, many)
	for i := range many {
		key := string([]byte{byte(i >> 16), byte(i >> 8), byte(i)})
		c.Ops[i], c.Seen[i], c.Writes[i], c.Pairs[i] = get(key), dep(i, at(int64(i+1), 1)), set(key, 1), pair(key, 1)
	}
	wantCheck(t, "much", c, api.ErrCmd)
	wantNoCmd(t, "much", cmd.Put(c))
	cmd.Witness(cmd.New(id()), c.Ops, id(), true, c.Seen)
	// As many writes and pairs as there may be are there and back.
	d := applied()
	d.Writes, d.Pairs = c.Writes, c.Pairs
	wantCheck(t, "many writes", d, api.OK)
	wantParse(t, "many writes", cmd.Put(d), d)
	long := with(applied(), func(c *api.Cmd) { c.Pairs = pairs(pair(strings.Repeat("k", api.MaxFlat+5), math.MaxUint64)) })
	wantCheck(t, "a long key", long, api.ErrCmd)
	wantNoCmd(t, "a long key", cmd.Put(long))
}
