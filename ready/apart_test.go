package ready_test

import (
	"reflect"
	"slices"
	"testing"

	"folkmoot/api"
	"folkmoot/cmd"
	"folkmoot/ready"
)

// roomy is a copy of a list with spare elements behind it.
func roomy[T any](l []T, spare T) []T { return append(slices.Clone(l), spare, spare, spare)[:len(l)] }

// full is a copy of a list to the end of its spare room.
func full[T any](l []T) []T { return slices.Clone(l[:cap(l)]) }

// spoil writes over all of a list, and over its spare room.
func spoil[T any](l []T, with T) {
	l = l[:cap(l)]
	for i := range l {
		l[i] = with
	}
}

// What is written over lists, or stands in their spare room.

func spareOp() api.Op { return api.Op{Kind: -7, Key: "spare", To: "room", Num: 77} }

func spareWrite() api.Write { return api.Write{Key: "spare", Num: 77} }

func sparePair() api.Pair { return pair("spare", 77) }

func spareDep() api.Dep { return dep(0, at(-7, -7)) }

func spareStamp() api.Stamp { return at(-77, -77) }

// roomyCmd is a copy of a command, whose lists have spare room.
func roomyCmd(c api.Cmd) api.Cmd {
	c.Ops, c.Writes, c.Pairs = roomy(c.Ops, spareOp()), roomy(c.Writes, spareWrite()), roomy(c.Pairs, sparePair())
	var d []api.Dep
	for _, x := range c.Value.Deps {
		d = append(d, dep(x.Shard, roomy(x.Ids, spareStamp())...))
	}
	c.Value.Deps = roomy(d, spareDep())
	return c
}

// fullCmd is all lists of a command to the end of their spare room, in memory of its own.
func fullCmd(c api.Cmd) api.Cmd {
	c.Ops, c.Writes, c.Pairs = full(c.Ops), full(c.Writes), full(c.Pairs)
	var d []api.Dep
	for _, x := range full(c.Value.Deps) {
		d = append(d, dep(x.Shard, full(x.Ids)...))
	}
	c.Value.Deps = d
	return c
}

// gift is all that is handed in, with spare room everywhere: of five that a node knows it may do three.
func gift() known {
	first := asks(loaded(at(1, 1), at(9, 1), []api.Dep{dep(0, at(2, 1), at(6, 1)), dep(2, at(3, 1), at(7, 1))}, write("a", 1), away("c"), write("h", 1)), scan("a", ""), get("z"))
	second := asks(loaded(at(2, 1), at(8, 1), on(at(1, 1), at(3, 1), at(4, 1)), write("b", 2), write("g", 2), away("z")), add("c"), add("n"), add("b"))
	third := asks(loaded(at(3, 1), at(3, 1), []api.Dep{dep(1, at(8, 1)), dep(2, at(6, 1))}, write("h", 3), write("z", 3)), move("z", "a"))
	fourth := asks(cmd.Done(loaded(at(4, 1), at(4, 1), nil, write("a", 4)), data(pair("a", 0))), put("a"))
	fifth := decided(at(5, 1), at(5, 1), on(at(4, 1), at(8, 1))...)
	l := cmds(first, second, third, fourth, fifth)
	for i := range l {
		l[i] = roomyCmd(l[i])
	}
	row := three()
	for i := range row {
		row[i].Nodes = roomy(row[i].Nodes, 7)
	}
	return known{
		l:    roomy(l, loaded(at(9, 1), at(9, 1), nil, write("a", 9))),
		over: roomy(stamps(at(6, 1), at(7, 1)), spareStamp()),
		data: roomy(data(pair("a", 10), pair("c", 20), pair("h", 30), pair("n", 40), pair("z", 50)), sparePair()),
		row:  roomy(row, shard("spare", "tire", 1)),
		node: 1,
	}
}

// copied is all of that to the end of its spare room, in memory of its own.
func (k known) copied() known {
	c := known{full(k.l), full(k.over), full(k.data), full(k.row), k.node}
	for i := range c.l {
		c.l[i] = fullCmd(c.l[i])
	}
	for i := range c.row {
		c.row[i].Nodes = full(c.row[i].Nodes)
	}
	return c
}

// spoilt writes over all that was handed in.
func (k known) spoilt() {
	for _, c := range k.l {
		spoil(c.Ops, spareOp())
		spoil(c.Writes, spareWrite())
		spoil(c.Pairs, sparePair())
		for _, d := range c.Value.Deps {
			spoil(d.Ids, spareStamp())
		}
		spoil(c.Value.Deps, spareDep())
	}
	spoil(k.l, api.Cmd{Id: spareStamp()})
	spoil(k.over, spareStamp())
	spoil(k.data, sparePair())
	for _, s := range k.row {
		spoil(s.Nodes, 6)
	}
	spoil(k.row, shard("spare", "tire"))
}

// result is what Run answers.
type result struct {
	l    []api.Cmd
	data []api.Pair
	done []api.Stamp
}

func (k known) run() result {
	l, d, done := ready.Run(k.l, k.over, k.data, k.row, k.node)
	return result{l, d, done}
}

// wantGift asks whether a result is what Run of the gift answers, but for what commands may share with others.
func wantGift(t *testing.T, what string, r result) {
	t.Helper()
	if want := stamps(at(3, 1), at(2, 1), at(1, 1)); !slices.Equal(r.done, want) {
		t.Errorf("%s: done %v, want %v", what, r.done, want)
	}
	if want := data(pair("a", 1), pair("b", 2), pair("h", 30), pair("n", 40)); !slices.Equal(r.data, want) {
		t.Errorf("%s: data %v, want %v", what, r.data, want)
	}
	read := [][]api.Pair{
		data(pair("a", 10), pair("b", 2), pair("c", 20), pair("n", 40)),
		data(pair("c", 20), pair("n", 40)),
		data(pair("a", 10), pair("z", 50)),
	}
	for i, want := range read {
		if r.l[i].Id != at(int64(i)+1, 1) || r.l[i].Phase != api.PhaseApplied {
			t.Errorf("%s: command %d is %v", what, i, r.l[i])
		}
		wantPairs(t, what, r.l[i], want...)
	}
}

// Rule 3: what is handed in is not changed, its spare room neither.
func TestWhatIsHandedInStays(t *testing.T) {
	k := gift()
	old := k.copied()
	for range 3 {
		wantGift(t, "roomy lists", k.run())
		wantBlocked(t, "roomy lists", k.l, k.over, k.row, k.node, k.l[0], at(2, 1), at(3, 1))
		wantBlocked(t, "roomy lists, the last one", k.l, k.over, k.row, k.node, k.l[4], at(8, 1))
		wantReady(t, "roomy lists", k.l, k.over, k.row, k.node, k.l[1], false)
		wantReady(t, "roomy lists, the third one", k.l, k.over, k.row, k.node, k.l[2], true)
		wantReads(t, "roomy lists", k.data, k.row, k.node, k.l[0], pair("a", 10), pair("c", 20), pair("n", 40), pair("z", 50))
		wantReads(t, "roomy lists, the third one", k.data, k.row, k.node, k.l[2], pair("a", 10), pair("z", 50))
	}
	if !reflect.DeepEqual(k.copied(), old) {
		t.Errorf("changed: %v, was %v", k.copied(), old)
	}
}

// Rule 3: what Run answers shares nothing with an argument, nor with another answer; commands may share what nobody changes.
func TestRunsLieApart(t *testing.T) {
	k := gift()
	first, second := k.run(), k.run()
	for i := range 3 {
		// What a command has read is its own, and no other list's.
		spoil(first.l[i].Pairs, sparePair())
	}
	if want := data(pair("a", 1), pair("b", 2), pair("h", 30), pair("n", 40)); !slices.Equal(first.data, want) {
		t.Errorf("the data share with what was read: %v", first.data)
	}
	spoil(first.data, sparePair())
	if want := stamps(at(3, 1), at(2, 1), at(1, 1)); !slices.Equal(first.done, want) {
		t.Errorf("what was done shares with the data: %v", first.done)
	}
	spoil(first.done, spareStamp())
	spoil(first.l, api.Cmd{Id: spareStamp()})
	third := k.run()
	wantGift(t, "the second one", second)
	wantGift(t, "the third one", third)
	k.spoilt()
	wantGift(t, "the second one, of what is another thing now", second)
	wantGift(t, "the third one, of what is another thing now", third)
}

// Rule 3: also where nothing is done.
func TestIdleRunsLieApart(t *testing.T) {
	idle := func() known {
		k := gift()
		k.l = roomy(k.l[4:], api.Cmd{})
		return k
	}
	wantIdle := func(what string, r result) {
		t.Helper()
		if len(r.done) > 0 || len(r.l) != 1 || r.l[0].Id != at(5, 1) || !slices.Equal(r.data, gift().data) {
			t.Errorf("%s: %v", what, r)
		}
	}
	k := idle()
	first, second := k.run(), k.run()
	spoil(first.data, sparePair())
	spoil(first.l, api.Cmd{})
	third := k.run()
	wantIdle("the second one", second)
	k.spoilt()
	wantIdle("the second one, of what is another thing now", second)
	wantIdle("the third one", third)
	k = gift()
	k.l = nil
	_, d, _ := ready.Run(k.l, k.over, k.data, k.row, k.node)
	k.spoilt()
	if !slices.Equal(d, gift().data) {
		t.Errorf("no commands: %v", d)
	}
}

// Rule 3: nor do Blocked and Reads.
func TestAnswersLieApart(t *testing.T) {
	k := gift()
	block := func() []api.Stamp { return ready.Blocked(k.l, k.over, k.row, k.node, k.l[0]) }
	read := func() []api.Pair { return ready.Reads(k.data, k.row, k.node, k.l[0]) }
	// A list of one shard alone, all of which blocks.
	lone := roomyCmd(loaded(at(20, 1), at(20, 1), on(at(11, 1), at(12, 1))))
	alone := func() []api.Stamp { return ready.Blocked(nil, nil, whole(), 1, lone) }
	blocked, pairs, both := block(), read(), alone()
	spoil(block(), spareStamp())
	spoil(read(), sparePair())
	spoil(alone(), spareStamp())
	again, pairsAgain, bothAgain := block(), read(), alone()
	k.spoilt()
	for _, d := range lone.Value.Deps {
		spoil(d.Ids, spareStamp())
	}
	for _, got := range [][]api.Stamp{blocked, again} {
		if want := stamps(at(2, 1), at(3, 1)); !slices.Equal(got, want) {
			t.Errorf("Blocked: %v, want %v", got, want)
		}
	}
	for _, got := range [][]api.Stamp{both, bothAgain} {
		if want := stamps(at(11, 1), at(12, 1)); !slices.Equal(got, want) {
			t.Errorf("Blocked: %v, want %v", got, want)
		}
	}
	for _, got := range [][]api.Pair{pairs, pairsAgain} {
		if want := data(pair("a", 10), pair("c", 20), pair("n", 40), pair("z", 50)); !slices.Equal(got, want) {
			t.Errorf("Reads: %v, want %v", got, want)
		}
	}
}

// Rule 4: no call hangs on another one.
func TestCallsHangOnNothingElse(t *testing.T) {
	k := gift()
	calls := []func() any{
		func() any { return ready.Blocked(k.l, k.over, k.row, 1, k.l[0]) },
		func() any { return ready.Blocked(nil, nil, k.row, 2, k.l[0]) },
		func() any { return ready.Ready(k.l, k.over, k.row, 1, k.l[1]) },
		func() any { return ready.Ready(k.l, nil, k.row, 1, k.l[2]) },
		func() any { return k.run() },
		func() any { l, d, done := ready.Run(k.l, nil, nil, k.row, 3); return result{l, d, done} },
		func() any { return ready.Reads(k.data, k.row, 1, k.l[0]) },
		func() any { return ready.Reads(nil, k.row, 2, k.l[2]) },
	}
	var alone []any
	for _, call := range calls {
		alone = append(alone, call())
	}
	for i, call := range calls {
		for j, next := range calls {
			first, second := call(), next()
			if !reflect.DeepEqual(first, alone[i]) || !reflect.DeepEqual(second, alone[j]) {
				t.Errorf("%d, then %d: %v and %v, alone %v and %v", i, j, first, second, alone[i], alone[j])
			}
		}
	}
}
