package ready_test

import (
	"math"
	"slices"
	"testing"

	"folkmoot/api"
	"folkmoot/cmd"
	"folkmoot/num"
	"folkmoot/ready"
	"folkmoot/txn"
)

// wantRun asks what Run answers, and whether Run again does nothing; it answers the commands.
func wantRun(t *testing.T, what string, l []api.Cmd, over []api.Stamp, d []api.Pair, row []api.Shard, node int, wantData []api.Pair, want ...api.Stamp) []api.Cmd {
	t.Helper()
	gotCmds, gotData, got := ready.Run(l, over, d, row, node)
	if !slices.Equal(got, want) || !slices.Equal(gotData, wantData) {
		t.Errorf("%s: Run(%v, %v, %v, %v, %d): %v, done %v; want %v, %v", what, l, over, d, row, node, gotData, got, wantData, want)
	}
	wantDone(t, what, l, gotCmds, got)
	again, againData, none := ready.Run(gotCmds, over, gotData, row, node)
	if len(none) > 0 || !sameList(again, gotCmds) || !slices.Equal(againData, gotData) {
		t.Errorf("%s: Run again: %v, %v, done %v", what, again, againData, none)
	}
	return gotCmds
}

// wantDone asks whether the commands are the old ones, of which those that were done are done, and no others.
func wantDone(t *testing.T, what string, old, l []api.Cmd, done []api.Stamp) {
	t.Helper()
	if len(l) != len(old) {
		t.Fatalf("%s: %d commands, were %d", what, len(l), len(old))
	}
	for i, c := range old {
		if slices.Contains(done, c.Id) {
			c = cmd.Done(c, l[i].Pairs)
		}
		if !sameList(cmds(c), l[i:i+1]) {
			t.Errorf("%s: command %d is %v, want %v", what, i, l[i], c)
		}
		if cmd.Check(old[i]) == api.OK && cmd.Check(l[i]) != api.OK {
			t.Errorf("%s: command %d may not be: %v", what, i, l[i])
		}
	}
}

func wantPairs(t *testing.T, what string, c api.Cmd, want ...api.Pair) {
	t.Helper()
	if !slices.Equal(c.Pairs, want) {
		t.Errorf("%s: %v has read %v, want %v", what, c.Id, c.Pairs, want)
	}
}

// P11.3
func TestRunOfNoCommands(t *testing.T) {
	d := data(pair("a", 1), pair("h", 2))
	for _, l := range [][]api.Cmd{nil, cmds()} {
		wantRun(t, "no commands", l, nil, d, three(), 1, d)
		wantRun(t, "no commands, much is over", l, stamps(at(3, 1), at(4, 1)), d, three(), 1, d)
		wantRun(t, "no commands, no data", l, stamps(), nil, three(), 1, nil)
		wantRun(t, "nothing at all", l, nil, data(), nil, 0, nil)
	}
}

// P11.3: alone, in any phase.
func TestRunOfOne(t *testing.T) {
	id, w := at(3, 1), []api.Write{write("a", 7)}
	before, after := data(pair("a", 1), pair("b", 2)), data(pair("a", 7), pair("b", 2))
	cases := []struct {
		what string
		c    api.Cmd
		done bool
	}{
		{"nothing is known", cmd.New(id), false},
		{"seen", seen(id), false},
		{"accepted", accepted(seen(id), value(at(4, 1))), false},
		{"decided, its writes are not known", decided(id, at(4, 1)), false},
		{"decided, its writes are known", loaded(id, at(4, 1), nil, w...), true},
		{"decided, upon what blocks it", loaded(id, at(4, 1), on(at(2, 1)), w...), false},
		{"decided, upon itself", loaded(id, at(4, 1), on(id), w...), true},
		{"decided, upon what is over", loaded(id, at(4, 1), on(at(1, 1)), w...), true},
		{"decided, upon what it keeps not", loaded(id, at(4, 1), []api.Dep{dep(1, at(2, 1)), dep(6, at(2, 1))}, w...), true},
		{"decided to be Gone", cmd.Decide(seen(id), nil, gone()), false},
		{"applied", cmd.Done(loaded(id, at(4, 1), nil, w...), data(pair("a", 5))), false},
	}
	for _, x := range cases {
		if x.done {
			l := wantRun(t, x.what, cmds(x.c), stamps(at(1, 1)), before, three(), 1, after, id)
			wantPairs(t, x.what, l[0], pair("a", 1))
		} else {
			l := wantRun(t, x.what, cmds(x.c), stamps(at(1, 1)), before, three(), 1, before)
			wantPairs(t, x.what, l[0], x.c.Pairs...)
		}
	}
}

// P11.3: what it writes here is what lies in the node's shards; what is Gone is there no more.
func TestRunWrites(t *testing.T) {
	w := []api.Write{away("a"), write("b", 7), write("g", 8), away("h"), away("k"), write("n", 9), away("z")}
	d := data(pair("a", 1), pair("c", 2), pair("h", 3), pair("m", 4), pair("z", 5))
	c := loaded(at(3, 1), at(3, 1), nil, w...)
	wantRun(t, "two shards of three", cmds(c), nil, d, three(), 1, data(pair("b", 7), pair("c", 2), pair("h", 3), pair("m", 4), pair("n", 9)), c.Id)
	wantRun(t, "all", cmds(c), nil, d, three(), 2, data(pair("b", 7), pair("c", 2), pair("g", 8), pair("m", 4), pair("n", 9)), c.Id)
	wantRun(t, "the midst", cmds(c), nil, d, three(), 3, data(pair("a", 1), pair("c", 2), pair("g", 8), pair("m", 4), pair("z", 5)), c.Id)
	wantRun(t, "the end", cmds(c), nil, d, three(), 4, data(pair("a", 1), pair("c", 2), pair("h", 3), pair("m", 4), pair("n", 9)), c.Id)
	wantRun(t, "upon no data", cmds(c), nil, nil, three(), 1, data(pair("b", 7), pair("n", 9)), c.Id)
	wantRun(t, "it writes nothing", cmds(loaded(at(3, 1), at(3, 1), nil)), nil, d, three(), 1, d, c.Id)
	wantRun(t, "it writes what lies elsewhere alone", cmds(loaded(at(3, 1), at(3, 1), nil, write("g", 1), away("h"))), nil, d, three(), 1, d, c.Id)
	for _, node := range []int{math.MinInt, -1, 0, 7, 8, math.MaxInt} {
		wantRun(t, "no shard", cmds(c), nil, d, three(), node, d, c.Id)
		wantRun(t, "no topology", cmds(c), nil, d, nil, node, d, c.Id)
	}
}

// P11.3: what it has read is told as it was then, not behind its own writes, or later ones.
func TestRunReads(t *testing.T) {
	first := asks(loaded(at(1, 1), at(1, 1), nil, write("a", 11), write("h", 12), away("z")), scan("a", ""))
	second := asks(loaded(at(2, 1), at(2, 1), nil, away("a"), write("b", 21)), add("a"), get("z"), get("b"), get("h"))
	third := asks(loaded(at(3, 1), at(3, 1), nil, write("a", 31)), put("a"))
	fourth := asks(loaded(at(4, 1), at(4, 1), nil), scan("a", "g"), move("n", "h"))
	d := data(pair("a", 1), pair("h", 2), pair("n", 3), pair("z", 4))
	l := wantRun(t, "four", cmds(first, second, third, fourth), nil, d, three(), 1,
		data(pair("a", 31), pair("b", 21), pair("h", 2), pair("n", 3)), first.Id, second.Id, third.Id, fourth.Id)
	wantPairs(t, "first", l[0], pair("a", 1), pair("n", 3), pair("z", 4))
	wantPairs(t, "second", l[1], pair("a", 11))
	wantPairs(t, "third", l[2])
	wantPairs(t, "fourth", l[3], pair("a", 31), pair("b", 21), pair("n", 3))
}

// P11.3: the least Id that may be done is done, again and again, whatever the times.
func TestRunTakesTheLeastId(t *testing.T) {
	a, b, c, d := at(1, 1), at(1, 2), at(2, 1), at(3, 1)
	w := func(n api.Num) []api.Write { return []api.Write{write("a", n)} }
	cases := []struct {
		what string
		l    []api.Cmd
		last api.Num
		want []api.Stamp
	}{
		{"two that do not hang on each other", cmds(loaded(a, a, nil, w(1)...), loaded(b, b, nil, w(2)...)), 2, stamps(a, b)},
		{"two that do not, the first one later", cmds(loaded(a, d, nil, w(1)...), loaded(b, c, nil, w(2)...)), 2, stamps(a, b)},
		{"two that hang on each other", cmds(loaded(a, a, on(b), w(1)...), loaded(b, b, on(a), w(2)...)), 2, stamps(a, b)},
		{"two that do, the first one later", cmds(loaded(a, d, on(b), w(1)...), loaded(b, c, on(a), w(2)...)), 1, stamps(b, a)},
		{"two that do, at one time", cmds(loaded(a, d, on(b), w(1)...), loaded(b, d, on(a), w(2)...)), 2, stamps(a, b)},
		{"one that hangs on a later one", cmds(loaded(a, a, on(b), w(1)...), loaded(b, b, nil, w(2)...)), 2, stamps(a, b)},
		{"one that hangs on an earlier one", cmds(loaded(a, c, on(b), w(1)...), loaded(b, b, nil, w(2)...)), 1, stamps(b, a)},
		{"a chain as the Ids go", cmds(loaded(a, a, nil, w(1)...), loaded(b, b, on(a), w(2)...), loaded(c, c, on(b), w(3)...), loaded(d, d, on(c), w(4)...)), 4, stamps(a, b, c, d)},
		{"a chain the other way", cmds(loaded(a, at(9, 1), on(b), w(1)...), loaded(b, at(8, 1), on(c), w(2)...), loaded(c, at(7, 1), on(d), w(3)...), loaded(d, at(6, 1), nil, w(4)...)), 1, stamps(d, c, b, a)},
		{"a chain to and fro", cmds(loaded(a, at(7, 1), on(d), w(1)...), loaded(b, at(9, 1), on(c), w(2)...), loaded(c, at(8, 1), on(a), w(3)...), loaded(d, at(6, 1), nil, w(4)...)), 2, stamps(d, a, c, b)},
		{"what is free at last comes ahead of greater ones", cmds(loaded(a, at(7, 1), on(c), w(1)...), loaded(b, b, nil, w(2)...), loaded(c, at(6, 1), nil, w(3)...), loaded(d, d, nil, w(4)...)), 4, stamps(b, c, a, d)},
		{"one waits for two", cmds(loaded(a, at(9, 1), on(b, d), w(1)...), loaded(b, b, nil, w(2)...), loaded(c, c, nil, w(3)...), loaded(d, d, nil, w(4)...)), 1, stamps(b, c, d, a)},
		{"two wait for one", cmds(loaded(a, at(8, 1), on(d), w(1)...), loaded(b, at(9, 1), on(d), w(2)...), loaded(c, c, nil, w(3)...), loaded(d, d, nil, w(4)...)), 2, stamps(c, d, a, b)},
	}
	for _, x := range cases {
		wantRun(t, x.what, x.l, nil, nil, whole(), 1, data(pair("a", x.last)), x.want...)
	}
}

// P11.3, P11.5: what is not done is blocked, or its writes are not known; and whoever hangs on it waits.
func TestRunLeavesWhatIsBlocked(t *testing.T) {
	a, b, c, d := at(1, 1), at(2, 1), at(3, 1), at(4, 1)
	first := loaded(a, a, nil, write("a", 1))
	third, fourth := loaded(c, c, on(a, b), write("c", 3)), loaded(d, d, on(a), write("d", 4))
	done := data(pair("a", 1), pair("d", 4))
	for _, second := range cmds(decided(b, b), decided(b, b, on(a)...), seen(b), cmd.New(b), loaded(b, b, on(at(1, 7))), accepted(seen(b), gone())) {
		wantRun(t, "the second one waits", cmds(first, second, third, fourth), nil, nil, whole(), 1, done, a, d)
	}
	wantRun(t, "there is no second one", cmds(first, third, fourth), nil, nil, whole(), 1, done, a, d)
	wantRun(t, "nobody's writes are known", cmds(decided(a, a), third, fourth), stamps(b), nil, whole(), 1, nil)
	all := data(pair("a", 1), pair("c", 3), pair("d", 4))
	for _, second := range cmds(decided(b, at(3, 2)), applied(b, b), cmd.Decide(seen(b), nil, gone()), cmd.Decide(cmd.New(b), nil, gone())) {
		wantRun(t, "the second one is no hindrance", cmds(first, second, third, fourth), nil, nil, whole(), 1, all, a, c, d)
	}
	wantRun(t, "the second one is over", cmds(first, third, fourth), stamps(b), nil, whole(), 1, all, a, c, d)
}

// P11.3: a chain of which the first link waits does nothing; when that is known, all of it is done.
func TestRunWhenMoreIsKnown(t *testing.T) {
	var l []api.Cmd
	var want []api.Stamp
	for i := range int64(9) {
		id := at(9-i, 1)
		l = append(l, loaded(at(i+1, 1), at(20-i, 1), on(at(i+2, 1)), write("a", api.Num(i))))
		want = append(want, id)
	}
	waits := append(slices.Clone(l), decided(at(10, 1), at(11, 1)))
	same := wantRun(t, "the last link's writes are not known", waits, nil, nil, whole(), 1, nil)
	same[9] = cmd.Load(same[9], []api.Write{write("b", 5)})
	wantRun(t, "they are known", same, nil, nil, whole(), 1, data(pair("a", 0), pair("b", 5)), append(stamps(at(10, 1)), want...)...)
	wantRun(t, "the last link is over", l, stamps(at(10, 1)), nil, whole(), 1, data(pair("a", 0)), want...)
	wantRun(t, "another shard's", l, nil, nil, three(), 3, nil, l[0].Id, l[1].Id, l[2].Id, l[3].Id, l[4].Id, l[5].Id, l[6].Id, l[7].Id, l[8].Id)
}

// P11.3: what comes of transactions, one behind the other, is what they write.
func TestRunOfRealOnes(t *testing.T) {
	var l []api.Cmd
	d := data(pair("a", num.Of(10)))
	before := on()
	for i := range int64(6) {
		id := at(i+1, 1)
		what := ops(move("a", "b"), get("a"), add("c"))
		what[0].Num, what[2].Num = num.Of(3), num.Of(1)
		writes, _ := txn.Eval(what, d)
		l = append(l, asks(loaded(id, id, before, writes...), what...))
		d, before = txn.Apply(d, writes...), on(append(before[0].Ids, id)...)
	}
	got := wantRun(t, "moves", l, nil, data(pair("a", num.Of(10))), whole(), 3, d, at(1, 1), at(2, 1), at(3, 1), at(4, 1), at(5, 1), at(6, 1))
	wantPairs(t, "the last one", got[5], pair("a", num.Of(1)), pair("b", num.Of(9)), pair("c", num.Of(5)))
}

// P11.3: many, each of which waits for the one behind it, and for some of the others.
func TestRunOfMany(t *testing.T) {
	const many = 4000
	var l []api.Cmd
	var want []api.Stamp
	for i := range int64(many) {
		ids := stamps(at(i+2, 1))
		if i%3 == 0 {
			ids = append(ids, at(many, 1))
		}
		l = append(l, loaded(at(i+1, 1), at(3*many-i, 1), on(ids...), write("a", api.Num(i))))
		want = append(want, at(many-i, 1))
	}
	l[many-1].Value.Deps = nil
	wantRun(t, "many", l, nil, nil, whole(), 2, data(pair("a", 0)), want...)
}
