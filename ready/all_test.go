package ready_test

import (
	"cmp"
	"math"
	"slices"
	"testing"

	"folkmoot/api"
	"folkmoot/cmd"
	"folkmoot/ready"
	"folkmoot/topo"
	"folkmoot/txn"
)

// dice answers numbers from 0 on and below n, the same ones in every run.
func dice(seed uint64) func(n int) int {
	return func(n int) int {
		seed = seed*6364136223846793005 + 1442695040888963407
		return int(seed >> 33 % uint64(n))
	}
}

// one is one of these.
func one[T any](dice func(int) int, l ...T) T { return l[dice(len(l))] }

func keys() []string { return []string{"a", "a\x00", "b", "f", "g", "k", "n", "s"} }

func less(a, b api.Stamp) bool { return a.Time < b.Time || a.Time == b.Time && a.Node < b.Node }

// rising is these, each once.
func rising(l []api.Stamp) []api.Stamp {
	l = slices.Clone(l)
	slices.SortFunc(l, func(a, b api.Stamp) int { return cmp.Or(cmp.Compare(a.Time, b.Time), cmp.Compare(a.Node, b.Node)) })
	return slices.Compact(l)
}

// anyId is one of so few that they meet often.
func anyId(dice func(int) int) api.Stamp { return at(1+int64(dice(5)), 1+dice(2)) }

func anyIds(dice func(int) int, most int) []api.Stamp {
	var l []api.Stamp
	for range dice(most + 1) {
		l = append(l, anyId(dice))
	}
	return rising(l)
}

// anyDeps is dependencies in some shards, of which the topology may have none.
func anyDeps(dice func(int) int) []api.Dep {
	var d []api.Dep
	for shard := range api.MaxShards {
		if dice(3) == 0 {
			d = append(d, dep(shard, anyIds(dice, 2)...))
		}
	}
	return d
}

func anyOps(dice func(int) int) []api.Op {
	var l []api.Op
	for range 1 + dice(3) {
		i, j := dice(len(keys())), dice(len(keys()))
		from, to := keys()[min(i, j)], keys()[max(i, j)]
		if from == to {
			to = ""
		}
		l = append(l, one(dice, get(from), scan(from, to), put(from), add(from), drop(from)))
		if to != "" && dice(3) == 0 {
			l = append(l, one(dice, move(from, to), move(to, from)))
		}
	}
	return l
}

func anyWrites(dice func(int) int) []api.Write {
	var l []api.Write
	for _, key := range keys() {
		if dice(3) == 0 {
			l = append(l, one(dice, away(key), write(key, api.Num(dice(9)))))
		}
	}
	return l
}

func anyData(dice func(int) int) []api.Pair {
	var l []api.Pair
	for _, key := range keys() {
		if dice(2) == 0 {
			l = append(l, pair(key, api.Num(10+dice(9))))
		}
	}
	return l
}

// anyRow is a topology that may be; nobody has all of its shards but by chance.
func anyRow(dice func(int) int) []api.Shard {
	from := ""
	var l []api.Shard
	for _, to := range append(keys()[1:], "") {
		if to != "" && dice(3) > 0 {
			continue
		}
		s := shard(from, to)
		for n := 1; n <= 3; n++ {
			if dice(3) > 0 || n == 3 && len(s.Nodes) == 0 {
				s.Nodes = append(s.Nodes, n)
			}
		}
		l, from = append(l, s), to
	}
	return l
}

// anyCmd is a command of any phase; most of them are decided, and their writes known.
func anyCmd(dice func(int) int, id api.Stamp) api.Cmd {
	c := cmd.New(id)
	if dice(3) > 0 {
		c = cmd.Witness(c, anyOps(dice), id, true, anyDeps(dice))
	}
	v := value(at(1+int64(dice(9)), 1+dice(2)), anyDeps(dice)...)
	if dice(12) == 0 {
		v = gone()
	}
	if dice(4) == 0 {
		c = accepted(c, v)
	}
	if dice(8) > 0 {
		c = cmd.Decide(c, anyOps(dice), v)
	}
	if dice(8) > 0 {
		c = cmd.Load(c, anyWrites(dice))
	}
	if dice(8) == 0 {
		c = cmd.Done(c, anyData(dice))
	}
	return c
}

// known is what a node knows, and keeps.
type known struct {
	l    []api.Cmd
	over []api.Stamp
	data []api.Pair
	row  []api.Shard
	node int
}

func anyKnown(dice func(int) int) known {
	k := known{over: anyIds(dice, 4), data: anyData(dice), row: anyRow(dice), node: 1 + dice(4)}
	// Where all that is not known is over, more is done.
	calm := dice(2) == 0
	ids := anyIds(dice, 14)
	for time := int64(1); time <= 5; time++ {
		for node := 1; node <= 2; node++ {
			id := at(time, node)
			if slices.Contains(ids, id) {
				k.l = append(k.l, anyCmd(dice, id))
			} else if calm {
				k.over = append(k.over, id)
			}
		}
	}
	k.over = rising(k.over)
	return k
}

// What follows tells the same as package ready, word by word, as the chapter has it.

func (k known) has(shard int) bool {
	return shard < len(k.row) && slices.Contains(k.row[shard].Nodes, k.node)
}

func (k known) keeps(key string) bool {
	for i, s := range k.row {
		if key >= s.Span.From && (s.Span.To == "" || key < s.Span.To) {
			return k.has(i)
		}
	}
	return false
}

func (k known) toldBlocks(id api.Stamp, c api.Cmd) bool {
	if id == c.Id || slices.Contains(k.over, id) {
		return false
	}
	for _, x := range k.l {
		if x.Id != id {
			continue
		}
		switch x.Phase {
		case api.PhaseDecided:
			return !x.Value.Gone && less(x.Value.At, c.Value.At)
		case api.PhaseApplied:
			return false
		}
	}
	return true
}

func (k known) toldBlocked(c api.Cmd) []api.Stamp {
	var ids []api.Stamp
	for _, d := range c.Value.Deps {
		for _, id := range d.Ids {
			if k.has(d.Shard) && k.toldBlocks(id, c) {
				ids = append(ids, id)
			}
		}
	}
	return rising(ids)
}

func (k known) toldReady(c api.Cmd) bool {
	return c.Phase == api.PhaseDecided && !c.Value.Gone && len(k.toldBlocked(c)) == 0
}

func toldRead(c api.Cmd, key string) bool {
	return slices.ContainsFunc(c.Ops, func(op api.Op) bool {
		switch op.Kind {
		case api.OpScan:
			return key >= op.Key && (op.To == "" || key < op.To)
		case api.OpPut:
			return false
		}
		return key == op.Key || op.Kind == api.OpMove && key == op.To
	})
}

func (k known) toldReads(c api.Cmd) []api.Pair {
	var l []api.Pair
	for _, p := range k.data {
		if toldRead(c, p.Key) && k.keeps(p.Key) {
			l = append(l, p)
		}
	}
	return l
}

// toldNext is the place of the least Id that may be done; -1, if there is none.
func (k known) toldNext() int {
	next := -1
	for i, c := range k.l {
		if c.Ready && k.toldReady(c) && (next < 0 || less(c.Id, k.l[next].Id)) {
			next = i
		}
	}
	return next
}

// toldRun is what is known then, and what was done.
func (k known) toldRun() (known, []api.Stamp) {
	k.l = slices.Clone(k.l)
	var done []api.Stamp
	for i := k.toldNext(); i >= 0; i = k.toldNext() {
		c := &k.l[i]
		c.Pairs, c.Phase = k.toldReads(*c), api.PhaseApplied
		for _, w := range c.Writes {
			if k.keeps(w.Key) {
				k.data = txn.Apply(k.data, w)
			}
		}
		done = append(done, c.Id)
	}
	return k, done
}

// wantSpread asks whether a test had neither too many of one kind, nor too few.
func wantSpread(t *testing.T, what string, n, of int) {
	t.Helper()
	if n < of/20 || n > of*19/20 {
		t.Errorf("%s: %d of %d", what, n, of)
	}
}

// stopAtFirst ends a test in which something was wrong: one case tells enough.
func stopAtFirst(t *testing.T) {
	t.Helper()
	if t.Failed() {
		t.FailNow()
	}
}

// P11.1, P11.2, P11.4: of any commands, whether the list has them or not.
func TestAnyCommandIsAsked(t *testing.T) {
	const rounds = 20000
	dice := dice(41)
	blocked, free, read := 0, 0, 0
	for range rounds {
		k := anyKnown(dice)
		c := anyCmd(dice, anyId(dice))
		if len(k.l) > 0 && dice(2) == 0 {
			c = one(dice, k.l...)
		}
		want := k.toldBlocked(c)
		wantBlocked(t, "any", k.l, k.over, k.row, k.node, c, want...)
		wantReady(t, "any", k.l, k.over, k.row, k.node, c, k.toldReady(c))
		wantReads(t, "any", k.data, k.row, k.node, c, k.toldReads(c)...)
		stopAtFirst(t)
		if len(want) > 0 {
			blocked++
		} else if k.toldReady(c) && len(c.Value.Deps) > 0 {
			free++
		}
		if len(k.toldReads(c)) > 0 {
			read++
		}
	}
	wantSpread(t, "blocked", blocked, rounds)
	wantSpread(t, "ready", free, rounds)
	wantSpread(t, "it reads", read, rounds)
}

// P11.3, P11.5: of any commands.
func TestAnyRun(t *testing.T) {
	const rounds = 20000
	dice := dice(42)
	several, left, turned := 0, 0, 0
	for range rounds {
		k := anyKnown(dice)
		then, done := k.toldRun()
		got := wantRun(t, "any", k.l, k.over, k.data, k.row, k.node, then.data, done...)
		for i, c := range got {
			wantPairs(t, "any", c, then.l[i].Pairs...)
		}
		wantLeft(t, k, got)
		wantInOrder(t, k, done)
		stopAtFirst(t)
		if len(done) > 1 {
			several++
		}
		if !slices.Equal(done, rising(done)) {
			turned++
		}
		if slices.ContainsFunc(got, func(c api.Cmd) bool { return c.Ready && c.Phase == api.PhaseDecided }) {
			left++
		}
	}
	wantSpread(t, "several are done", several, rounds)
	wantSpread(t, "some are left, whose writes are known", left, rounds)
	wantSpread(t, "not as the Ids go", turned, rounds)
}

// wantLeft asks whether what was not done is blocked, or its writes are not known.
func wantLeft(t *testing.T, k known, l []api.Cmd) {
	t.Helper()
	for _, c := range l {
		if c.Ready && ready.Ready(l, k.over, k.row, k.node, c) {
			t.Errorf("not done: %v, of %v", c, l)
		}
	}
}

// hangs tells whether one hangs on another one in a shard that the node has.
func (k known) hangs(c api.Cmd, id api.Stamp) bool {
	return slices.ContainsFunc(c.Value.Deps, func(d api.Dep) bool { return k.has(d.Shard) && slices.Contains(d.Ids, id) })
}

// wantInOrder asks of any two that were done whether what hangs on an earlier one was done behind it, if that one is not over.
func wantInOrder(t *testing.T, k known, done []api.Stamp) {
	t.Helper()
	for _, c := range k.l {
		for _, first := range k.l {
			i, j := slices.Index(done, first.Id), slices.Index(done, c.Id)
			earlier := less(first.Value.At, c.Value.At) && k.hangs(c, first.Id) && !slices.Contains(k.over, first.Id)
			if i >= 0 && j >= 0 && earlier && i > j {
				t.Errorf("%v was done behind %v: %v", first, c, done)
			}
		}
	}
}

// P11.5: where of any two the later one hangs on the earlier one, they are done in the order of their times.
func TestOrderIsThatOfTheTimes(t *testing.T) {
	dice := dice(43)
	turned := 0
	const rounds = 2000
	for range rounds {
		var ids, times []api.Stamp
		for i := range int64(2 + dice(8)) {
			ids, times = append(ids, at(i+1, 1+dice(7))), append(times, at(20+i, 1))
		}
		var l []api.Cmd
		for i, id := range ids {
			place := dice(len(times))
			// Some hang on later ones as well: those have no part.
			l = append(l, loaded(id, times[place], on(ids...), write("a", api.Num(i))))
			times = slices.Delete(times, place, place+1)
		}
		want := slices.Clone(l)
		slices.SortFunc(want, func(a, b api.Cmd) int { return cmp.Compare(a.Value.At.Time, b.Value.At.Time) })
		var order []api.Stamp
		for _, c := range want {
			order = append(order, c.Id)
		}
		wantRun(t, "each hangs on all", l, nil, nil, whole(), 1, data(pair("a", want[len(want)-1].Writes[0].Num)), order...)
		stopAtFirst(t)
		if !slices.Equal(order, ids) {
			turned++
		}
	}
	if turned < rounds/2 {
		t.Errorf("not as the Ids go: %d of %d", turned, rounds)
	}
}

// P11.3: of what a node keeps not, Run knows nothing; two nodes with the same shards do the same.
func TestRunHangsOnTheShardsAlone(t *testing.T) {
	dice := dice(44)
	for range 3000 {
		k := anyKnown(dice)
		l, d, done := ready.Run(k.l, k.over, k.data, k.row, k.node)
		other := slices.Clone(k.row)
		for i, s := range other {
			other[i].Nodes = []int{5}
			if topo.Keeps(k.row, k.node, i) {
				other[i].Nodes = []int{6, 7}
			}
			other[i].Span = s.Span
		}
		otherCmds, otherData, otherDone := ready.Run(k.l, k.over, k.data, other, 6)
		if !sameList(l, otherCmds) || !slices.Equal(d, otherData) || !slices.Equal(done, otherDone) {
			t.Fatalf("%v: done %v, another node with the same shards: %v", k, done, otherDone)
		}
	}
}

// Rule 1: what may not be is answered, too, and the same again.
func TestWhatMayNotBeIsAnswered(t *testing.T) {
	dice := dice(45)
	stamp := func() api.Stamp {
		return one(dice, none(), at(-1, -1), at(3, 1), at(5, 0), at(5, 99), at(math.MinInt64, math.MinInt), at(math.MaxInt64, math.MaxInt))
	}
	text := func() string { return one(dice, "", "a", "b", "\xff", "a key that is by far too long") }
	someStamps := func() []api.Stamp { return stamps(stamp(), stamp(), stamp())[:dice(4)] }
	someDeps := func() []api.Dep {
		shard := func() int { return one(dice, math.MinInt, -1, 0, 0, 1, 2, 8, math.MaxInt) }
		return []api.Dep{dep(shard(), someStamps()...), dep(shard(), someStamps()...), dep(shard(), someStamps()...)}[:dice(4)]
	}
	somePairs := func() []api.Pair {
		return data(pair(text(), 3), pair(text(), 1), pair(text(), math.MaxUint64))[:dice(4)]
	}
	someCmd := func() api.Cmd {
		return api.Cmd{
			Id: stamp(), Phase: dice(6) - 1, Ready: dice(3) > 0, Has: dice(2) == 0,
			Value:  api.Value{Gone: dice(4) == 0, At: stamp(), Deps: someDeps()},
			Ops:    ops(api.Op{Kind: dice(9) - 1, Key: text(), To: text()}, api.Op{Kind: api.OpScan, Key: text(), To: text()})[:dice(3)],
			Writes: []api.Write{write(text(), 1), away(text()), {Key: text(), Num: 7, Gone: true}}[:dice(4)],
			Pairs:  somePairs(),
		}
	}
	for range 10000 {
		var l []api.Cmd
		for range dice(6) {
			l = append(l, someCmd())
		}
		var row []api.Shard
		for range dice(4) {
			row = append(row, shard(text(), text(), one(dice, -1, 0, 1, 8), one(dice, 2, 1, math.MaxInt)))
		}
		over, d, c, node := someStamps(), somePairs(), someCmd(), one(dice, -1, 0, 1, 2, 7, 8, math.MinInt, math.MaxInt)
		wantBlocked(t, "again", l, over, row, node, c, ready.Blocked(l, over, row, node, c)...)
		wantReady(t, "again", l, over, row, node, c, ready.Ready(l, over, row, node, c))
		wantReads(t, "again", d, row, node, c, ready.Reads(d, row, node, c)...)
		first, firstData, firstDone := ready.Run(l, over, d, row, node)
		again, againData, againDone := ready.Run(l, over, d, row, node)
		if !sameList(first, again) || !slices.Equal(firstData, againData) || !slices.Equal(firstDone, againDone) {
			t.Errorf("another answer: %v, %v, %v, %v, %d", l, over, d, row, node)
		}
		stopAtFirst(t)
	}
}
