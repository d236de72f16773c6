package clash_test

import (
	"cmp"
	"math"
	"slices"
	"testing"

	"folkmoot/api"
	"folkmoot/clash"
	"folkmoot/cmd"
	"folkmoot/deps"
	"folkmoot/span"
	"folkmoot/topo"
	"folkmoot/txn"
)

// dice answers numbers from 0 on and below n, the same ones in every run.
func dice(seed uint64) func(n int) int {
	return func(n int) int {
		seed = seed*6364136223846793005 + 1442695040888963407
		return int(seed >> 33 % uint64(n))
	}
}

// one is one of these.
func one[T any](dice func(int) int, l ...T) T { return l[dice(len(l))] }

// keys is the keys of which anything is made, rising; some have nothing between them.
func keys() []string {
	return []string{"\x00", "a", "a\x00", "aa", "b", "f", "f\x00", "k", long(), "s", "\xff"}
}

func anyKey(dice func(int) int) string { return one(dice, keys()...) }

// anyEdges is a From and a To between which there is something.
func anyEdges(dice func(int) int) (from, to string) {
	i := dice(len(keys()))
	if l := keys()[i+1:]; len(l) > 0 && dice(4) > 0 {
		return keys()[i], one(dice, l...)
	}
	return keys()[i], ""
}

func anyOp(dice func(int) int, readOnly bool) api.Op {
	key := anyKey(dice)
	from, to := anyEdges(dice)
	kind := 1 + dice(6)
	if readOnly {
		kind = 1 + dice(2)
	}
	switch kind {
	case api.OpGet:
		return get(key)
	case api.OpScan:
		return scan(from, to)
	case api.OpPut:
		return put(key)
	case api.OpAdd:
		return add(key)
	case api.OpDrop:
		return drop(key)
	}
	for to == "" {
		from, to = anyEdges(dice)
	}
	return one(dice, move(from, to), move(to, from))
}

func anyOps(dice func(int) int) []api.Op {
	var l []api.Op
	readOnly := dice(5) == 0
	for range 1 + dice(3) {
		l = append(l, anyOp(dice, readOnly))
	}
	return l
}

func anySet(dice func(int) int) []api.Span {
	var l []api.Span
	for range dice(4) {
		from, to := anyEdges(dice)
		l = append(l, api.Span{From: one(dice, "", from, from), To: to})
		if dice(3) == 0 {
			l = append(l, span.Point(from))
		}
	}
	return span.Union(l...)
}

// anyStamp is one of a few stamps.
func anyStamp(dice func(int) int) api.Stamp { return at(1+int64(dice(12)), 1+dice(3)) }

// anyCmd is a command of any phase, of which little, or much, is known.
func anyCmd(dice func(int) int) api.Cmd {
	c := cmd.New(anyStamp(dice))
	if dice(4) > 0 {
		vote := at(c.Id.Time+int64(dice(10)), c.Id.Node)
		c = cmd.Witness(c, anyOps(dice), vote, vote == c.Id, nil)
	}
	if dice(4) == 0 {
		c = bound(c, at(1+int64(dice(25)), 1+dice(7)))
	}
	v := one(dice, gone(), api.Value{At: anyStamp(dice)}, api.Value{At: anyStamp(dice)})
	if dice(3) == 0 {
		c = accepted(c, v)
	}
	if dice(3) == 0 {
		c = cmd.Decide(c, anyOps(dice), v)
	}
	if dice(2) == 0 {
		c = cmd.Load(c, nil)
	}
	if dice(2) == 0 {
		c = cmd.Done(c, nil)
	}
	return c
}

func anyCmds(dice func(int) int) []api.Cmd {
	var l []api.Cmd
	for range dice(9) {
		l = append(l, anyCmd(dice))
	}
	return l
}

// anyRow is a topology that may be.
func anyRow(dice func(int) int) []api.Shard {
	var parts []string
	for range dice(api.MaxShards) {
		parts = append(parts, anyKey(dice))
	}
	slices.Sort(parts)
	parts = append(slices.Compact(parts), "")
	var l []api.Shard
	from := ""
	for _, to := range parts {
		s := shard(from, to, 1+dice(2))
		for _, n := range []int{3, 5, 7} {
			if dice(2) == 0 {
				s.Nodes = append(s.Nodes, n)
			}
		}
		l, from = append(l, s), to
	}
	return l
}

// What follows tells the same as package clash, key by key; whatever is written is one of the keys.

func lies(s api.Span, text string) bool { return text >= s.From && (s.To == "" || text < s.To) }

func changes(l []api.Op, key string) bool {
	return slices.ContainsFunc(l, func(op api.Op) bool {
		return op.Kind != api.OpGet && op.Kind != api.OpScan && (op.Key == key || op.Kind == api.OpMove && op.To == key)
	})
}

func touches(l []api.Op, key string) bool {
	return changes(l, key) || slices.ContainsFunc(l, func(op api.Op) bool {
		return op.Key == key || op.Kind == api.OpScan && lies(api.Span{From: op.Key, To: op.To}, key)
	})
}

func toldWithin(a, b []api.Op, set []api.Span) bool {
	return slices.ContainsFunc(keys(), func(key string) bool {
		within := slices.ContainsFunc(set, func(s api.Span) bool { return lies(s, key) })
		return within && (changes(a, key) && touches(b, key) || changes(b, key) && touches(a, key))
	})
}

func toldCounts(c api.Cmd, id api.Stamp) bool {
	if c.Id == id || len(c.Ops) == 0 {
		return false
	}
	return c.Phase != api.PhaseDecided || !c.Value.Gone
}

func less(a, b api.Stamp) bool { return a.Time < b.Time || a.Time == b.Time && a.Node < b.Node }

func toldMax(l []api.Cmd, id api.Stamp, o []api.Op, owned []api.Span) api.Stamp {
	var greatest api.Stamp
	for _, c := range l {
		if toldCounts(c, id) && toldWithin(o, c.Ops, owned) {
			for _, s := range stamps(c.Id, c.Vote, c.Bound, c.Value.At) {
				if less(greatest, s) {
					greatest = s
				}
			}
		}
	}
	return greatest
}

// toldMet tells whether ops read or write a text of a span; if so, they do where one of the two begins.
func toldMet(l []api.Op, s api.Span) bool {
	return slices.ContainsFunc(l, func(op api.Op) bool {
		if op.Kind == api.OpScan {
			return lies(s, op.Key) || lies(api.Span{From: op.Key, To: op.To}, s.From)
		}
		return lies(s, op.Key) || op.Kind == api.OpMove && lies(s, op.To)
	})
}

func toldDeps(l []api.Cmd, id api.Stamp, o []api.Op, row []api.Shard, node int, below api.Stamp) []api.Dep {
	var d []api.Dep
	for i, s := range row {
		if !slices.Contains(s.Nodes, node) || !toldMet(o, s.Span) {
			continue
		}
		var ids []api.Stamp
		for _, c := range l {
			if toldCounts(c, id) && less(c.Id, below) && toldWithin(c.Ops, o, []api.Span{s.Span}) && !slices.Contains(ids, c.Id) {
				ids = append(ids, c.Id)
			}
		}
		slices.SortFunc(ids, func(a, b api.Stamp) int { return cmp.Or(cmp.Compare(a.Time, b.Time), cmp.Compare(a.Node, b.Node)) })
		d = append(d, dep(i, ids...))
	}
	return d
}

// wantSpread asks whether a test had neither too many of one kind, nor too few.
func wantSpread(t *testing.T, what string, n, of int) {
	t.Helper()
	if n < of/20 || n > of*19/20 {
		t.Errorf("%s: %d of %d", what, n, of)
	}
}

// stopAtFirst ends a test in which something was wrong: one case tells enough.
func stopAtFirst(t *testing.T) {
	t.Helper()
	if t.Failed() {
		t.FailNow()
	}
}

// P10.1, P10.4: any two, within any set; either way round, and within greater sets.
func TestWithinOfAnyTwo(t *testing.T) {
	const rounds = 20000
	dice := dice(31)
	met, apart := 0, 0
	for range rounds {
		a, b, set := anyOps(dice), anyOps(dice), anySet(dice)
		want := toldWithin(a, b, set)
		wantWithin(t, "any", a, b, set, want)
		wantWithin(t, "all", a, b, all(), txn.Conflict(a, b))
		part := span.Cut(set, anySet(dice))
		if clash.Within(a, b, part) && !clash.Within(a, b, set) {
			t.Fatalf("%#v and %#v: within %q, but not within %q", a, b, part, set)
		}
		rest := span.Less(set, part)
		wantWithin(t, "one of two parts", a, b, set, clash.Within(a, b, part) || clash.Within(a, b, rest))
		stopAtFirst(t)
		if want {
			met++
		} else if txn.Conflict(a, b) {
			apart++
		}
	}
	wantSpread(t, "within", met, rounds)
	wantSpread(t, "outside alone", apart, rounds)
}

// P10.2, P10.3, P10.4: any commands, upon any topology.
func TestMaxAndDepsOfAnyCommands(t *testing.T) {
	const rounds = 20000
	dice := dice(32)
	some, several := 0, 0
	for range rounds {
		l, id, o, row, node, below := anyCmds(dice), anyStamp(dice), anyOps(dice), anyRow(dice), 1+dice(api.MaxNode), anyStamp(dice)
		owned := one(dice, anySet(dice), topo.Owned(row, node))
		greatest := toldMax(l, id, o, owned)
		wantMax(t, "any", l, id, o, owned, greatest)
		want := toldDeps(l, id, o, row, node, below)
		wantDeps(t, "any", l, id, o, row, node, below, want...)
		wantGreater(t, l, id, o, row, node, below, anyStamp(dice))
		slices.Reverse(l)
		wantMax(t, "from behind", l, id, o, owned, greatest)
		wantDeps(t, "from behind", l, id, o, row, node, below, want...)
		stopAtFirst(t)
		if greatest != none() {
			some++
		}
		if len(want) > 1 {
			several++
		}
	}
	wantSpread(t, "a Max", some, rounds)
	wantSpread(t, "several shards", several, rounds)
}

// wantGreater asks whether Deps of the greater of two times have those of the lesser one, and just those below it.
func wantGreater(t *testing.T, l []api.Cmd, id api.Stamp, o []api.Op, row []api.Shard, node int, x, y api.Stamp) {
	t.Helper()
	if less(y, x) {
		x, y = y, x
	}
	lesser, greater := clash.Deps(l, id, o, row, node, x), clash.Deps(l, id, o, row, node, y)
	if !deps.Same(deps.Merge(lesser, greater), greater) || !deps.Same(deps.Below(greater, x), lesser) {
		t.Fatalf("Deps(%v, %v, %#v, %v, %d): below %v: %v, below %v: %v", l, id, o, row, node, x, lesser, y, greater)
	}
}

// P10.3: what a node owns is its shards: what it hangs on in one of them conflicts within all that it owns.
func TestDepsAndMaxAreOfTheSameCommands(t *testing.T) {
	dice := dice(33)
	last := at(api.MaxTime, api.MaxNode)
	for range 5000 {
		var l []api.Cmd
		for range dice(8) {
			l = append(l, seen(anyStamp(dice), anyOps(dice)...))
		}
		id, o, row, node := anyStamp(dice), anyOps(dice), anyRow(dice), 1+dice(api.MaxNode)
		var greatest api.Stamp
		if ids := deps.All(clash.Deps(l, id, o, row, node, last)); len(ids) > 0 {
			greatest = ids[len(ids)-1]
		}
		wantMax(t, "of those that are seen at their Ids", l, id, o, topo.Owned(row, node), greatest)
		stopAtFirst(t)
	}
}

// P10.2, P10.3: a node may know of many.
func TestManyCommands(t *testing.T) {
	const many = 20000
	var l []api.Cmd
	var want []api.Stamp
	for i := range int64(many) {
		id := at(many-i, 1)
		l = append(l, voted(id, at(many+i, 2), one(dice(uint64(i)), put("a"), put("b"))))
		if l[i].Ops[0].Key == "a" {
			want = append(want, id)
		}
	}
	slices.Reverse(want)
	d := clash.Deps(l, at(many+1, 1), ops(get("a")), four(), 1, at(many+1, 1))
	if !deps.Same(d, []api.Dep{dep(0, want...)}) {
		t.Errorf("of %d that conflict not all are told, or others", len(want))
	}
	wantSpread(t, "conflict", len(want), many)
	slices.Reverse(l)
	first := slices.IndexFunc(l, func(c api.Cmd) bool { return c.Ops[0].Key == "a" })
	if got := clash.Max(l, none(), ops(get("a")), all()); got != l[first].Vote {
		t.Errorf("Max: %v, want %v", got, l[first].Vote)
	}
}

// odd is an op that may not be, or may.
func odd(dice func(int) int) api.Op {
	texts := append(keys(), "", long()+"n", "zz")
	return api.Op{Kind: one(dice, math.MinInt, -1, 0, 1, 2, 3, 4, 5, 6, 7, math.MaxInt), Key: one(dice, texts...), To: one(dice, texts...), Num: api.Num(dice(3))}
}

// Rule 1: what may not be is answered, too, and the same again.
func TestWhatMayNotBeIsAnswered(t *testing.T) {
	dice := dice(34)
	stamp := func() api.Stamp {
		return one(dice, none(), at(-1, -1), at(3, 1), at(5, 0), at(5, 99), at(math.MinInt64, math.MinInt), at(math.MaxInt64, math.MaxInt))
	}
	someOps := func() []api.Op {
		var l []api.Op
		for range dice(12) {
			l = append(l, odd(dice))
		}
		return l
	}
	someSpans := func() []api.Span {
		l := []api.Span{}
		for range dice(5) {
			op := odd(dice)
			l = append(l, api.Span{From: op.Key, To: op.To})
		}
		return l
	}
	for range 5000 {
		var l []api.Cmd
		for range dice(6) {
			l = append(l, api.Cmd{Id: stamp(), Ops: someOps(), Phase: dice(6) - 1, Vote: stamp(), Bound: stamp(), Value: api.Value{Gone: dice(2) == 0, At: stamp()}})
		}
		var row []api.Shard
		for _, s := range someSpans() {
			row = append(row, api.Shard{Span: s, Nodes: []int{one(dice, -1, 0, 1, 8), one(dice, 2, 1, math.MaxInt)}})
		}
		a, b, set, id, below, node := someOps(), someOps(), someSpans(), stamp(), stamp(), one(dice, -1, 0, 1, 2, 7, 8, math.MinInt, math.MaxInt)
		if clash.Within(a, b, set) != clash.Within(a, b, set) || clash.Max(l, id, a, set) != clash.Max(l, id, a, set) {
			t.Fatalf("another answer: %v, %#v, %#v, %q", l, a, b, set)
		}
		if !deps.Same(clash.Deps(l, id, a, row, node, below), clash.Deps(l, id, a, row, node, below)) {
			t.Fatalf("another answer: %v, %#v, %v", l, a, row)
		}
	}
}
