package ready_test

import (
	"math"
	"reflect"
	"slices"
	"testing"

	"folkmoot/api"
	"folkmoot/cmd"
	"folkmoot/ready"
)

func at(time int64, node int) api.Stamp { return api.Stamp{Time: time, Node: node} }

// none is the zero Stamp.
func none() api.Stamp { return api.Stamp{} }

func stamps(l ...api.Stamp) []api.Stamp { return l }

func get(key string) api.Op               { return api.Op{Kind: api.OpGet, Key: key} }
func scan(key, to string) api.Op          { return api.Op{Kind: api.OpScan, Key: key, To: to} }
func put(key string) api.Op               { return api.Op{Kind: api.OpPut, Key: key} }
func add(key string) api.Op               { return api.Op{Kind: api.OpAdd, Key: key} }
func drop(key string) api.Op              { return api.Op{Kind: api.OpDrop, Key: key} }
func move(key, to string) api.Op          { return api.Op{Kind: api.OpMove, Key: key, To: to} }
func ops(l ...api.Op) []api.Op            { return l }
func pair(key string, n api.Num) api.Pair { return api.Pair{Key: key, Num: n} }
func data(l ...api.Pair) []api.Pair       { return l }

func write(key string, n api.Num) api.Write { return api.Write{Key: key, Num: n} }

func away(key string) api.Write { return api.Write{Key: key, Gone: true} }

func dep(shard int, ids ...api.Stamp) api.Dep { return api.Dep{Shard: shard, Ids: ids} }

// on is dependencies of shard 0 alone.
func on(ids ...api.Stamp) []api.Dep { return []api.Dep{dep(0, ids...)} }

func cmds(l ...api.Cmd) []api.Cmd { return l }

func shard(from, to string, nodes ...int) api.Shard {
	return api.Shard{Span: api.Span{From: from, To: to}, Nodes: nodes}
}

// whole is a topology of one shard.
func whole() []api.Shard { return []api.Shard{shard("", "", 1, 2, 3)} }

// three is a topology in which node 1 has the shards 0 and 2, node 2 all, node 3 shard 1, and node 7 none.
func three() []api.Shard {
	return []api.Shard{shard("", "g", 1, 2), shard("g", "n", 2, 3), shard("n", "", 1, 2, 4)}
}

// seen is a command that is only seen; what it does has no part in what blocks.
func seen(id api.Stamp) api.Cmd {
	return cmd.Witness(cmd.New(id), ops(get("a")), id, true, on(at(1, 7)))
}

func accepted(c api.Cmd, v api.Value) api.Cmd {
	c, _ = cmd.Accept(c, none(), v)
	return c
}

func promised(c api.Cmd) api.Cmd {
	c, _ = cmd.Promise(c, at(9, 7))
	return c
}

func value(at api.Stamp, d ...api.Dep) api.Value { return api.Value{At: at, Deps: d} }

func gone() api.Value { return api.Value{Gone: true} }

func decided(id, at api.Stamp, d ...api.Dep) api.Cmd {
	return cmd.Decide(seen(id), nil, value(at, d...))
}

// loaded is a command that is decided, and whose writes are known.
func loaded(id, at api.Stamp, d []api.Dep, w ...api.Write) api.Cmd {
	return cmd.Load(decided(id, at, d...), w)
}

func applied(id, at api.Stamp, d ...api.Dep) api.Cmd { return cmd.Done(loaded(id, at, d), nil) }

// asks is a command with other ops.
func asks(c api.Cmd, l ...api.Op) api.Cmd {
	c.Ops = l
	return c
}

// sameList tells whether two lists have the same; nil and an empty one do.
func sameList[T any](a, b []T) bool {
	return len(a) == 0 && len(b) == 0 || reflect.DeepEqual(a, b)
}

func wantBlocked(t *testing.T, what string, l []api.Cmd, over []api.Stamp, row []api.Shard, node int, c api.Cmd, want ...api.Stamp) {
	t.Helper()
	if got := ready.Blocked(l, over, row, node, c); !slices.Equal(got, want) {
		t.Errorf("%s: Blocked(%v, %v, %v, %d, %v): %v, want %v", what, l, over, row, node, c, got, want)
	}
}

func wantReady(t *testing.T, what string, l []api.Cmd, over []api.Stamp, row []api.Shard, node int, c api.Cmd, want bool) {
	t.Helper()
	if got := ready.Ready(l, over, row, node, c); got != want {
		t.Errorf("%s: Ready(%v, %v, %v, %d, %v): %v", what, l, over, row, node, c, got)
	}
}

func wantReads(t *testing.T, what string, d []api.Pair, row []api.Shard, node int, c api.Cmd, want ...api.Pair) {
	t.Helper()
	if got := ready.Reads(d, row, node, c); !slices.Equal(got, want) {
		t.Errorf("%s: Reads(%v, %v, %d, %v): %v, want %v", what, d, row, node, c, got, want)
	}
}

// P11.1, P11.2: c hangs on 3.1 alone; what is known of that one tells whether it is blocked.
func TestBlockedByWhatIsKnownOfOne(t *testing.T) {
	on3, c := at(3, 1), decided(at(5, 1), at(5, 2), on(at(3, 1))...)
	cases := []struct {
		what  string
		l     []api.Cmd
		over  []api.Stamp
		block bool
	}{
		{"no command at all", nil, nil, true},
		{"no command of it, but others", cmds(applied(at(2, 1), at(2, 1)), applied(at(3, 2), at(3, 2)), applied(at(4, 1), at(4, 1))), nil, true},
		{"its own command alone", cmds(c), nil, true},
		{"nothing but its Id", cmds(cmd.New(on3)), nil, true},
		{"a ballot is promised", cmds(promised(cmd.New(on3))), nil, true},
		{"seen", cmds(seen(on3)), nil, true},
		{"seen, a lesser At is accepted", cmds(accepted(seen(on3), value(at(4, 1)))), nil, true},
		{"seen, a greater At is accepted", cmds(accepted(seen(on3), value(at(9, 1)))), nil, true},
		{"seen, and accepted as Gone", cmds(accepted(seen(on3), gone())), nil, true},
		{"not seen, and accepted as Gone", cmds(accepted(cmd.New(on3), gone())), nil, true},
		{"decided, at its Id", cmds(decided(on3, on3)), nil, true},
		{"decided, at a lesser time", cmds(decided(on3, at(4, 7))), nil, true},
		{"decided, at the same time, of a lesser node", cmds(decided(on3, at(5, 1))), nil, true},
		{"decided, at the same stamp", cmds(decided(on3, at(5, 2))), nil, false},
		{"decided, at the same time, of a greater node", cmds(decided(on3, at(5, 3))), nil, false},
		{"decided, at a greater time, of a lesser node", cmds(decided(on3, at(6, 1))), nil, false},
		{"decided, its writes are known, at a lesser time", cmds(loaded(on3, at(4, 1), nil)), nil, true},
		{"decided, its writes are known, at a greater time", cmds(loaded(on3, at(6, 1), nil)), nil, false},
		{"decided to be Gone", cmds(cmd.Decide(seen(on3), nil, gone())), nil, false},
		{"decided to be Gone, and never seen", cmds(cmd.Decide(cmd.New(on3), nil, gone())), nil, false},
		{"applied, at a lesser time", cmds(applied(on3, at(4, 1))), nil, false},
		{"applied, at a greater time", cmds(applied(on3, at(6, 1))), nil, false},
		{"over, and no command", nil, stamps(on3), false},
		{"over, among others", nil, stamps(at(1, 1), at(2, 7), on3, at(3, 2)), false},
		{"over, and only seen", cmds(seen(on3)), stamps(on3), false},
		{"over, and decided at a lesser time", cmds(decided(on3, on3)), stamps(on3), false},
		{"others are over", nil, stamps(at(2, 1), at(3, 2), at(4, 1), at(5, 1)), true},
		{"others are over, it is applied", cmds(applied(on3, on3)), stamps(at(2, 1), at(4, 1)), false},
	}
	for _, x := range cases {
		var want []api.Stamp
		if x.block {
			want = stamps(on3)
		}
		wantBlocked(t, x.what, x.l, x.over, whole(), 2, c, want...)
		wantReady(t, x.what, x.l, x.over, whole(), 2, c, !x.block)
		wantBlocked(t, x.what+", at who does not keep it", x.l, x.over, whole(), 4, c)
		wantReady(t, x.what+", at who does not keep it", x.l, x.over, whole(), 4, c, true)
	}
}

// P11.1: the example of the chapter; times are told by At alone, not by Ids.
func TestBlockedByTimes(t *testing.T) {
	a, b := at(1, 1), decided(at(2, 1), at(5, 1), on(at(1, 1))...)
	wantBlocked(t, "decided at 3.1", cmds(decided(a, at(3, 1))), nil, whole(), 1, b, a)
	wantBlocked(t, "applied", cmds(applied(a, at(3, 1))), nil, whole(), 1, b)
	wantBlocked(t, "decided at 7.1", cmds(decided(a, at(7, 1))), nil, whole(), 1, b)
	late := decided(at(9, 1), at(10, 1))
	wantBlocked(t, "a greater Id, a lesser At", cmds(late), nil, whole(), 1, decided(at(2, 1), at(11, 1), on(at(9, 1))...), at(9, 1))
	wantBlocked(t, "a lesser Id, a greater At", cmds(decided(at(2, 1), at(11, 1))), nil, whole(), 1, decided(at(9, 1), at(10, 1), on(at(2, 1))...))
	last := at(api.MaxTime, 7)
	wantBlocked(t, "the greatest stamps", cmds(decided(at(4, 1), last)), nil, whole(), 1, decided(last, last, on(at(4, 1))...))
	wantBlocked(t, "below the greatest stamp", cmds(decided(at(4, 1), at(api.MaxTime, 6))), nil, whole(), 1, decided(last, last, on(at(4, 1))...), at(4, 1))
}

// P11.1: its own Id has no part, whatever is known of it.
func TestBlockedByItself(t *testing.T) {
	id := at(5, 1)
	c := decided(id, at(6, 1), on(at(3, 1), id, at(7, 1))...)
	for _, l := range [][]api.Cmd{nil, cmds(seen(id)), cmds(c), cmds(decided(id, at(5, 2))), cmds(applied(id, id))} {
		wantBlocked(t, "its own Id", l, nil, whole(), 1, c, at(3, 1), at(7, 1))
		wantBlocked(t, "its own Id, which is over", l, stamps(id), whole(), 1, c, at(3, 1), at(7, 1))
		wantReady(t, "its own Id alone", l, nil, whole(), 1, decided(id, at(6, 1), on(id)...), true)
	}
}

// P11.1: of the shards that the node has, each Id once, rising.
func TestBlockedShardByShard(t *testing.T) {
	a, b, c, d, e := at(2, 1), at(3, 1), at(4, 1), at(4, 2), at(9, 1)
	cases := []struct {
		what string
		node int
		d    []api.Dep
		want []api.Stamp
	}{
		{"none", 1, nil, nil},
		{"a shard without Ids", 1, []api.Dep{dep(0)}, nil},
		{"shards without Ids", 2, []api.Dep{dep(0), dep(1), dep(2)}, nil},
		{"all of its shards", 2, []api.Dep{dep(0, a), dep(1, b), dep(2, c)}, stamps(a, b, c)},
		{"two of three", 1, []api.Dep{dep(0, a), dep(1, b), dep(2, c)}, stamps(a, c)},
		{"the one of three", 3, []api.Dep{dep(0, a), dep(1, b), dep(2, c)}, stamps(b)},
		{"the last one of three", 4, []api.Dep{dep(0, a), dep(1, b), dep(2, c)}, stamps(c)},
		{"none of them", 7, []api.Dep{dep(0, a), dep(1, b), dep(2, c)}, nil},
		{"another one's alone", 1, []api.Dep{dep(1, a, b)}, nil},
		{"once, of two shards", 1, []api.Dep{dep(0, b), dep(2, b)}, stamps(b)},
		{"once, of three shards, and others", 2, []api.Dep{dep(0, b, c), dep(1, a, b), dep(2, b, d)}, stamps(a, b, c, d)},
		{"in a shard that it has, and in one that it has not", 1, []api.Dep{dep(0, b), dep(1, b, c)}, stamps(b)},
		{"falling from shard to shard", 1, []api.Dep{dep(0, d, e), dep(2, a, c)}, stamps(a, c, d, e)},
		{"by turns", 2, []api.Dep{dep(0, b, e), dep(1, c), dep(2, a, d)}, stamps(a, b, c, d, e)},
		{"shards outside the topology", 1, []api.Dep{dep(0, b), dep(3, a), dep(7, c)}, stamps(b)},
		{"shards outside the topology alone", 2, []api.Dep{dep(3, a), dep(4, b), dep(7, c)}, nil},
	}
	for _, x := range cases {
		wantBlocked(t, x.what, nil, nil, three(), x.node, decided(at(5, 1), at(8, 1), x.d...), x.want...)
		wantReady(t, x.what, nil, nil, three(), x.node, decided(at(5, 1), at(8, 1), x.d...), len(x.want) == 0)
	}
}

// P11.1: each Id for itself.
func TestBlockedBySomeOfMany(t *testing.T) {
	l := cmds(
		seen(at(1, 1)), decided(at(2, 1), at(4, 1)), applied(at(3, 1), at(3, 1)), cmd.Decide(seen(at(4, 1)), nil, gone()),
		decided(at(5, 1), at(12, 1)), seen(at(6, 1)), decided(at(7, 1), at(10, 1)), decided(at(8, 1), at(9, 7)),
	)
	c := decided(at(9, 1), at(10, 1), dep(0, at(1, 1), at(2, 1), at(3, 1), at(4, 1), at(5, 1)), dep(2, at(5, 1), at(6, 1), at(7, 1), at(8, 1), at(9, 3), at(11, 1)))
	wantBlocked(t, "of each kind", l, nil, three(), 1, c, at(1, 1), at(2, 1), at(6, 1), at(8, 1), at(9, 3), at(11, 1))
	wantBlocked(t, "some are over", l, stamps(at(1, 1), at(4, 2), at(8, 1), at(11, 1)), three(), 1, c, at(2, 1), at(6, 1), at(9, 3))
	wantBlocked(t, "those of one shard", l, nil, three()[:1], 1, c, at(1, 1), at(2, 1))
	wantReady(t, "some block", l, nil, three(), 1, c, false)
	wantReady(t, "one blocks", l, stamps(at(1, 1), at(2, 1), at(6, 1), at(8, 1), at(11, 1)), three(), 1, c, false)
	wantReady(t, "all that block are over", l, stamps(at(1, 1), at(2, 1), at(6, 1), at(8, 1), at(9, 3), at(11, 1)), three(), 1, c, true)
}

// P11.1, P11.2: Blocked is told in any phase, Ready in one alone.
func TestPhases(t *testing.T) {
	id, v := at(5, 1), value(at(6, 1), on(at(3, 1))...)
	free := stamps(at(3, 1))
	cases := []struct {
		what    string
		c       api.Cmd
		blocked bool
		ready   bool
	}{
		{"nothing is known", cmd.New(id), false, false},
		{"seen", seen(id), false, false},
		{"seen, and accepted", accepted(seen(id), v), true, false},
		{"not seen, but accepted", accepted(cmd.New(id), v), true, false},
		{"accepted as Gone", accepted(seen(id), gone()), false, false},
		{"decided", decided(id, at(6, 1), on(at(3, 1))...), true, true},
		{"decided, its writes are known", loaded(id, at(6, 1), on(at(3, 1))), true, true},
		{"decided, never seen ahead of that", cmd.Decide(cmd.New(id), ops(put("a")), v), true, true},
		{"decided to be Gone", cmd.Decide(seen(id), nil, gone()), false, false},
		{"decided to be Gone, never seen", cmd.Decide(cmd.New(id), nil, gone()), false, false},
		{"applied", applied(id, at(6, 1), on(at(3, 1))...), true, false},
	}
	for _, x := range cases {
		var want []api.Stamp
		if x.blocked {
			want = stamps(at(3, 1))
		}
		for _, l := range [][]api.Cmd{nil, cmds(x.c), cmds(seen(at(3, 1)), x.c)} {
			wantBlocked(t, x.what, l, nil, whole(), 1, x.c, want...)
			wantReady(t, x.what+", blocked or not", l, nil, whole(), 1, x.c, x.ready && !x.blocked)
			wantBlocked(t, x.what+", free", l, free, whole(), 1, x.c)
			wantReady(t, x.what+", free", l, free, whole(), 1, x.c, x.ready)
		}
	}
}

// P11.1: c is asked as it is handed in, whatever l has of its Id.
func TestTheCommandIsTheOneHandedIn(t *testing.T) {
	l := cmds(seen(at(3, 1)), applied(at(5, 1), at(5, 1)), decided(at(6, 1), at(6, 1)))
	c := decided(at(5, 1), at(8, 1), on(at(3, 1), at(6, 1))...)
	wantBlocked(t, "applied in l", l, nil, whole(), 1, c, at(3, 1), at(6, 1))
	wantReady(t, "applied in l", l, stamps(at(3, 1), at(6, 1)), whole(), 1, c, true)
}

// P11.4
func TestReads(t *testing.T) {
	d := data(pair("a", 1), pair("c", 2), pair("g", 3), pair("h", 4), pair("n", 5), pair("z", 6))
	cases := []struct {
		what string
		node int
		l    []api.Op
		want []api.Pair
	}{
		{"a get of its own", 1, ops(get("a")), data(pair("a", 1))},
		{"a get of another one's", 3, ops(get("a")), nil},
		{"a get of what is not there", 1, ops(get("b")), nil},
		{"the first key of a shard", 3, ops(get("g")), data(pair("g", 3))},
		{"the key at which a shard ends", 1, ops(get("g")), nil},
		{"an add", 1, ops(add("c")), data(pair("c", 2))},
		{"a drop", 1, ops(drop("n")), data(pair("n", 5))},
		{"a put reads nothing", 1, ops(put("a")), nil},
		{"a move within", 2, ops(move("z", "a")), data(pair("a", 1), pair("z", 6))},
		{"a move from its own to another one's", 1, ops(move("a", "h")), data(pair("a", 1))},
		{"a move from another one's to its own", 1, ops(move("h", "z")), data(pair("z", 6))},
		{"a scan over all shards, all its own", 2, ops(scan("b", "z")), data(pair("c", 2), pair("g", 3), pair("h", 4), pair("n", 5))},
		{"a scan without an end, of which it has two parts", 1, ops(scan("b", "")), data(pair("c", 2), pair("n", 5), pair("z", 6))},
		{"a scan of which it has the midst", 3, ops(scan("a", "")), data(pair("g", 3), pair("h", 4))},
		{"a scan of which it has the end", 4, ops(scan("a", "z")), data(pair("n", 5))},
		{"a scan of which it has nothing", 7, ops(scan("a", "")), nil},
		{"a scan of what is not there", 2, ops(scan("d", "g")), nil},
		{"each pair once", 2, ops(get("c"), scan("a", "h"), add("c"), get("z"), get("c")), data(pair("a", 1), pair("c", 2), pair("g", 3), pair("z", 6))},
		{"some inside, some outside", 1, ops(get("z"), get("h"), get("a"), put("c")), data(pair("a", 1), pair("z", 6))},
		{"no ops", 2, nil, nil},
	}
	for _, x := range cases {
		for _, c := range cmds(seen(at(3, 1)), decided(at(3, 1), at(4, 1)), loaded(at(3, 1), at(4, 1), nil, write("a", 9)), applied(at(3, 1), at(4, 1))) {
			wantReads(t, x.what, d, three(), x.node, asks(c, x.l...), x.want...)
		}
		wantReads(t, x.what+", of no data", nil, three(), x.node, asks(seen(at(3, 1)), x.l...))
		wantReads(t, x.what+", upon no topology", d, nil, x.node, asks(seen(at(3, 1)), x.l...))
	}
}

// Rule 1: lists that are empty, and a node that has no shard.
func TestEmptyLists(t *testing.T) {
	c := decided(at(5, 1), at(6, 1), dep(0, at(3, 1)), dep(1, at(4, 1)))
	for _, node := range []int{math.MinInt, -1, 0, 5, 6, 7, 8, math.MaxInt} {
		for _, row := range [][]api.Shard{nil, {}, three()} {
			wantBlocked(t, "no shard", nil, nil, row, node, c)
			wantBlocked(t, "no shard, empty lists", cmds(), stamps(), row, node, c)
			wantReady(t, "no shard", nil, nil, row, node, c, true)
			wantReady(t, "no shard, only seen", nil, nil, row, node, seen(at(5, 1)), false)
			wantReads(t, "no shard", data(pair("a", 1)), row, node, asks(c, scan("a", "")))
		}
	}
	for _, node := range []int{1, 2} {
		wantBlocked(t, "no topology", nil, nil, nil, node, c)
		wantReady(t, "no topology", nil, nil, []api.Shard{}, node, c, true)
	}
	wantBlocked(t, "the zero command", nil, nil, three(), 1, api.Cmd{})
	wantReady(t, "the zero command", nil, nil, three(), 1, api.Cmd{}, false)
	wantReads(t, "the zero command", data(pair("a", 1)), three(), 1, api.Cmd{})
}
