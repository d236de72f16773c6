package clash_test

import (
	"slices"
	"testing"

	"folkmoot/api"
	"folkmoot/clash"
	"folkmoot/deps"
	"folkmoot/topo"
)

func dep(shard int, ids ...api.Stamp) api.Dep { return api.Dep{Shard: shard, Ids: ids} }

func shard(from, to string, nodes ...int) api.Shard {
	return api.Shard{Span: api.Span{From: from, To: to}, Nodes: nodes}
}

// four is a topology of four shards, of which each node from 1 to 5 has some.
func four() []api.Shard {
	return []api.Shard{shard("", "f", 1, 2, 3), shard("f", "m", 2, 3), shard("m", "s", 1, 4), shard("s", "", 1, 3, 5)}
}

func wantDeps(t *testing.T, what string, l []api.Cmd, id api.Stamp, o []api.Op, row []api.Shard, node int, below api.Stamp, want ...api.Dep) {
	t.Helper()
	got := clash.Deps(l, id, o, row, node, below)
	if !deps.Same(got, want) || deps.Check(got) != api.OK {
		t.Errorf("%s: Deps(%v, %v, %#v, %v, %d, %v): %v, want %v", what, l, id, o, row, node, below, got, want)
	}
}

// P10.3
func TestDepsAreOfTheShardsOfTheNodeThatAreMet(t *testing.T) {
	if topo.Check(four()) != api.OK {
		t.Fatal("the topology may not be")
	}
	l := cmds(seen(at(1, 1), put("a")), seen(at(2, 1), put("g")), seen(at(3, 1), put("n")), seen(at(4, 1), put("t")), seen(at(5, 1), put("e"), put("z")))
	id, below := at(9, 1), at(9, 1)
	// What conflicts in each shard with a scan of all.
	each := []api.Dep{dep(0, at(1, 1), at(5, 1)), dep(1, at(2, 1)), dep(2, at(3, 1)), dep(3, at(4, 1), at(5, 1))}
	every := ops(scan("\x00", ""))
	wantDeps(t, "node 1", l, id, every, four(), 1, below, each[0], each[2], each[3])
	wantDeps(t, "node 2", l, id, every, four(), 2, below, each[0], each[1])
	wantDeps(t, "node 3", l, id, every, four(), 3, below, each[0], each[1], each[3])
	wantDeps(t, "node 4", l, id, every, four(), 4, below, each[2])
	wantDeps(t, "node 5", l, id, every, four(), 5, below, each[3])
	wantDeps(t, "a node that has none", l, id, every, four(), 6, below)
	for _, node := range []int{-1, 0, api.MaxNode, api.MaxNode + 1} {
		wantDeps(t, "no node of it", l, id, every, four(), node, below)
	}
	// Of the shards that a node has, those that are met.
	wantDeps(t, "the first one is met", l, id, ops(get("a")), four(), 1, below, dep(0, at(1, 1)))
	wantDeps(t, "the last one is met", l, id, ops(get("z")), four(), 1, below, dep(3, at(5, 1)))
	wantDeps(t, "two are met", l, id, ops(get("z"), get("a")), four(), 1, below, dep(0, at(1, 1)), dep(3, at(5, 1)))
	wantDeps(t, "none is met that it has", l, id, ops(scan("f", "m")), four(), 1, below)
	wantDeps(t, "a scan touches the next shard", l, id, ops(scan("a", "f")), four(), 2, below, each[0])
	wantDeps(t, "a scan meets the next shard", l, id, ops(scan("a", "f\x00")), four(), 2, below, each[0], dep(1))
	wantDeps(t, "a scan that begins where a shard does", l, id, ops(scan("f", "")), four(), 3, below, each[1], each[3])
	wantDeps(t, "a write alone meets it", l, id, ops(put("g"), put("n")), four(), 3, below, each[1])
	wantDeps(t, "of a move both are met", l, id, ops(move("g", "t")), four(), 3, below, dep(1, at(2, 1)), dep(3, at(4, 1)))
}

// P10.3
func TestDepsOfAShardInWhichNothingConflicts(t *testing.T) {
	l := cmds(seen(at(1, 1), put("a"), get("g")), seen(at(2, 1), get("n")))
	id := at(9, 1)
	wantDeps(t, "no commands", nil, id, ops(scan("a", "")), four(), 1, id, dep(0), dep(2), dep(3))
	wantDeps(t, "an empty list", cmds(), id, ops(scan("a", "")), four(), 3, id, dep(0), dep(1), dep(3))
	wantDeps(t, "only reads meet", l, id, ops(get("n")), four(), 1, id, dep(2))
	wantDeps(t, "another key of it", l, id, ops(put("o")), four(), 1, id, dep(2))
	wantDeps(t, "it conflicts elsewhere alone", l, id, ops(put("a"), get("g")), four(), 3, id, dep(0, at(1, 1)), dep(1))
	wantDeps(t, "it conflicts elsewhere, where the node is not", l, id, ops(put("n"), get("g")), four(), 3, id, dep(1))
	wantDeps(t, "in each of them", l, id, ops(put("a"), put("g"), put("n")), four(), 3, id, dep(0, at(1, 1)), dep(1, at(1, 1)))
	wantDeps(t, "those ahead alone are told", l, id, ops(put("a")), four(), 1, at(1, 1), dep(0))
}

// P10.3
func TestDepsAreBelow(t *testing.T) {
	l := cmds(seen(at(5, 2), put("a")), seen(at(2, 1), put("a")), seen(at(5, 3), put("a")), seen(at(9, 1), put("a")), seen(at(5, 1), put("a")), voted(at(3, 1), at(30, 1), put("a")))
	row := []api.Shard{shard("", "", 1)}
	whole := stamps(at(2, 1), at(3, 1), at(5, 1), at(5, 2), at(5, 3), at(9, 1))
	cases := []struct {
		below api.Stamp
		n     int
	}{
		{none(), 0}, {at(1, 7), 0}, {at(2, 1), 0}, {at(2, 2), 1}, {at(3, 1), 1}, {at(3, 2), 2}, {at(4, 7), 2}, {at(5, 1), 2}, {at(5, 2), 3}, {at(5, 3), 4},
		{at(5, 4), 5}, {at(8, 7), 5}, {at(9, 1), 5}, {at(9, 2), 6}, {at(30, 1), 6}, {at(api.MaxTime, api.MaxNode), 6}, {at(-1, -1), 0}, {at(0, 9), 0},
	}
	for _, c := range cases {
		// An Id that is less than below, equal to it, greater: it is the same which one it is, but for its own command.
		for _, id := range stamps(at(1, 1), c.below, at(6, 1), at(99, 1)) {
			want := slices.DeleteFunc(slices.Clone(whole[:c.n]), func(s api.Stamp) bool { return s == id })
			wantDeps(t, "by below alone", l, id, ops(get("a")), row, 1, c.below, dep(0, want...))
		}
	}
	wantDeps(t, "its own command is none of them", l, at(5, 2), ops(put("a")), row, 1, at(9, 1), dep(0, at(2, 1), at(3, 1), at(5, 1), at(5, 3)))
}

// P10.3: rising, whatever the order in which the commands lie, and whatever their Tops.
func TestDepsAreRising(t *testing.T) {
	l := cmds(voted(at(1, 2), at(50, 1), put("a")), voted(at(1, 3), at(40, 1), put("g")), voted(at(2, 1), at(30, 1), put("a"), put("g")), voted(at(3, 1), at(20, 1), drop("a")), seen(at(4, 1), add("g")))
	want := []api.Dep{dep(0, at(1, 2), at(2, 1), at(3, 1)), dep(1, at(1, 3), at(2, 1), at(4, 1))}
	wantEach := func(l []api.Cmd) {
		wantDeps(t, "in any order", l, at(9, 1), ops(scan("a", "")), four(), 2, at(9, 1), want...)
	}
	inEachOrder(l, wantEach)
	wantEach(slices.Concat(l, l))
}

// inEachOrder hands a list on in each order that there is.
func inEachOrder[T any](l []T, next func([]T)) {
	var lay func(done, left []T)
	lay = func(done, left []T) {
		if len(left) == 0 {
			next(done)
		}
		for i := range left {
			lay(slices.Concat(done, left[i:i+1]), slices.Concat(left[:i], left[i+1:]))
		}
	}
	lay(nil, l)
}

// P10.2, P10.3: those that only read hang on no others that do.
func TestThoseThatOnlyRead(t *testing.T) {
	readers := cmds(seen(at(1, 1), get("a")), seen(at(2, 1), scan("a", "")), seen(at(3, 1), get("a"), scan("\x00", "t")))
	writer := seen(at(4, 1), put("a"))
	id := at(9, 1)
	for _, read := range [][]api.Op{ops(get("a")), ops(scan("a", "f")), ops(get("b"), scan("a", "b"))} {
		wantMax(t, "reads alone", readers, id, read, all(), none())
		wantDeps(t, "reads alone", readers, id, read, four(), 1, id, dep(0))
		wantMax(t, "reads, and a write", append(readers[:3:3], writer), id, read, all(), at(4, 1))
		wantDeps(t, "reads, and a write", append(readers[:3:3], writer), id, read, four(), 1, id, dep(0, at(4, 1)))
	}
	wantMax(t, "a write", readers, id, ops(put("a")), all(), at(3, 1))
	wantDeps(t, "a write", readers, id, ops(put("a")), four(), 1, id, dep(0, at(1, 1), at(2, 1), at(3, 1)))
	wantDeps(t, "a write of what only scans read", readers, id, ops(put("g")), four(), 2, id, dep(1, at(2, 1), at(3, 1)))
	wantDeps(t, "a write behind the end of one of the scans", readers, id, ops(put("t")), four(), 3, id, dep(3, at(2, 1)))
}

// P10.3
func TestDepsWithoutOpsOrShards(t *testing.T) {
	l := cmds(seen(at(1, 1), put("a")))
	wantDeps(t, "no ops", l, at(9, 1), nil, four(), 1, at(9, 1))
	wantDeps(t, "an empty list of ops", l, at(9, 1), ops(), four(), 1, at(9, 1))
	wantDeps(t, "no shards", l, at(9, 1), ops(put("a")), nil, 1, at(9, 1))
	wantDeps(t, "an empty list of shards", l, at(9, 1), ops(put("a")), []api.Shard{}, 1, at(9, 1))
	wantDeps(t, "nothing at all", nil, none(), nil, nil, 0, none())
}

// The document's own example.
func TestTheExample(t *testing.T) {
	l := cmds(voted(at(3, 1), at(5, 2), put("a")))
	row := []api.Shard{shard("", "", 1, 2, 3)}
	wantMax(t, "Max", l, at(9, 1), ops(get("a")), all(), at(5, 2))
	wantDeps(t, "below 4.1", l, at(9, 1), ops(get("a")), row, 2, at(4, 1), dep(0, at(3, 1)))
	wantDeps(t, "below 3.1", l, at(9, 1), ops(get("a")), row, 2, at(3, 1), dep(0))
}
