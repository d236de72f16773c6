package clash_test

import (
	"reflect"
	"slices"
	"testing"

	"folkmoot/api"
	"folkmoot/clash"
	"folkmoot/deps"
)

// roomy is a copy of a list with spare elements behind it.
func roomy[T any](l []T, spare T) []T { return append(slices.Clone(l), spare, spare, spare)[:len(l)] }

// whole is a copy of a list to the end of its spare room.
func whole[T any](l []T) []T { return slices.Clone(l[:cap(l)]) }

// spoil writes over all of a list, and over its spare room.
func spoil[T any](l []T, with T) {
	l = l[:cap(l)]
	for i := range l {
		l[i] = with
	}
}

func spareOp() api.Op { return api.Op{Kind: -7, Key: "spare", To: "room", Num: 77} }

// given is all that is handed in, with spare room everywhere.
type given struct {
	l    []api.Cmd
	a, b []api.Op
	set  []api.Span
	row  []api.Shard
}

func gift() given {
	var l []api.Cmd
	for _, c := range cmds(
		seen(at(7, 1), put("g"), put("a")), decided(at(2, 1), at(4, 1), put("a")), seen(at(3, 1), put("t"), put("n")),
		seen(at(1, 1), get("a")), seen(at(6, 1), drop("a"), drop("g")), accepted(seen(at(4, 1), put("a")), gone()),
	) {
		c.Ops = roomy(c.Ops, spareOp())
		l = append(l, c)
	}
	row := four()
	for i := range row {
		row[i].Nodes = roomy(row[i].Nodes, 7)
	}
	return given{
		l: roomy(l, seen(at(5, 1), put("a"), put("z"))),
		// Neither rises, and a set is made of each: sorted where it lies it would be another one.
		a:   roomy(ops(scan("g", ""), get("b"), put("a")), spareOp()),
		b:   roomy(ops(put("t"), put("n"), get("a")), spareOp()),
		set: roomy(of("", "b", "m", ""), api.Span{From: "spare", To: "tire"}),
		row: roomy(row, shard("spare", "tire", 1)),
	}
}

// copied is all of that to the end of its spare room, in memory of its own.
func (g given) copied() given {
	c := given{whole(g.l), whole(g.a), whole(g.b), whole(g.set), whole(g.row)}
	for i := range c.l {
		c.l[i].Ops = whole(c.l[i].Ops)
	}
	for i := range c.row {
		c.row[i].Nodes = whole(c.row[i].Nodes)
	}
	return c
}

// Rule 3: what is handed in is not changed, its spare room neither.
func TestWhatIsHandedInStays(t *testing.T) {
	g := gift()
	old := g.copied()
	for range 3 {
		wantWithin(t, "roomy lists", g.a, g.b, g.set, true)
		wantMax(t, "roomy lists", g.l, at(9, 1), g.b, g.set, at(7, 1))
		wantMax(t, "roomy lists, of the other one", g.l, at(9, 1), g.a, g.set, at(7, 1))
		wantDeps(t, "roomy lists", g.l, at(9, 1), g.b, g.row, 1, at(9, 1), dep(0, at(2, 1), at(4, 1), at(6, 1), at(7, 1)), dep(2, at(3, 1)), dep(3, at(3, 1)))
		wantDeps(t, "roomy lists, of the other one", g.l, at(9, 1), g.a, g.row, 2, at(7, 1), dep(0, at(1, 1), at(2, 1), at(4, 1), at(6, 1)), dep(1, at(6, 1)))
	}
	if !reflect.DeepEqual(g.copied(), old) {
		t.Errorf("changed: %v, was %v", g.copied(), old)
	}
}

// Rule 3: an answer shares nothing with an argument, nor with another answer, nor its lists with one another.
func TestAnswersLieApart(t *testing.T) {
	g := gift()
	tell := func() []api.Dep { return clash.Deps(g.l, at(9, 1), ops(scan("a", "")), g.row, 3, at(9, 1)) }
	want := []api.Dep{dep(0, at(2, 1), at(4, 1), at(6, 1), at(7, 1)), dep(1, at(6, 1), at(7, 1)), dep(3, at(3, 1))}
	first, second := tell(), tell()
	for i := range first {
		spoil(first[i].Ids, at(-7, -7))
		for j := range first {
			if j > i && !slices.Equal(first[j].Ids, want[j].Ids) {
				t.Errorf("the Ids of shard %d and of shard %d share memory", first[i].Shard, first[j].Shard)
			}
		}
	}
	spoil(first, dep(-7))
	third := tell()
	// What was handed in is another thing then; what was answered is not.
	for _, c := range g.l {
		spoil(c.Ops, spareOp())
	}
	spoil(g.l, api.Cmd{Id: at(-7, -7)})
	spoil(g.row, shard("spare", "tire"))
	for _, d := range [][]api.Dep{second, third} {
		if !deps.Same(d, want) {
			t.Errorf("Deps: %v, want %v", d, want)
		}
	}
}

// Rule 4: no call hangs on another one.
func TestCallsHangOnNothingElse(t *testing.T) {
	g := gift()
	calls := []func() any{
		func() any { return clash.Within(g.a, g.b, g.set) },
		func() any { return clash.Within(g.a, g.b, of("b", "c")) },
		func() any { return clash.Max(g.l, at(9, 1), g.a, g.set) },
		func() any { return clash.Max(nil, at(9, 1), g.a, g.set) },
		func() any { return clash.Deps(g.l, at(9, 1), g.a, g.row, 1, at(9, 1)) },
		func() any { return clash.Deps(g.l, at(7, 1), g.b, g.row, 3, at(4, 1)) },
	}
	var alone []any
	for _, call := range calls {
		alone = append(alone, call())
	}
	for i, call := range calls {
		for j, next := range calls {
			first, second := call(), next()
			if !reflect.DeepEqual(first, alone[i]) || !reflect.DeepEqual(second, alone[j]) {
				t.Errorf("%d, then %d: %v and %v, alone %v and %v", i, j, first, second, alone[i], alone[j])
			}
		}
	}
}
