package choose_test

import (
	"math"
	"reflect"
	"slices"
	"testing"

	"folkmoot/api"
	"folkmoot/choose"
)

// roomy is a copy of a list with spare elements behind it.
func roomy[T any](l []T, spare T) []T { return append(slices.Clone(l), spare, spare, spare)[:len(l)] }

// full is a copy of a list to the end of its spare room.
func full[T any](l []T) []T { return slices.Clone(l[:cap(l)]) }

// spoil writes over all of a list, and over its spare room.
func spoil[T any](l []T, with T) {
	l = l[:cap(l)]
	for i := range l {
		l[i] = with
	}
}

func spareStamp() api.Stamp { return at(-77, -77) }

func spareOp() api.Op { return api.Op{Kind: -7, Key: "spare", To: "room", Num: 77} }

func spareDep() api.Dep { return dep(0, at(-7, -7)) }

// eachDep is a copy of dependencies, of whose Ids each list is another one.
func eachDep(d []api.Dep, ids func([]api.Stamp) []api.Stamp) []api.Dep {
	d = slices.Clone(d)
	for i := range d {
		d[i].Ids = ids(d[i].Ids)
	}
	return d
}

func roomyDeps(d []api.Dep) []api.Dep {
	return roomy(eachDep(d, func(l []api.Stamp) []api.Stamp { return roomy(l, spareStamp()) }), spareDep())
}

func fullDeps(d []api.Dep) []api.Dep { return eachDep(full(d), full) }

func spoilDeps(d []api.Dep) {
	for _, x := range d {
		spoil(x.Ids, spareStamp())
	}
	spoil(d, spareDep())
}

// given is all that is handed in.
type given struct {
	row    []api.Shard
	shards []int
	ops    []api.Op
	l      []api.Told
}

// gift is that, with spare room everywhere; nothing of it stands in the order in which it is answered.
func gift(l ...api.Told) given {
	g := given{
		row:    roomy(four(), shard("spare", "tire", 1)),
		shards: roomy(places(1, 0, 1), 3),
		ops:    roomy(ops(put("k"), get("a")), spareOp()),
		l:      roomy(l, late(1, false, spareStamp())),
	}
	for i := range g.row {
		g.row[i].Nodes = roomy(g.row[i].Nodes, 7)
	}
	for i, x := range l {
		g.l[i].Ops, g.l[i].Deps = roomy(x.Ops, spareOp()), roomyDeps(x.Deps)
		g.l[i].Value.Deps = roomyDeps(x.Value.Deps)
	}
	return g
}

func ahead() given {
	a, b := dep(0, at(1, 1), at(2, 1)), dep(1, at(1, 1), at(3, 1))
	return gift(first(4, b), first(3, a, b), first(1, a, dep(3, at(4, 1))), first(2, a))
}

func held() given {
	v, w := value(at(7, 1), dep(0, at(1, 1), at(2, 1)), dep(2, at(3, 1))), value(at(8, 1), dep(0, at(1, 1)))
	return gift(holds(first(4), at(2, 1), w), holds(first(3), at(3, 1), v), holds(first(1), at(3, 1), v))
}

// copied is all of it to the end of its spare room, in memory of its own.
func (g given) copied() given {
	c := given{full(g.row), full(g.shards), full(g.ops), full(g.l)}
	for i := range c.row {
		c.row[i].Nodes = full(c.row[i].Nodes)
	}
	for i, x := range c.l {
		c.l[i].Ops, c.l[i].Deps, c.l[i].Value.Deps = full(x.Ops), fullDeps(x.Deps), fullDeps(x.Value.Deps)
	}
	return c
}

// spoilt writes over all that was handed in.
func (g given) spoilt() {
	for _, x := range g.l {
		spoil(x.Ops, spareOp())
		spoilDeps(x.Deps)
		spoilDeps(x.Value.Deps)
	}
	for _, s := range g.row {
		spoil(s.Nodes, 6)
	}
	spoil(g.l, api.Told{})
	spoil(g.row, shard("spare", "tire"))
	spoil(g.shards, 3)
	spoil(g.ops, spareOp())
}

// calls is all that is asked of what is handed in.
func (g given) calls() map[string]func() any {
	return map[string]func() any{
		"Fast":                func() any { v, ok := choose.Fast(g.row, id(), g.shards, g.l); return []any{v, ok} },
		"At":                  func() any { return choose.At(g.l) },
		"Union":               func() any { return choose.Union(g.l) },
		"Recover":             func() any { return choose.Recover(g.row, id(), g.ops, g.l) },
		"Recover without ops": func() any { return choose.Recover(g.row, id(), nil, g.l) },
	}
}

// Rule 3: what is handed in is not changed, its spare room neither.
func TestWhatIsHandedInStays(t *testing.T) {
	for _, g := range []given{ahead(), held(), gift()} {
		old := g.copied()
		for name, call := range g.calls() {
			call()
			if !reflect.DeepEqual(g.copied(), old) {
				t.Fatalf("%s changed it: %v, was %v", name, g.copied(), old)
			}
		}
	}
}

// spoilAnswer writes over all lists of an answer, one behind the other, and tells whether one of them was spoilt by another one.
func spoilAnswer(v api.Value, ops []api.Op) bool {
	apart := true
	for i, x := range v.Deps {
		spoil(x.Ids, spareStamp())
		for _, y := range v.Deps[i+1:] {
			apart = apart && !slices.Contains(y.Ids, spareStamp())
		}
	}
	spoil(v.Deps, spareDep())
	spoil(ops, spareOp())
	return apart
}

// Rule 3: an answer shares nothing with an argument, nor with another answer, nor its lists with one another.
func TestAnswersLieApart(t *testing.T) {
	a, b := dep(0, at(1, 1), at(2, 1)), dep(1, at(1, 1), at(3, 1))
	cases := []struct {
		what string
		make func() given
		ask  func(given) (api.Value, []api.Op)
		v    api.Value
		ops  []api.Op
	}{
		{"Fast", ahead, func(g given) (api.Value, []api.Op) { v, _ := choose.Fast(g.row, id(), g.shards, g.l); return v, nil }, value(id(), a, b), nil},
		{"Union", ahead, func(g given) (api.Value, []api.Op) { return api.Value{Deps: choose.Union(g.l)}, nil }, value(none(), a, b, dep(3, at(4, 1))), nil},
		{"Recover, fast", ahead, func(g given) (api.Value, []api.Op) {
			p := choose.Recover(g.row, id(), g.ops, g.l)
			return p.Value, p.Ops
		}, value(id(), a, b), nil},
		{"Recover, of a value", held, func(g given) (api.Value, []api.Op) {
			p := choose.Recover(g.row, id(), g.ops, g.l)
			return p.Value, p.Ops
		}, value(at(7, 1), a, dep(2, at(3, 1))), nil},
		{"Recover, of ops", held, func(g given) (api.Value, []api.Op) {
			p := choose.Recover(g.row, id(), nil, g.l)
			return p.Value, p.Ops
		}, api.Value{}, ops(put("a"))},
	}
	for _, c := range cases {
		g := c.make()
		v, ops := c.ask(g)
		if !spoilAnswer(c.ask(g)) {
			t.Errorf("%s: the lists of an answer share memory", c.what)
		}
		again, opsAgain := c.ask(g)
		g.spoilt()
		if !sameValue(v, c.v) || !slices.Equal(ops, c.ops) || !sameValue(again, c.v) || !slices.Equal(opsAgain, c.ops) {
			t.Errorf("%s: %v and %v, %v and %v, want %v and %v", c.what, v, ops, again, opsAgain, c.v, c.ops)
		}
	}
}

// Rule 4: no call hangs on another one.
func TestCallsHangOnNothingElse(t *testing.T) {
	var calls []func() any
	for _, g := range []given{ahead(), held(), gift()} {
		for _, call := range g.calls() {
			calls = append(calls, call)
		}
	}
	var alone []any
	for _, call := range calls {
		alone = append(alone, call())
	}
	for i, call := range calls {
		for j, next := range calls {
			one, two := call(), next()
			if !reflect.DeepEqual(one, alone[i]) || !reflect.DeepEqual(two, alone[j]) {
				t.Errorf("%d, then %d: %v and %v, alone %v and %v", i, j, one, two, alone[i], alone[j])
			}
		}
	}
}

// wild is what may not be told.
func wild() []api.Told {
	return []api.Told{
		{}, {Node: -1, Vote: at(-1, -1), Fast: true}, {Node: math.MaxInt, Ops: ops(spareOp())}, {Node: math.MinInt, Has: true, Ballot: at(-9, 99)},
		first(1, dep(-1, at(1, 1)), dep(-1, at(0, 0)), dep(math.MaxInt)), first(1, dep(0, at(3, 1), at(1, 1), at(1, 1))), first(1, dep(0), dep(0, at(1, 1))),
		holds(blind(2), none(), value(at(math.MinInt64, 0), dep(9), dep(0, at(5, 5), none()), dep(0))), holds(first(2), at(1, 1), api.Value{}),
		{Node: 3, Ballot: at(1, 1), Value: gone(), Vote: at(math.MaxInt64, math.MaxInt)},
	}
}

// Rule 1: whatever is handed in, each call answers, and the same again.
func TestWildOnesAreAnswered(t *testing.T) {
	rows := [][]api.Shard{
		nil, {}, four(), {{}}, {shard("z", "a", -1, 0, 9), shard("", "", 1, 1)}, make([]api.Shard, 20), {shard("", "g", 3, 2, 1), shard("a", "", 1)},
	}
	asked := [][]int{nil, {}, {0}, {0, 0, -1, math.MaxInt, math.MinInt, 19, 20, 1}}
	asks := [][]api.Op{nil, {}, ops(put("a")), ops(spareOp()), ops(api.Op{}, get(""), api.Op{Kind: api.OpScan, Key: "z", To: "a"}), make([]api.Op, 30)}
	lists := append([][]api.Told{nil, {}, wild(), ahead().l}, turned(wild())...)
	for _, x := range wild() {
		lists = append(lists, told(x), told(x, x))
	}
	for _, row := range rows {
		for _, l := range lists {
			for i := range max(len(asked), len(asks)) {
				g := given{row, asked[i%len(asked)], asks[i%len(asks)], l}
				for name, call := range g.calls() {
					if one, two := call(), call(); !reflect.DeepEqual(one, two) {
						t.Fatalf("%s of %v: %v, then %v", name, g, one, two)
					}
				}
			}
		}
	}
}
