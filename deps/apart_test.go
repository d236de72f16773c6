package deps_test

import (
	"bytes"
	"math"
	"slices"
	"testing"

	"folkmoot/api"
	"folkmoot/deps"
)

// roomy is a copy of a list that has spare elements behind it, as have the Ids of each of its own.
func roomy(d []api.Dep) []api.Dep {
	var l []api.Dep
	for _, x := range d {
		l = append(l, dep(x.Shard, roomyIds(x.Ids)...))
	}
	return append(l, dep(-7, at(7, 7)), dep(-8, at(8, 8)))[:len(d)]
}

func roomyIds(ids []api.Stamp) []api.Stamp {
	return append(slices.Clone(ids), at(-77, -77), at(-78, -78), at(-79, -79))[:len(ids)]
}

// whole is a deep copy of a list, with its spare room, and that of its Ids.
func whole(d []api.Dep) []api.Dep {
	var l []api.Dep
	for _, x := range d[:cap(d)] {
		l = append(l, dep(x.Shard, slices.Clone(x.Ids[:cap(x.Ids)])...))
	}
	return l
}

// spoil writes over all of a list, over its Ids, and over all spare room.
func spoil(d []api.Dep) {
	d = d[:cap(d)]
	for i, x := range d {
		spoilIds(x.Ids)
		d[i] = dep(-99)
	}
}

func spoilIds(ids []api.Stamp) {
	ids = ids[:cap(ids)]
	for i := range ids {
		ids[i] = at(-99, -99)
	}
}

// several is some of the dependencies, right and wrong ones.
func several() [][]api.Dep {
	return slices.Concat(good(), wrong())
}

// Rule 3: what is handed in is not changed, its spare room neither.
func TestWhatIsHandedInStays(t *testing.T) {
	for _, d := range several() {
		a, b := roomy(d), roomy(three())
		ids, shards := roomyIds([]api.Stamp{at(2, 1), at(1, 1), at(2, 1)}), []int{7, 0, 7, -1, 3, 99}[:3]
		lists := append([][]api.Dep{a, b}, three(), nil)[:2]
		oldA, oldB := whole(a), whole(b)
		deps.Check(a)
		deps.Make(4, ids...)
		deps.Merge(lists...)
		deps.Merge(a)
		deps.Get(a, 0)
		deps.Only(a, shards...)
		deps.Without(a, ids...)
		deps.Below(a, at(2, 1))
		deps.All(a)
		deps.Same(a, b)
		deps.Put(a)
		if !same(whole(a), oldA) || !same(whole(b), oldB) || !same(lists[:3][2], three()) {
			t.Fatalf("changed: %v %v, were %v %v", whole(a), whole(b), oldA, oldB)
		}
		if want := []api.Stamp{at(2, 1), at(1, 1), at(2, 1), at(-77, -77), at(-78, -78), at(-79, -79)}; !slices.Equal(ids[:6], want) {
			t.Fatalf("ids changed: %v", ids[:6])
		}
		if !slices.Equal(shards[:6], []int{7, 0, 7, -1, 3, 99}) {
			t.Fatalf("shards changed: %v", shards[:6])
		}
	}
}

// Rule 3: bytes that are handed in are not changed, and not kept.
func TestParseTakesNoBytes(t *testing.T) {
	for _, d := range several() {
		b := append(deps.Put(d), 1, 2, 3)
		old := bytes.Clone(b)
		got, err := deps.Parse(b[:len(b)-3])
		if !bytes.Equal(b, old) {
			t.Fatalf("the bytes are %x, were %x", b, old)
		}
		clear(b)
		if err == api.OK {
			wantDeps(t, "the bytes are other ones now", got, d...)
		}
	}
}

// answerers is all calls that answer dependencies, of some.
func answerers(d []api.Dep) map[string]func() []api.Dep {
	b := deps.Put(d)
	return map[string]func() []api.Dep{
		"Make":            func() []api.Dep { return deps.Make(1, d[0].Ids...) },
		"Merge of one":    func() []api.Dep { return deps.Merge(d) },
		"Merge of none":   func() []api.Dep { return deps.Merge(d[:0], d[:0]) },
		"Merge of two":    func() []api.Dep { return deps.Merge(d[:1], d[1:]) },
		"Merge with less": func() []api.Dep { return deps.Merge(d, list(dep(0), dep(7))) },
		"Only":            func() []api.Dep { return deps.Only(d, 0, 4, 7) },
		"Only one":        func() []api.Dep { return deps.Only(d, 7) },
		"Only none":       func() []api.Dep { return deps.Only(d) },
		"Without none":    func() []api.Dep { return deps.Without(d) },
		"Without some":    func() []api.Dep { return deps.Without(d, at(2, 1)) },
		"Without all":     func() []api.Dep { return deps.Without(d, deps.All(d)...) },
		"Below all":       func() []api.Dep { return deps.Below(d, at(99, 1)) },
		"Below some":      func() []api.Dep { return deps.Below(d, at(2, 1)) },
		"Below none":      func() []api.Dep { return deps.Below(d, at(0, 1)) },
		"Parse":           func() []api.Dep { p, _ := deps.Parse(b); return p },
	}
}

// Rule 3: what is answered is new each time, spare room too, and its lists lie apart.
func TestAnswersLieApart(t *testing.T) {
	d := roomy(three())
	old := whole(d)
	for name, call := range answerers(d) {
		first, second, third := call(), call(), call()
		want := whole(second[:len(second):len(second)])
		spoil(first)
		wantApart(t, name, second, want)
		for i := range third {
			spoilIds(third[i].Ids)
			for j := i + 1; j < len(third); j++ {
				wantIds(t, name+": the next list", third[j].Ids, second[j].Ids...)
			}
		}
		spoil(second)
		wantApart(t, name+" again", call(), want)
		if !same(whole(d), old) {
			t.Fatalf("%s shares with its argument: %v", name, whole(d))
		}
	}
}

// wantApart holds an answer against its deep copy, in which spare room may stand behind the Ids.
func wantApart(t *testing.T, what string, got, want []api.Dep) {
	t.Helper()
	if len(got) != len(want) {
		t.Fatalf("%s: got %v, want %v", what, got, want)
	}
	for i, x := range got {
		if x.Shard != want[i].Shard || !slices.Equal(x.Ids, want[i].Ids[:len(x.Ids)]) {
			t.Fatalf("%s: got %v, want %v", what, got, want)
		}
	}
}

// Rule 3: lists of Ids that are answered are new each time, and so are bytes.
func TestIdsAndBytesLieApart(t *testing.T) {
	d := roomy(three())
	one := roomy(three()[:1])
	old, oldOne := whole(d), whole(one)
	calls := map[string]func() []api.Stamp{
		"Get":          func() []api.Stamp { return deps.Get(d, 0) },
		"Get the last": func() []api.Stamp { return deps.Get(d, 7) },
		"Get no Ids":   func() []api.Stamp { return deps.Get(d, 4) },
		"Get nothing":  func() []api.Stamp { return deps.Get(d, 5) },
		"All":          func() []api.Stamp { return deps.All(d) },
		"All of one":   func() []api.Stamp { return deps.All(one) },
	}
	for name, call := range calls {
		first, second := call(), call()
		want := slices.Clone(second)
		spoilIds(first)
		wantIds(t, name, second, want...)
		spoilIds(second)
		wantIds(t, name+" again", call(), want...)
		if !same(whole(d), old) || !same(whole(one), oldOne) {
			t.Fatalf("%s shares with its argument: %v %v", name, whole(d), whole(one))
		}
	}
	first, second := deps.Put(d), deps.Put(d)
	clear(first[:cap(first)])
	if !bytes.Equal(second, deps.Put(three())) {
		t.Errorf("Put shares with another answer: %x", second)
	}
}

// Rule 1, P6.1: of what are none every call still answers, and the same again.
func TestWrongOnesAreAnswered(t *testing.T) {
	stamps := []api.Stamp{{}, at(1, 1), at(5, 5), at(-3, -3), at(math.MaxInt64, math.MaxInt), at(math.MinInt64, math.MinInt)}
	shards := []int{0, 2, 7, 8, 9, -1, -9, math.MaxInt, math.MinInt}
	for _, d := range wrong() {
		for _, s := range stamps {
			wantDeps(t, "Below", deps.Below(d, s), deps.Below(d, s)...)
			wantDeps(t, "Without", deps.Without(d, s, s), deps.Without(d, s)...)
		}
		for _, shard := range shards {
			wantIds(t, "Get", deps.Get(d, shard), deps.Get(d, shard)...)
			wantDeps(t, "Only", deps.Only(d, shard, shard), deps.Only(d, shard)...)
			wantDeps(t, "Make", deps.Make(shard, stamps...), deps.Make(shard, stamps...)...)
		}
		wantIds(t, "All", deps.All(d), deps.All(d)...)
		for _, other := range several() {
			wantDeps(t, "Merge", deps.Merge(d, other, d), deps.Merge(other, d)...)
			if got := deps.Same(d, other); got != same(d, other) {
				t.Errorf("Same(%v, %v): %v", d, other, got)
			}
		}
		if !bytes.Equal(deps.Put(d), deps.Put(d)) {
			t.Errorf("Put(%v) is not the same again", d)
		}
	}
}

// Rule 1: so many of them that going through each for each would not end soon.
func TestManyWrongOnesAreAnswered(t *testing.T) {
	const many = 200000
	ids := run(1, many)
	var shards []int
	var d []api.Dep
	for i := range many {
		shards = append(shards, i)
		d = append(d, dep(i, ids[i]))
	}
	wantCheck(t, "many", d, api.ErrMany)
	wantDeps(t, "Only", deps.Only(d, shards...), d...)
	wantDeps(t, "Merge", deps.Merge(d, d), d...)
	wantIds(t, "All", deps.All(d), ids...)
	wantIds(t, "Get", deps.Get(d, many-1), ids[many-1])
	wantDeps(t, "Without", deps.Without(list(dep(0, ids...)), ids...), dep(0))
	wantDeps(t, "Without", deps.Without(list(dep(0, ids...)), ids[1:]...), dep(0, ids[0]))
	wantDeps(t, "Below", deps.Below(list(dep(0, ids...)), ids[many-1]), dep(0, ids[:many-1]...))
	wantParse(t, "many", deps.Put(d), nil, api.ErrDeps)
}
