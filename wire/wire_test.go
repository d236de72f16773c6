package wire_test

import (
	"math"
	"reflect"
	"strings"
	"testing"

	"folkmoot/api"
	"folkmoot/num"
	"folkmoot/wire"
)

func at(time int64, node int) api.Stamp { return api.Stamp{Time: time, Node: node} }

// none is the zero Stamp: no time, the first ballot.
func none() api.Stamp { return api.Stamp{} }

func id() api.Stamp { return at(5, 2) }

func gone() api.Value { return api.Value{Gone: true} }

func value(at api.Stamp, d ...api.Dep) api.Value { return api.Value{At: at, Deps: d} }

func dep(shard int, ids ...api.Stamp) api.Dep { return api.Dep{Shard: shard, Ids: ids} }

func get(key string) api.Op { return api.Op{Kind: api.OpGet, Key: key} }

// two is a transaction, eight is one of as many ops as may be.
func two() []api.Op {
	return []api.Op{get("a"), {Kind: api.OpMove, Key: "b", To: "c", Num: num.Of(3)}}
}

func eight() []api.Op { return append(append(two(), two()...), append(two(), two()...)...) }

func hang() []api.Dep { return []api.Dep{dep(0, at(1, 1), at(4, 7)), dep(3)} }

// full is dependencies of as many Ids as may be, and of as many shards.
func full() []api.Dep {
	var d []api.Dep
	for shard := range api.MaxShards {
		x := dep(shard)
		for i := range api.MaxDeps / api.MaxShards {
			x.Ids = append(x.Ids, at(int64(i+1), shard%7+1))
		}
		d = append(d, x)
	}
	return d
}

func written() []api.Write {
	return []api.Write{{Key: "a", Num: num.Of(5)}, {Key: "b", Gone: true}, {Key: "c"}}
}

func read() []api.Pair { return []api.Pair{{Key: "a", Num: num.Of(-5)}, {Key: "b"}} }

// kinds is all that are one.
func kinds() []int {
	var l []int
	for kind := range api.MsgForget {
		l = append(l, kind+1)
	}
	return l
}

// bare is a message of a kind without fields.
func bare(kind int) api.Msg { return api.Msg{Kind: kind, From: 1, To: 2, Id: id()} }

// own is the names of the fields that have a part in a kind, as the table of the chapter has them.
func own(kind int) []string {
	table := map[int]string{
		api.MsgPre: "Ops", api.MsgVote: "At Fast Deps", api.MsgBind: "Ballot At Ops", api.MsgBound: "Ballot Deps",
		api.MsgAccept: "Ballot Value Ops", api.MsgAccepted: "Ballot", api.MsgNack: "Ballot", api.MsgDecide: "Value Ops", api.MsgKnown: "Value Ops",
		api.MsgRecover: "Ballot Ops", api.MsgTold: "Ballot Ops At Fast Deps Has Acc Value", api.MsgRead: "Value Ops", api.MsgPairs: "Pairs",
		api.MsgApply: "Value Ops Writes",
	}
	return strings.Fields(table[kind])
}

// names is all fields that have a part in some kind.
func names() []string {
	return strings.Fields("Ballot At Ops Fast Deps Has Acc Value Writes Pairs")
}

// everything is a message of which each field is such as it is to be, where it may be.
func everything(kind int) api.Msg {
	m := bare(kind)
	m.Ballot, m.At, m.Ops, m.Fast, m.Deps = at(7, 3), at(6, 1), two(), true, hang()
	m.Has, m.Acc, m.Value, m.Writes, m.Pairs = true, at(4, 3), value(at(6, 2), hang()...), written(), read()
	return m
}

// take is a message with a field of another one's.
func take(m, of api.Msg, name string) api.Msg {
	to := reflect.ValueOf(&m).Elem().FieldByName(name)
	to.Set(reflect.ValueOf(of).FieldByName(name))
	return m
}

// good is a message of that kind that has all that it may have.
func good(kind int) api.Msg {
	m := bare(kind)
	for _, name := range own(kind) {
		m = take(m, everything(kind), name)
	}
	return m
}

// with is a message, of which something is otherwise.
func with(m api.Msg, change ...func(*api.Msg)) api.Msg {
	for _, f := range change {
		f(&m)
	}
	return m
}

func set(name string, x any) func(*api.Msg) {
	return func(m *api.Msg) { reflect.ValueOf(m).Elem().FieldByName(name).Set(reflect.ValueOf(x)) }
}

func wantCheck(t *testing.T, what string, m api.Msg, want api.Errno) {
	t.Helper()
	if got := wire.Check(m); got != want {
		t.Errorf("%s: Check(%#v): %d, want %d", what, m, got, want)
	}
}

// wantEach asks Check of what each of these makes of a field of a message.
func wantEach[T any](t *testing.T, m api.Msg, name string, want api.Errno, l ...T) {
	t.Helper()
	for _, x := range l {
		wantCheck(t, name, with(m, set(name, x)), want)
	}
}

// wrongStamps is what is neither a stamp nor zero.
func wrongStamps() []api.Stamp {
	return []api.Stamp{
		at(0, 1), at(1, 0), at(-1, 1), at(1, -1), at(9, 8), at(api.MaxTime+1, 1), at(0, 7), at(-5, -5),
		at(math.MaxInt64, math.MaxInt), at(math.MinInt64, math.MinInt), at(9, math.MaxInt), at(math.MaxInt64, 7), at(1<<32, 1<<32+1),
	}
}

// wrongDeps is what are no dependencies.
func wrongDeps() [][]api.Dep {
	more := full()
	more[7].Ids = append(more[7].Ids, at(999, 7))
	return [][]api.Dep{
		{dep(-1)}, {dep(api.MaxShards)}, {dep(1), dep(0)}, {dep(1), dep(1)}, make([]api.Dep, 9), {dep(0, none())}, {dep(0, at(1, 8))},
		{dep(0, at(2, 1), at(1, 1))}, {dep(0, at(1, 1), at(1, 1))}, more,
	}
}

// wrongOps is what is no transaction, and not none.
func wrongOps() [][]api.Op {
	return [][]api.Op{
		{{}}, {get("")}, {get(strings.Repeat("k", 17))}, {{Kind: 7, Key: "a"}}, {{Kind: api.OpMove, Key: "a", To: "a"}},
		{get("a"), {Kind: api.OpPut, Key: "a", Num: math.MaxUint64}}, {{Kind: api.OpGet, Key: "a", Num: 1}}, append(eight(), get("a")), append(eight(), eight()...),
	}
}

// values is what may be a value, and what may not (and is not zero).
func values() (right, wrong []api.Value) {
	right = []api.Value{gone(), value(id()), value(at(1, 1)), value(at(api.MaxTime, api.MaxNode), hang()...), value(at(6, 1), full()...), {Gone: true, Deps: []api.Dep{}}}
	wrong = []api.Value{{Gone: true, At: at(6, 1)}, {Gone: true, Deps: hang()}, {Gone: true, Deps: []api.Dep{dep(0)}}, {Deps: hang()}, {Deps: []api.Dep{dep(0)}}}
	for _, s := range wrongStamps() {
		wrong = append(wrong, value(s))
	}
	for _, d := range wrongDeps() {
		wrong = append(wrong, value(id(), d...))
	}
	return right, wrong
}

// wrongWrites is what is no list of writes.
func wrongWrites() [][]api.Write {
	a, b := api.Write{Key: "a"}, api.Write{Key: "b", Num: 1}
	return [][]api.Write{
		{{}}, {b, a}, {a, a}, {a, b, b}, {{Key: strings.Repeat("k", 17)}}, {{Key: "a", Num: 1, Gone: true}}, {a, {Key: "b", Num: math.MaxUint64}},
		{{Gone: true}}, {a, b, {Key: "aa"}},
	}
}

// wrongPairs is what are no data.
func wrongPairs() [][]api.Pair {
	a, b := api.Pair{Key: "a"}, api.Pair{Key: "b", Num: 1}
	return [][]api.Pair{
		{{}}, {b, a}, {a, a}, {a, b, b}, {{Key: strings.Repeat("k", 17)}}, {a, {Key: "b", Num: math.MaxUint64}}, {a, b, {Key: "aa"}},
	}
}

// P13.1: each of the seventeen kinds, with all that it may have.
func TestCheckOfEachKind(t *testing.T) {
	for _, kind := range kinds() {
		wantCheck(t, "good", good(kind), api.OK)
	}
	for _, kind := range []int{api.MsgApplied, api.MsgOver, api.MsgForget} {
		wantCheck(t, "bare", bare(kind), api.OK)
	}
	// Empty lists are the same as none.
	empty := func(m *api.Msg) {
		m.Ops, m.Deps, m.Value.Deps, m.Writes, m.Pairs = []api.Op{}, []api.Dep{}, []api.Dep{}, []api.Write{}, []api.Pair{}
	}
	for _, kind := range []int{api.MsgApplied, api.MsgOver, api.MsgForget, api.MsgPairs, api.MsgAccepted} {
		wantCheck(t, "empty lists", with(bare(kind), empty), api.OK)
	}
}

// P13.1: no other kind is one, whatever its fields are.
func TestCheckOfOtherKinds(t *testing.T) {
	for _, kind := range []int{0, 18, -1, -17, 19, 100, 257, math.MaxInt, math.MinInt} {
		wantCheck(t, "bare", bare(kind), api.ErrWire)
		wantCheck(t, "everything", everything(kind), api.ErrWire)
		for _, other := range kinds() {
			wantCheck(t, "good", with(good(other), set("Kind", kind)), api.ErrWire)
		}
	}
	wantCheck(t, "the zero Msg", api.Msg{}, api.ErrWire)
}

// P13.1: each kind with each field that is none of its own set by itself.
func TestCheckOfFieldsThatAreNoneOfItsOwn(t *testing.T) {
	for _, kind := range kinds() {
		mine := " " + strings.Join(own(kind), " ") + " "
		for _, name := range names() {
			if strings.Contains(mine, " "+name+" ") {
				continue
			}
			wantCheck(t, name, take(good(kind), everything(kind), name), api.ErrWire)
			switch name {
			case "Ops":
				wantEach(t, good(kind), name, api.ErrWire, []api.Op{get("a")}, []api.Op{{}})
			case "Deps":
				wantEach(t, good(kind), name, api.ErrWire, []api.Dep{dep(0)}, []api.Dep{dep(1, at(1, 1))})
			case "Writes":
				wantEach(t, good(kind), name, api.ErrWire, []api.Write{{Key: "a"}}, []api.Write{{}})
			case "Pairs":
				wantEach(t, good(kind), name, api.ErrWire, []api.Pair{{Key: "a"}}, []api.Pair{{}})
			case "Value":
				wantEach(t, good(kind), name, api.ErrWire, gone(), value(at(6, 1)), value(none(), dep(0)), value(none(), hang()...), value(at(0, 1)), value(at(1, 0)))
			case "Ballot", "At", "Acc":
				wantEach(t, good(kind), name, api.ErrWire, id(), at(1, 1), at(1, 0), at(0, 1), at(-1, 0))
			}
		}
	}
}

// P13.1
func TestCheckOfFromAndTo(t *testing.T) {
	for _, kind := range kinds() {
		for _, name := range []string{"From", "To"} {
			for n := 1; n <= api.MaxNode; n++ {
				wantEach(t, good(kind), name, api.OK, n)
			}
			wantEach(t, good(kind), name, api.ErrWire, 0, api.MaxNode+1, -1, math.MaxInt, math.MinInt, 1<<32+1)
		}
		wantCheck(t, "from one to itself", with(good(kind), set("From", 3), set("To", 3)), api.OK)
	}
}

// P13.1
func TestCheckOfTheId(t *testing.T) {
	for _, kind := range kinds() {
		wantEach(t, good(kind), "Id", api.ErrWire, append(wrongStamps(), none())...)
		wantEach(t, good(kind), "Id", api.OK, at(1, 1), at(5, 7), at(6, 1))
	}
	for _, kind := range []int{api.MsgPre, api.MsgApplied, api.MsgAccept} {
		wantEach(t, good(kind), "Id", api.OK, at(api.MaxTime, api.MaxNode))
	}
}
