package cmd_test

import (
	"math"
	"testing"

	"folkmoot/api"
	"folkmoot/cmd"
	"folkmoot/num"
)

// change is what is otherwise in a command, and whether it may be then.
type change struct {
	name   string
	change func(*api.Cmd)
	want   api.Errno
}

// wantChanges asks Check of a command that may be, and of what each change makes of it.
func wantChanges(t *testing.T, what string, c api.Cmd, l ...change) {
	t.Helper()
	wantCheck(t, what, c, api.OK)
	for _, x := range l {
		wantCheck(t, what+": "+x.name, with(c, x.change), x.want)
	}
}

// wrongStamps is what is neither a stamp nor zero.
func wrongStamps() []api.Stamp {
	return []api.Stamp{
		at(0, 1), at(1, 0), at(-1, 1), at(1, -1), at(9, 8), at(api.MaxTime+1, 1), at(0, 7), at(-5, -5),
		at(math.MaxInt64, math.MaxInt), at(math.MinInt64, math.MinInt), at(1, math.MaxInt), at(math.MaxInt64, 7), at(1<<32, 1<<32+1),
	}
}

// wrongDeps is what are no dependencies.
func wrongDeps() [][]api.Dep {
	many := make([]api.Stamp, api.MaxDeps+1)
	for i := range many {
		many[i] = at(int64(i+1), 1)
	}
	return [][]api.Dep{
		{dep(-1)}, {dep(api.MaxShards)}, {dep(1), dep(0)}, {dep(1), dep(1)}, make([]api.Dep, 9), {dep(0, none())}, {dep(0, at(1, 8))},
		{dep(0, at(2, 1), at(1, 1))}, {dep(0, at(1, 1), at(1, 1))}, {dep(0, many...)}, {dep(0, many[:300]...), dep(1, many[:213]...)},
	}
}

// wrongOps is what is no transaction, and not none.
func wrongOps() [][]api.Op {
	nine := make([]api.Op, api.MaxOps+1)
	for i := range nine {
		nine[i] = get("a")
	}
	return [][]api.Op{
		{{}}, {get("")}, {get(long(17))}, {{Kind: 7, Key: "a"}}, {get("a"), {Kind: api.OpPut, Key: "a", Num: math.MaxUint64}}, {{Kind: api.OpMove, Key: "a", To: "a"}},
		{{Kind: api.OpGet, Key: "a", Num: 1}}, nine, append(nine, nine...),
	}
}

// P9.1
func TestCheckOfWhatMayBe(t *testing.T) {
	for name, c := range good() {
		wantCheck(t, name, c, api.OK)
	}
	for _, id := range []api.Stamp{at(1, 1), at(api.MaxTime, api.MaxNode), at(77, 4)} {
		wantCheck(t, "new", cmd.New(id), api.OK)
	}
	empty := with(decidedGone(), func(c *api.Cmd) {
		c.Seen, c.Value.Deps, c.Writes, c.Pairs = []api.Dep{}, []api.Dep{}, []api.Write{}, []api.Pair{}
	})
	wantCheck(t, "empty lists", empty, api.OK)
	empty = with(cmd.New(id()), func(c *api.Cmd) { c.Ops, c.Seen, c.Value.Deps = []api.Op{}, []api.Dep{}, []api.Dep{} })
	wantCheck(t, "new, with empty lists", empty, api.OK)
	wantCheck(t, "the zero Cmd", api.Cmd{}, api.ErrCmd)
}

// P9.1
func TestCheckOfTheId(t *testing.T) {
	for name, c := range good() {
		for _, s := range append(wrongStamps(), none()) {
			wantCheck(t, name, with(c, func(c *api.Cmd) { c.Id = s }), api.ErrCmd)
		}
	}
}

// P9.1
func TestCheckOfOps(t *testing.T) {
	for name, c := range good() {
		for _, l := range wrongOps() {
			wantCheck(t, name, with(c, func(c *api.Cmd) { c.Ops = l }), api.ErrCmd)
		}
	}
	wantCheck(t, "in the phase in which there are none", with(cmd.New(id()), func(c *api.Cmd) { c.Ops = two() }), api.ErrCmd)
	eight := append(append(two(), two()...), append(two(), two()...)...)
	wantCheck(t, "eight ops", with(decided(), func(c *api.Cmd) { c.Ops = eight }), api.OK)
}

// P9.1
func TestCheckOfVotes(t *testing.T) {
	vote := func(name string, s api.Stamp, want api.Errno) change {
		return change{name, func(c *api.Cmd) { c.Vote = s }, want}
	}
	l := []change{
		vote("none", none(), api.OK), vote("its Id", id(), api.OK), vote("the next one", at(5, 3), api.OK), vote("a greater one", at(6, 1), api.OK),
		vote("the greatest", at(api.MaxTime, api.MaxNode), api.OK), vote("the one ahead of its Id", at(5, 1), api.ErrCmd), vote("a lesser one", at(4, 7), api.ErrCmd),
		vote("the least", at(1, 1), api.ErrCmd), {"not fast", func(c *api.Cmd) { c.Fast = false }, api.OK},
		{"none, and not fast", func(c *api.Cmd) { c.Vote, c.Fast = none(), false }, api.OK},
	}
	for _, s := range wrongStamps() {
		l = append(l, vote("no stamp", s, api.ErrCmd))
	}
	for _, name := range []string{"seen", "seen, accepted", "decided", "decided, gone", "loaded", "applied"} {
		wantChanges(t, name, good()[name], l...)
	}
}

// P9.1
func TestCheckOfVotesWithoutOps(t *testing.T) {
	l := []change{
		{"a vote", func(c *api.Cmd) { c.Vote = at(6, 3) }, api.ErrCmd},
		{"a vote at its Id", func(c *api.Cmd) { c.Vote = id() }, api.ErrCmd},
		{"fast", func(c *api.Cmd) { c.Fast = true }, api.ErrCmd},
		{"seen", func(c *api.Cmd) { c.Seen = hang() }, api.ErrCmd},
		{"seen, without Ids", func(c *api.Cmd) { c.Seen = []api.Dep{dep(0)} }, api.ErrCmd},
	}
	for _, name := range []string{"new", "promised", "accepted", "accepted, gone", "decided, gone, no ops"} {
		wantChanges(t, name, good()[name], l...)
	}
}

// P9.1
func TestCheckOfSeen(t *testing.T) {
	l := []change{
		{"none", func(c *api.Cmd) { c.Seen = nil }, api.OK},
		{"other ones", func(c *api.Cmd) { c.Seen = later() }, api.OK},
		{"without Ids", func(c *api.Cmd) { c.Seen = []api.Dep{dep(0), dep(7)} }, api.OK},
		{"itself, and later ones", func(c *api.Cmd) { c.Seen = []api.Dep{dep(0, id(), at(99, 1))} }, api.OK},
	}
	for _, d := range wrongDeps() {
		l = append(l, change{"wrong ones", func(c *api.Cmd) { c.Seen = d }, api.ErrCmd})
	}
	for _, name := range []string{"seen", "seen, no vote", "decided", "decided, gone", "loaded", "applied"} {
		wantChanges(t, name, good()[name], l...)
	}
}

// P9.1
func TestCheckOfPromisesAndBounds(t *testing.T) {
	for name, c := range good() {
		var l []change
		for _, s := range []api.Stamp{none(), at(1, 1), id(), at(8, 3), at(api.MaxTime, api.MaxNode)} {
			l = append(l, change{"Promise", func(c *api.Cmd) { c.Promise = s }, api.OK}, change{"Bound", func(c *api.Cmd) { c.Bound = s }, api.OK})
		}
		for _, s := range wrongStamps() {
			l = append(l, change{"Promise", func(c *api.Cmd) { c.Promise = s }, api.ErrCmd}, change{"Bound", func(c *api.Cmd) { c.Bound = s }, api.ErrCmd})
		}
		wantChanges(t, name, c, l...)
	}
}

// P9.1
func TestCheckOfBallots(t *testing.T) {
	for name, c := range good() {
		want := api.ErrCmd
		if c.Has {
			want = api.OK
		}
		l := []change{{"none", func(c *api.Cmd) { c.Ballot = none() }, api.OK}}
		for _, s := range []api.Stamp{at(1, 1), id(), at(8, 3), at(99, 1), at(api.MaxTime, api.MaxNode)} {
			l = append(l, change{"a stamp", func(c *api.Cmd) { c.Ballot = s }, want})
		}
		for _, s := range wrongStamps() {
			l = append(l, change{"no stamp", func(c *api.Cmd) { c.Ballot = s }, api.ErrCmd})
		}
		wantChanges(t, name, c, l...)
	}
}

// values is values, and what is none.
func values() (right, wrong []api.Value) {
	right = []api.Value{gone(), {Gone: true, Deps: []api.Dep{}}, value(at(1, 1)), value(id()), value(at(9, 1), later()...), value(at(api.MaxTime, api.MaxNode), dep(0))}
	wrong = []api.Value{
		{}, {Deps: later()}, {Deps: []api.Dep{dep(0)}}, {Gone: true, At: at(9, 1)}, {Gone: true, Deps: later()}, {Gone: true, Deps: []api.Dep{dep(0)}},
		{Gone: true, At: at(9, 1), Deps: later()}, {Gone: true, At: at(0, 1)}, {Gone: true, At: at(-1, -1)},
	}
	for _, s := range wrongStamps() {
		wrong = append(wrong, value(s), value(s, later()...))
	}
	for _, d := range wrongDeps() {
		wrong = append(wrong, value(at(9, 1), d...))
	}
	return right, wrong
}

// P9.1
func TestCheckOfValues(t *testing.T) {
	right, wrong := values()
	for _, v := range right {
		for _, name := range []string{"accepted", "accepted, first ballot", "seen, accepted", "seen, accepted, gone", "decided", "decided, gone"} {
			wantCheck(t, name, with(good()[name], func(c *api.Cmd) { c.Value = v }), api.OK)
		}
		for _, name := range []string{"new", "promised", "seen", "seen, promised", "seen, no vote"} {
			wantCheck(t, name+", has not", with(good()[name], func(c *api.Cmd) { c.Value = v }), api.ErrCmd)
			wantCheck(t, name+", has", with(good()[name], func(c *api.Cmd) { c.Has, c.Value = true, v }), api.OK)
		}
	}
	for name, c := range good() {
		for _, v := range wrong {
			if v.Gone || v.At != none() || len(v.Deps) > 0 || c.Has {
				wantCheck(t, name, with(c, func(c *api.Cmd) { c.Value = v }), api.ErrCmd)
			}
			wantCheck(t, name+", has", with(c, func(c *api.Cmd) { c.Has, c.Value = true, v }), api.ErrCmd)
		}
		if c.Has {
			wantCheck(t, name+", has not, with a value", with(c, func(c *api.Cmd) { c.Has, c.Ballot = false, none() }), api.ErrCmd)
		}
	}
}

// P9.1: each phase, with and without ops, with and without a value, which is gone or not, ready and not.
func TestCheckOfPhases(t *testing.T) {
	type known struct{ ops, has, gone, ready bool }
	may := map[int][]known{
		api.PhaseNone:    {{}, {has: true}, {has: true, gone: true}},
		api.PhaseSeen:    {{ops: true}, {ops: true, has: true}, {ops: true, has: true, gone: true}},
		api.PhaseDecided: {{ops: true, has: true}, {ops: true, has: true, ready: true}, {has: true, gone: true}, {ops: true, has: true, gone: true}},
		api.PhaseApplied: {{ops: true, has: true, ready: true}},
	}
	for _, phase := range []int{api.PhaseNone, api.PhaseSeen, api.PhaseDecided, api.PhaseApplied, 4, 5, -1, 100, math.MaxInt, math.MinInt, 1 << 32, 1<<32 + 1} {
		for bits := range 16 {
			k := known{bits&1 > 0, bits&2 > 0, bits&4 > 0, bits&8 > 0}
			c := api.Cmd{Id: id(), Phase: phase, Has: k.has, Ready: k.ready}
			if k.ops {
				c.Ops = two()
			}
			if k.gone {
				c.Value = gone()
			} else if k.has {
				c.Value = value(at(9, 1))
			}
			want := api.ErrCmd
			for _, x := range may[phase] {
				if x == k {
					want = api.OK
				}
			}
			wantCheck(t, "a phase", c, want)
		}
	}
}

// P9.1
func TestCheckOfWrites(t *testing.T) {
	nan := api.Num(0x7ff8000000000001)
	right := [][]api.Write{
		nil, {}, {set("a", 0)}, {drop("a")}, {set("a", nan)}, {set("a", 1<<63)}, {set("a", num.Of(5)), drop("b"), set("c", 1)}, {set("a", 1), set("a\x00", 1), drop("aa"), set("b", 0)},
		{set("\x00", 1), set(long(api.MaxKey), 2), set("\xff", 3)},
	}
	wrong := [][]api.Write{
		{{}}, {set("", 1)}, {drop("")}, {set(long(api.MaxKey+1), 1)}, {drop(long(100))}, {set("a", 1), drop(long(17))}, {set("a", nan+1)}, {set("a", math.MaxUint64)}, {set("a", 1), set("b", 0x7ff0000000000001)},
		{{Key: "a", Num: 1, Gone: true}}, {{Key: "a", Num: 1 << 63, Gone: true}}, {{Key: "a", Num: nan, Gone: true}}, {set("a", 1), {Key: "b", Num: num.Of(5), Gone: true}},
		{set("a", 1), set("a", 1)}, {set("a", 1), drop("a")}, {set("b", 1), set("a", 1)}, {set("a", 1), set("b", 1), set("b", 2)}, {set("a", 1), set("c", 1), drop("b")}, {set("aa", 1), set("a", 1)}, {drop("b"), drop("a"), drop("c")},
	}
	for _, name := range []string{"loaded", "loaded, no writes", "applied", "applied, no lists"} {
		for _, l := range right {
			wantCheck(t, name, with(good()[name], func(c *api.Cmd) { c.Writes = l }), api.OK)
		}
		for _, l := range wrong {
			wantCheck(t, name, with(good()[name], func(c *api.Cmd) { c.Writes = l }), api.ErrCmd)
		}
	}
	for name, c := range good() {
		if !c.Ready {
			wantCheck(t, name+", not ready", with(c, func(c *api.Cmd) { c.Writes = writes(set("a", 1)) }), api.ErrCmd)
			wantCheck(t, name+", not ready", with(c, func(c *api.Cmd) { c.Writes = writes() }), api.OK)
		}
	}
}

// P9.1
func TestCheckOfPairs(t *testing.T) {
	nan := api.Num(0x7ff8000000000001)
	right := [][]api.Pair{nil, {}, {pair("a", 0)}, {pair("a", nan)}, {pair("a", 1), pair("a\x00", 1<<63), pair("b", num.Of(5))}, {pair("\x00", 1), pair(long(api.MaxKey), 2), pair("\xff", 3)}}
	wrong := [][]api.Pair{
		{{}}, {pair("", 1)}, {pair(long(api.MaxKey+1), 1)}, {pair("a", 1), pair(long(17), 1)}, {pair("a", nan+1)}, {pair("a", math.MaxUint64)}, {pair("a", 1), pair("b", 0x7ff0000000000001)},
		{pair("a", 1), pair("a", 1)}, {pair("a", 1), pair("a", 2)}, {pair("b", 1), pair("a", 1)}, {pair("a", 1), pair("c", 1), pair("b", 1)}, {pair("aa", 1), pair("a", 1)}, {pair("b", 1), pair("a", 1), pair("c", 1)},
	}
	for _, name := range []string{"applied", "applied, no lists"} {
		for _, l := range right {
			wantCheck(t, name, with(good()[name], func(c *api.Cmd) { c.Pairs = l }), api.OK)
		}
		for _, l := range wrong {
			wantCheck(t, name, with(good()[name], func(c *api.Cmd) { c.Pairs = l }), api.ErrCmd)
		}
	}
	for name, c := range good() {
		if c.Phase != api.PhaseApplied {
			wantCheck(t, name+", not applied", with(c, func(c *api.Cmd) { c.Pairs = pairs(pair("a", 1)) }), api.ErrCmd)
			wantCheck(t, name+", not applied", with(c, func(c *api.Cmd) { c.Pairs = pairs() }), api.OK)
		}
	}
}
