package cmd_test

import (
	"maps"
	"math"
	"reflect"
	"slices"
	"strings"
	"testing"

	"folkmoot/api"
	"folkmoot/cmd"
	"folkmoot/num"
)

func at(time int64, node int) api.Stamp { return api.Stamp{Time: time, Node: node} }

// none is the zero Stamp: no vote, no bound, the first ballot.
func none() api.Stamp { return api.Stamp{} }

func id() api.Stamp { return at(5, 2) }

func gone() api.Value { return api.Value{Gone: true} }

func value(at api.Stamp, d ...api.Dep) api.Value { return api.Value{At: at, Deps: d} }

func dep(shard int, ids ...api.Stamp) api.Dep { return api.Dep{Shard: shard, Ids: ids} }

func writes(l ...api.Write) []api.Write { return l }

func pairs(l ...api.Pair) []api.Pair { return l }

func set(key string, n api.Num) api.Write { return api.Write{Key: key, Num: n} }

func drop(key string) api.Write { return api.Write{Key: key, Gone: true} }

func pair(key string, n api.Num) api.Pair { return api.Pair{Key: key, Num: n} }

func long(n int) string { return strings.Repeat("k", n) }

func get(key string) api.Op { return api.Op{Kind: api.OpGet, Key: key} }

// two is a transaction, other is another one.
func two() []api.Op {
	return []api.Op{get("a"), {Kind: api.OpMove, Key: "b", To: "c", Num: num.Of(3)}}
}

func other() []api.Op { return []api.Op{{Kind: api.OpAdd, Key: "z", Num: num.Of(-1)}} }

// hang is what a transaction was seen to hang on, later is what it hangs on by its value.
func hang() []api.Dep { return []api.Dep{dep(0, at(1, 1), at(4, 7)), dep(3)} }

func later() []api.Dep { return []api.Dep{dep(0, at(1, 1), at(6, 1), at(6, 2)), dep(7, at(2, 2))} }

// with is a command, of which something is otherwise.
func with(c api.Cmd, change ...func(*api.Cmd)) api.Cmd {
	for _, f := range change {
		f(&c)
	}
	return c
}

// The commands that follow have what may be known in a phase; they are written out, not made by calls.

func promised() api.Cmd { return api.Cmd{Id: id(), Promise: at(8, 3), Bound: at(9, 1)} }

func accepted() api.Cmd {
	return with(promised(), func(c *api.Cmd) { c.Has, c.Ballot, c.Value = true, at(7, 1), value(at(9, 1), later()...) })
}

func acceptedGone() api.Cmd {
	return with(promised(), func(c *api.Cmd) { c.Has, c.Ballot, c.Value = true, at(7, 1), gone() })
}

func seen(c api.Cmd) api.Cmd {
	c.Phase, c.Ops, c.Vote, c.Fast, c.Seen = api.PhaseSeen, two(), at(6, 3), true, hang()
	return c
}

func decided() api.Cmd {
	return with(seen(accepted()), func(c *api.Cmd) { c.Phase = api.PhaseDecided })
}

func decidedGone() api.Cmd {
	return with(seen(acceptedGone()), func(c *api.Cmd) { c.Phase = api.PhaseDecided })
}

func loaded() api.Cmd {
	return with(decided(), func(c *api.Cmd) { c.Ready, c.Writes = true, writes(set("b", num.Of(-3)), drop("c")) })
}

func applied() api.Cmd {
	return with(loaded(), func(c *api.Cmd) { c.Phase, c.Pairs = api.PhaseApplied, pairs(pair("a", num.Of(1)), pair("c", 0)) })
}

// good is commands that may be, of many kinds.
func good() map[string]api.Cmd {
	return map[string]api.Cmd{
		"new":                     cmd.New(id()),
		"promised":                promised(),
		"accepted":                accepted(),
		"accepted, gone":          acceptedGone(),
		"accepted, first ballot":  with(accepted(), func(c *api.Cmd) { c.Ballot, c.Promise = none(), none() }),
		"seen":                    seen(cmd.New(id())),
		"seen, promised":          seen(promised()),
		"seen, accepted":          seen(accepted()),
		"seen, accepted, gone":    seen(acceptedGone()),
		"seen, no vote":           with(seen(promised()), func(c *api.Cmd) { c.Vote, c.Fast, c.Seen = none(), false, nil }),
		"decided":                 decided(),
		"decided, gone":           decidedGone(),
		"decided, gone, no ops":   with(acceptedGone(), func(c *api.Cmd) { c.Phase = api.PhaseDecided }),
		"decided, never promised": {Id: id(), Ops: other(), Phase: api.PhaseDecided, Has: true, Value: value(id())},
		"loaded":                  loaded(),
		"loaded, no writes":       with(loaded(), func(c *api.Cmd) { c.Writes = nil }),
		"applied":                 applied(),
		"applied, no lists":       with(applied(), func(c *api.Cmd) { c.Writes, c.Pairs = nil, nil }),
		"the greatest":            {Id: at(api.MaxTime, api.MaxNode), Promise: at(api.MaxTime, api.MaxNode), Bound: at(api.MaxTime, api.MaxNode)},
		"the least":               {Id: at(1, 1), Promise: at(1, 1), Bound: at(1, 1), Has: true, Value: value(at(1, 1))},
	}
}

// goods is the same commands, in one order.
func goods() []api.Cmd {
	var l []api.Cmd
	for _, name := range slices.Sorted(maps.Keys(good())) {
		l = append(l, good()[name])
	}
	return l
}

// plain is a command whose empty lists are nil.
func plain(c api.Cmd) api.Cmd {
	if len(c.Ops) == 0 {
		c.Ops = nil
	}
	if len(c.Writes) == 0 {
		c.Writes = nil
	}
	if len(c.Pairs) == 0 {
		c.Pairs = nil
	}
	c.Seen, c.Value.Deps = plainDeps(c.Seen), plainDeps(c.Value.Deps)
	return c
}

func plainDeps(d []api.Dep) []api.Dep {
	var l []api.Dep
	for _, x := range d {
		l = append(l, dep(x.Shard, append([]api.Stamp(nil), x.Ids...)...))
	}
	return l
}

func same(a, b api.Cmd) bool { return reflect.DeepEqual(plain(a), plain(b)) }

func wantCmd(t *testing.T, what string, got, want api.Cmd) {
	t.Helper()
	if !same(got, want) {
		t.Errorf("%s:\n got %#v,\nwant %#v", what, got, want)
	}
}

func wantCheck(t *testing.T, what string, c api.Cmd, want api.Errno) {
	t.Helper()
	if got := cmd.Check(c); got != want {
		t.Errorf("%s: Check(%#v): %d, want %d", what, c, got, want)
	}
}

// P9.2
func TestTopIsTheGreatestOfFour(t *testing.T) {
	wantTop := func(what string, c api.Cmd, want api.Stamp) {
		t.Helper()
		if got := cmd.Top(c); got != want {
			t.Errorf("%s: Top(%#v): %v, want %v", what, c, got, want)
		}
	}
	four := func(vote, bound, at api.Stamp) api.Cmd {
		c := with(seen(accepted()), func(c *api.Cmd) { c.Vote, c.Bound, c.Value.At = vote, bound, at })
		if at == none() {
			c.Has, c.Ballot, c.Value = false, none(), api.Value{}
		}
		wantCheck(t, "a command with that Top", c, api.OK)
		return c
	}
	wantTop("new", cmd.New(id()), id())
	wantTop("all but Id zero", four(none(), none(), none()), id())
	wantTop("Vote", four(at(5, 3), none(), none()), at(5, 3))
	wantTop("Bound", four(none(), at(5, 3), none()), at(5, 3))
	wantTop("At", four(none(), none(), at(5, 3)), at(5, 3))
	wantTop("Id above Bound and At", four(none(), at(5, 1), at(4, 7)), id())
	wantTop("Id above all", four(id(), at(5, 1), at(1, 1)), id())
	wantTop("Vote above all", four(at(9, 4), at(9, 3), at(8, 7)), at(9, 4))
	wantTop("Bound above all", four(at(8, 7), at(9, 4), at(9, 3)), at(9, 4))
	wantTop("At above all", four(at(9, 3), at(8, 7), at(9, 4)), at(9, 4))
	wantTop("by the node alone", four(at(9, 5), at(9, 6), at(9, 7)), at(9, 7))
	wantTop("the time comes ahead of the node", four(at(9, 1), at(8, 7), at(7, 7)), at(9, 1))
	wantTop("alike", four(at(9, 1), at(9, 1), at(9, 1)), at(9, 1))
	// What has no part: ballots, and what it hangs on.
	wantTop("a promise", with(seen(cmd.New(id())), func(c *api.Cmd) { c.Vote, c.Promise, c.Seen = none(), at(50, 1), []api.Dep{dep(0, at(60, 1))} }), id())
	wantTop("a ballot", with(accepted(), func(c *api.Cmd) { c.Bound, c.Ballot, c.Value = none(), at(50, 1), value(at(6, 1), dep(0, at(60, 1))) }), at(6, 1))
	wantTop("gone", decidedGone(), at(9, 1))
}

// P9.2
func TestFinalIsAppliedOrGone(t *testing.T) {
	final := map[string]bool{"decided, gone": true, "decided, gone, no ops": true, "applied": true, "applied, no lists": true}
	for name, c := range good() {
		if got := cmd.Final(c); got != final[name] {
			t.Errorf("%s: Final is %v", name, got)
		}
	}
}

// P9.1
func TestNewKnowsTheIdAlone(t *testing.T) {
	for _, id := range []api.Stamp{id(), at(1, 1), at(api.MaxTime, api.MaxNode), none(), at(-1, 9)} {
		wantCmd(t, "New", cmd.New(id), api.Cmd{Id: id})
	}
}

// P9.3
func TestWitnessIsTheFirstSight(t *testing.T) {
	for _, name := range []string{"new", "promised", "accepted", "accepted, gone", "accepted, first ballot"} {
		c := good()[name]
		want := with(c, func(c *api.Cmd) {
			c.Phase, c.Ops, c.Vote, c.Fast, c.Seen = api.PhaseSeen, two(), at(6, 3), true, hang()
		})
		wantCmd(t, name, cmd.Witness(c, two(), at(6, 3), true, hang()), want)
		want.Fast = false
		wantCmd(t, name+", not fast", cmd.Witness(c, two(), at(6, 3), false, hang()), want)
		want.Vote, want.Seen = none(), nil
		wantCmd(t, name+", no vote", cmd.Witness(c, two(), none(), false, nil), want)
		want.Vote, want.Fast = id(), true
		wantCmd(t, name+", at its Id", cmd.Witness(c, two(), id(), true, []api.Dep{}), want)
	}
}

// P9.3
func TestWitnessAgainIsNothing(t *testing.T) {
	for name, c := range good() {
		if c.Phase == api.PhaseNone {
			c = cmd.Witness(c, two(), none(), false, nil)
		}
		wantCmd(t, name, cmd.Witness(c, other(), at(70, 1), !c.Fast, later()), c)
	}
	// Behind Decide nothing is seen, though the ops of what is gone are not known.
	c := cmd.Decide(promised(), other(), gone())
	wantCmd(t, "behind Decide", cmd.Witness(c, two(), at(6, 3), true, hang()), with(acceptedGone(), func(c *api.Cmd) { c.Phase, c.Ballot = api.PhaseDecided, none() }))
	// Nor where ops are there, in a phase that says that there are none.
	odd := with(seen(promised()), func(c *api.Cmd) { c.Phase = api.PhaseNone })
	wantCmd(t, "ops in PhaseNone", cmd.Witness(odd, other(), at(70, 1), false, later()), odd)
}

// ballots is those that are less than a Promise of 8.3, it, and greater ones.
func ballots() (less, notLess []api.Stamp) {
	return []api.Stamp{none(), at(1, 7), at(7, 7), at(8, 1), at(8, 2)}, []api.Stamp{at(8, 3), at(8, 4), at(9, 1), at(api.MaxTime, api.MaxNode)}
}

// promising is each of three calls that promise a ballot, and what is otherwise then.
func promising(ballot api.Stamp) map[string]struct {
	call   func(api.Cmd) (api.Cmd, bool)
	change func(*api.Cmd)
} {
	return map[string]struct {
		call   func(api.Cmd) (api.Cmd, bool)
		change func(*api.Cmd)
	}{
		"Promise": {
			func(c api.Cmd) (api.Cmd, bool) { return cmd.Promise(c, ballot) },
			func(c *api.Cmd) { c.Promise = ballot },
		},
		"Bind": {
			func(c api.Cmd) (api.Cmd, bool) { return cmd.Bind(c, ballot, at(20, 1)) },
			func(c *api.Cmd) { c.Promise, c.Bound = ballot, at(20, 1) },
		},
		"Accept": {
			func(c api.Cmd) (api.Cmd, bool) { return cmd.Accept(c, ballot, value(at(30, 1), hang()...)) },
			func(c *api.Cmd) {
				c.Promise, c.Bound, c.Has, c.Ballot, c.Value = ballot, at(30, 1), true, ballot, value(at(30, 1), hang()...)
			},
		},
		"Accept of gone": {
			func(c api.Cmd) (api.Cmd, bool) { return cmd.Accept(c, ballot, gone()) },
			func(c *api.Cmd) { c.Promise, c.Has, c.Ballot, c.Value = ballot, true, ballot, gone() },
		},
	}
}

// P9.4
func TestNoLesserBallotIsHeard(t *testing.T) {
	less, notLess := ballots()
	for name, c := range good() {
		decided := c.Phase == api.PhaseDecided || c.Phase == api.PhaseApplied
		c.Promise = at(8, 3)
		for _, ballot := range append(less, notLess...) {
			yes := !decided && (ballot == at(8, 3) || ballot.Time > 8 || ballot == at(8, 4))
			for call, x := range promising(ballot) {
				want := c
				if yes {
					want = with(c, x.change)
					if want.Bound.Time < c.Bound.Time {
						want.Bound = c.Bound
					}
				}
				got, ok := x.call(c)
				wantCmd(t, name+": "+call, got, want)
				if ok != yes {
					t.Errorf("%s: %s by %v, promised %v: %v", name, call, ballot, c.Promise, ok)
				}
			}
		}
	}
}

// P9.4
func TestTheFirstBallotIsHeardOfWhatHasPromisedNone(t *testing.T) {
	for _, ballot := range []api.Stamp{none(), at(1, 1), at(7, 7)} {
		for call, x := range promising(ballot) {
			got, ok := x.call(cmd.New(id()))
			wantCmd(t, call, got, with(cmd.New(id()), x.change))
			if !ok {
				t.Errorf("%s by %v: false", call, ballot)
			}
		}
	}
	// Of what is decided not even that one.
	for call, x := range promising(none()) {
		c := cmd.Decide(cmd.New(id()), two(), value(id()))
		got, ok := x.call(c)
		wantCmd(t, call, got, c)
		if ok {
			t.Errorf("%s of what is decided: true", call)
		}
	}
}

// P9.4
func TestBoundIsTheGreatest(t *testing.T) {
	c := promised()
	for _, x := range []struct{ at, want api.Stamp }{
		{at(9, 1), at(9, 1)}, {at(9, 2), at(9, 2)}, {at(10, 1), at(10, 1)}, {at(8, 7), at(9, 1)}, {at(1, 1), at(9, 1)}, {none(), at(9, 1)},
	} {
		bound, _ := cmd.Bind(c, c.Promise, x.at)
		wantCmd(t, "Bind", bound, with(c, func(c *api.Cmd) { c.Bound = x.want }))
		if x.at != none() {
			acc, _ := cmd.Accept(c, c.Promise, value(x.at))
			wantCmd(t, "Accept", acc, with(c, func(c *api.Cmd) { c.Bound, c.Has, c.Ballot, c.Value = x.want, true, c.Promise, value(x.at) }))
		}
	}
	acc, _ := cmd.Accept(c, c.Promise, gone())
	wantCmd(t, "Accept of gone", acc, with(c, func(c *api.Cmd) { c.Has, c.Ballot, c.Value = true, c.Promise, gone() }))
	fresh, _ := cmd.Bind(cmd.New(id()), none(), at(1, 1))
	wantCmd(t, "Bind of a new one, below its Id", fresh, api.Cmd{Id: id(), Bound: at(1, 1)})
}

// P9.4
func TestAValueIsReplacedByThatOfTheNextBallot(t *testing.T) {
	c, _ := cmd.Accept(cmd.New(id()), none(), value(at(9, 1), later()...))
	c, _ = cmd.Accept(c, at(6, 1), gone())
	wantCmd(t, "gone", c, api.Cmd{Id: id(), Promise: at(6, 1), Bound: at(9, 1), Has: true, Ballot: at(6, 1), Value: gone()})
	c, _ = cmd.Accept(c, at(6, 1), value(at(8, 1)))
	wantCmd(t, "at a lesser time", c, api.Cmd{Id: id(), Promise: at(6, 1), Bound: at(9, 1), Has: true, Ballot: at(6, 1), Value: value(at(8, 1))})
	c, _ = cmd.Promise(c, at(7, 1))
	wantCmd(t, "the ballot stays by which it was accepted", c, api.Cmd{Id: id(), Promise: at(7, 1), Bound: at(9, 1), Has: true, Ballot: at(6, 1), Value: value(at(8, 1))})
}

// P9.5
func TestDecideOnce(t *testing.T) {
	for name, c := range good() {
		for _, v := range []api.Value{gone(), value(at(40, 2), hang()...), value(at(1, 1))} {
			want := c
			if c.Phase == api.PhaseNone || c.Phase == api.PhaseSeen {
				want.Phase, want.Has, want.Value = api.PhaseDecided, true, v
			}
			if c.Phase == api.PhaseNone && !v.Gone {
				want.Ops = other()
			}
			got := cmd.Decide(c, other(), v)
			wantCmd(t, name, got, want)
			wantCheck(t, name, got, api.OK)
			wantCmd(t, name+", again", cmd.Decide(got, two(), value(at(50, 1))), want)
			wantCmd(t, name+", again, gone", cmd.Decide(got, nil, gone()), want)
		}
	}
}

// P9.5
func TestDecideWithoutOps(t *testing.T) {
	v := value(at(6, 1))
	wantCmd(t, "with ops of its own", cmd.Decide(seen(promised()), nil, v), with(seen(promised()), func(c *api.Cmd) { c.Phase, c.Has, c.Value = api.PhaseDecided, true, v }))
	wantCmd(t, "gone", cmd.Decide(promised(), nil, gone()), with(promised(), func(c *api.Cmd) { c.Phase, c.Has, c.Value = api.PhaseDecided, true, gone() }))
	// Nobody ought to hand in no ops here; what comes of it is refused.
	odd := cmd.Decide(promised(), nil, v)
	wantCmd(t, "without any", odd, with(promised(), func(c *api.Cmd) { c.Phase, c.Has, c.Value = api.PhaseDecided, true, v }))
	wantCheck(t, "without any", odd, api.ErrCmd)
}

// P9.5
func TestTheBallotStays(t *testing.T) {
	for _, ballot := range []api.Stamp{none(), at(7, 1), at(8, 3)} {
		c := with(accepted(), func(c *api.Cmd) { c.Ballot = ballot })
		if got := cmd.Decide(c, two(), value(at(6, 1))); got.Ballot != ballot || got.Promise != at(8, 3) || got.Bound != at(9, 1) {
			t.Errorf("decided: %#v, was %#v", got, c)
		}
		if got := cmd.Decide(c, nil, gone()); got.Ballot != ballot || got.Promise != at(8, 3) || got.Bound != at(9, 1) {
			t.Errorf("decided to be gone: %#v, was %#v", got, c)
		}
	}
}

// P9.5
func TestLoadOnceWhenItIsDecided(t *testing.T) {
	l := writes(drop("a"), set("b", num.Of(7)))
	for name, c := range good() {
		want := c
		if name == "decided" || name == "decided, never promised" {
			want.Ready, want.Writes = true, l
		}
		got := cmd.Load(c, l)
		wantCmd(t, name, got, want)
		wantCheck(t, name, got, api.OK)
		if got.Ready {
			wantCmd(t, name+", again", cmd.Load(got, writes(set("z", 1))), got)
			wantCmd(t, name+", again none", cmd.Load(got, nil), got)
		}
	}
	wantCmd(t, "no writes", cmd.Load(decided(), nil), with(decided(), func(c *api.Cmd) { c.Ready = true }))
}

// P9.5
func TestDoneOnceWhenItsWritesAreKnown(t *testing.T) {
	l := pairs(pair("a", num.Of(7)), pair("b", 0))
	for name, c := range good() {
		want := c
		if name == "loaded" || name == "loaded, no writes" {
			want.Phase, want.Pairs = api.PhaseApplied, l
		}
		got := cmd.Done(c, l)
		wantCmd(t, name, got, want)
		wantCheck(t, name, got, api.OK)
		if got.Phase == api.PhaseApplied {
			wantCmd(t, name+", again", cmd.Done(got, pairs(pair("z", 1))), got)
			wantCmd(t, name+", again none", cmd.Done(got, nil), got)
			wantCmd(t, name+", loaded again", cmd.Load(got, writes(set("z", 1))), got)
		}
	}
	wantCmd(t, "no pairs", cmd.Done(loaded(), nil), with(loaded(), func(c *api.Cmd) { c.Phase = api.PhaseApplied }))
	// In the wrong order Done is nothing, and Load is what it would be.
	wantCmd(t, "Done ahead of Load", cmd.Load(cmd.Done(decided(), l), loaded().Writes), loaded())
	wantCmd(t, "Load ahead of Decide", cmd.Decide(cmd.Load(seen(accepted()), writes(set("q", 0))), nil, accepted().Value), decided())
}

// The document's own example.
func TestTheExample(t *testing.T) {
	c, ok := cmd.Promise(cmd.New(at(3, 1)), at(5, 1))
	_, less := cmd.Accept(c, at(3, 1), value(at(3, 1)))
	c, equal := cmd.Accept(c, at(5, 1), value(at(3, 1)))
	if !ok || less || !equal {
		t.Fatal(ok, less, equal)
	}
	c = cmd.Decide(c, two(), value(at(3, 1)))
	for _, ballot := range []api.Stamp{none(), at(5, 1), at(math.MaxInt64, math.MaxInt)} {
		if _, ok := cmd.Accept(c, ballot, gone()); ok {
			t.Errorf("accepted by %v, though it is decided", ballot)
		}
	}
	wantCmd(t, "for ever", cmd.Decide(c, nil, gone()), c)
}
