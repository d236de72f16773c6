package clash_test

import (
	"slices"
	"strings"
	"testing"

	"folkmoot/api"
	"folkmoot/clash"
	"folkmoot/cmd"
	"folkmoot/span"
	"folkmoot/txn"
)

func at(time int64, node int) api.Stamp { return api.Stamp{Time: time, Node: node} }

// none is the zero Stamp.
func none() api.Stamp { return api.Stamp{} }

func stamps(l ...api.Stamp) []api.Stamp { return l }

func get(key string) api.Op      { return api.Op{Kind: api.OpGet, Key: key} }
func scan(key, to string) api.Op { return api.Op{Kind: api.OpScan, Key: key, To: to} }
func put(key string) api.Op      { return api.Op{Kind: api.OpPut, Key: key} }
func add(key string) api.Op      { return api.Op{Kind: api.OpAdd, Key: key} }
func drop(key string) api.Op     { return api.Op{Kind: api.OpDrop, Key: key} }
func move(key, to string) api.Op { return api.Op{Kind: api.OpMove, Key: key, To: to} }

func ops(l ...api.Op) []api.Op { return l }

// of is the spans whose From and To these are, by turns.
func of(edges ...string) []api.Span {
	var l []api.Span
	for i := 0; i < len(edges); i += 2 {
		l = append(l, api.Span{From: edges[i], To: edges[i+1]})
	}
	return l
}

func all() []api.Span { return of("", "") }

// points is the set of some keys alone.
func points(keys ...string) []api.Span {
	var l []api.Span
	for _, k := range keys {
		l = append(l, span.Point(k))
	}
	return span.Union(l...)
}

// long is a key of the greatest length.
func long() string { return strings.Repeat("m", api.MaxKey) }

func cmds(l ...api.Cmd) []api.Cmd { return l }

// seen is a command of which nothing is known but its ops, voted for at its Id.
func seen(id api.Stamp, l ...api.Op) api.Cmd { return voted(id, id, l...) }

func voted(id, vote api.Stamp, l ...api.Op) api.Cmd {
	return cmd.Witness(cmd.New(id), l, vote, vote == id, nil)
}

func bound(c api.Cmd, at api.Stamp) api.Cmd {
	c, _ = cmd.Bind(c, none(), at)
	return c
}

func accepted(c api.Cmd, v api.Value) api.Cmd {
	c, _ = cmd.Accept(c, none(), v)
	return c
}

func gone() api.Value { return api.Value{Gone: true} }

// decided is a command whose vote is no part of its Top.
func decided(id, at api.Stamp, l ...api.Op) api.Cmd {
	return cmd.Decide(cmd.New(id), l, api.Value{At: at})
}

func applied(id, at api.Stamp, l ...api.Op) api.Cmd {
	return cmd.Done(cmd.Load(decided(id, at, l...), nil), nil)
}

// wantWithin asks either way round.
func wantWithin(t *testing.T, what string, a, b []api.Op, set []api.Span, want bool) {
	t.Helper()
	if got := clash.Within(a, b, set); got != want {
		t.Errorf("%s: Within(%#v, %#v, %q): %v", what, a, b, set, got)
	}
	if got := clash.Within(b, a, set); got != want {
		t.Errorf("%s, the other way round: Within(%#v, %#v, %q): %v", what, b, a, set, got)
	}
}

// P10.1
func TestWithinAllIsConflict(t *testing.T) {
	far := long()
	cases := []struct {
		what string
		a, b []api.Op
		want bool
	}{
		{"a write and a read", ops(put("a")), ops(get("a")), true},
		{"a write and a write", ops(put("a")), ops(put("a")), true},
		{"a read and a read", ops(get("a")), ops(get("a")), false},
		{"a scan and a scan", ops(scan("a", "c")), ops(scan("a", "")), false},
		{"a scan and a read", ops(scan("a", "")), ops(get("b")), false},
		{"an add and a read", ops(add("a")), ops(get("a")), true},
		{"a drop and a read", ops(drop("a")), ops(get("a")), true},
		{"an add and an add", ops(add("a")), ops(add("a")), true},
		{"a drop and a put", ops(drop("a")), ops(put("a")), true},
		{"a move from it and a read", ops(move("a", "b")), ops(get("a")), true},
		{"a move to it and a read", ops(move("a", "b")), ops(get("b")), true},
		{"a move to what is moved", ops(move("a", "b")), ops(move("b", "c")), true},
		{"moves apart", ops(move("a", "b")), ops(move("c", "d")), false},
		{"another key", ops(put("a")), ops(get("b")), false},
		{"the next key there is", ops(put("a")), ops(get("a\x00")), false},
		{"the longest keys", ops(put(far)), ops(get(far)), true},
		{"the longest keys, of which one byte is another", ops(put(far)), ops(get(far[1:] + "n")), false},
		{"a write in a scan", ops(put("b")), ops(scan("a", "c")), true},
		{"a write at the front of a scan", ops(put("a")), ops(scan("a", "c")), true},
		{"a write at the end of a scan, which it touches", ops(put("c")), ops(scan("a", "c")), false},
		{"a write ahead of a scan, which it touches", ops(put("a")), ops(scan("a\x00", "c")), false},
		{"a write behind a scan without an end", ops(put("\xff\xff")), ops(scan("a", "")), true},
		{"a write ahead of a scan without an end", ops(put("A")), ops(scan("a", "")), false},
		{"two that read what both read", ops(get("a"), put("b")), ops(get("a"), put("c")), false},
		{"only the last ones meet", ops(get("x"), scan("c", "d"), put("a")), ops(put("b"), get("y"), get("a")), true},
		{"only the first one's reads are written", ops(get("a"), put("b")), ops(put("a"), get("c")), true},
		{"none and none", nil, nil, false},
		{"none and one", nil, ops(put("a")), false},
		{"an empty list", ops(), ops(add("a")), false},
	}
	for _, c := range cases {
		wantWithin(t, c.what, c.a, c.b, all(), c.want)
		wantWithin(t, c.what+", without any set", c.a, c.b, nil, false)
		wantWithin(t, c.what+", within an empty list", c.a, c.b, []api.Span{}, false)
		if txn.Conflict(c.a, c.b) != c.want {
			t.Errorf("%s: no Conflict", c.what)
		}
	}
}

// P10.1
func TestWithinAsksWhereTheyMeet(t *testing.T) {
	kinds := map[string][2][]api.Op{
		"a write and a read":  {ops(put("f")), ops(get("f"))},
		"a write and a write": {ops(put("f")), ops(put("f"))},
		"an add and a drop":   {ops(add("f")), ops(drop("f"))},
		"a write and a scan":  {ops(put("f")), ops(scan("b", "x"))},
		"a move and a scan":   {ops(move("a", "f")), ops(scan("b", ""))},
	}
	sets := []struct {
		set  []api.Span
		want bool
	}{
		{of("f", "g"), true},
		{points("f"), true},
		{of("a", "f\x00"), true},
		{of("", "g"), true},
		{of("f", ""), true},
		{of("b", "c", "f", "g", "h", "i"), true},
		{of("", "c", "d", ""), true},
		{of("g", "h"), false},
		{of("a", "f"), false},
		{of("b", "f", "f\x00", "x"), false},
		{of("", "f", "f\x00", ""), false},
		{of("f\x00", ""), false},
		{points("e", "g"), false},
		{points("b", "d", "f"), true},
	}
	for name, two := range kinds {
		for _, c := range sets {
			wantWithin(t, name, two[0], two[1], c.set, c.want)
		}
	}
}

// P10.1: each has a part within the set, and they meet, but not there.
func TestWithinIsOnePlaceForAll(t *testing.T) {
	wantWithin(t, "a write and a read within, which meet outside", ops(put("f"), put("g")), ops(get("f"), get("h")), of("g", "i"), false)
	wantWithin(t, "reads meet within, and a write outside", ops(put("f"), get("g")), ops(get("f"), get("g")), of("g", "h"), false)
	wantWithin(t, "a write alone within", ops(put("f"), put("g")), ops(get("f")), of("g", "h"), false)
	wantWithin(t, "a scan within, that meets outside", ops(put("f")), ops(scan("b", "k")), of("g", "k"), false)
	wantWithin(t, "a scan that touches the set", ops(put("c"), put("b")), ops(scan("c", "e")), of("a", "c"), false)
	wantWithin(t, "a scan that meets the set", ops(put("c"), put("b")), ops(scan("c", "e")), of("a", "c\x00"), true)
	wantWithin(t, "a set within a scan", ops(put("c")), ops(scan("a", "e")), of("b", "d"), true)
	wantWithin(t, "one of two places within", ops(put("c"), put("x")), ops(scan("a", "")), of("w", "y"), true)
	wantWithin(t, "a move, of whose keys one is within", ops(move("c", "x")), ops(get("c"), put("z")), of("w", ""), false)
}

func wantMax(t *testing.T, what string, l []api.Cmd, id api.Stamp, o []api.Op, owned []api.Span, want api.Stamp) {
	t.Helper()
	if got := clash.Max(l, id, o, owned); got != want {
		t.Errorf("%s: Max(%v, %v, %#v, %q): %v, want %v", what, l, id, o, owned, got, want)
	}
}

// P10.2
func TestMaxIsTheGreatestTop(t *testing.T) {
	id, a := at(9, 1), ops(get("a"))
	wantMax(t, "no commands", nil, id, a, all(), none())
	wantMax(t, "an empty list", cmds(), id, a, all(), none())
	wantMax(t, "one", cmds(voted(at(3, 1), at(5, 2), put("a"))), id, a, all(), at(5, 2))
	wantMax(t, "one without a conflict", cmds(seen(at(3, 1), put("b"))), id, a, all(), none())
	wantMax(t, "one whose Id is greater", cmds(seen(at(10, 1), put("a"))), id, a, all(), at(10, 1))
	// A Top is of four parts; what is greatest comes from each of them.
	five := cmds(
		seen(at(50, 1), put("a")),
		voted(at(2, 1), at(40, 2), put("a")),
		bound(seen(at(3, 1), put("a")), at(30, 3)),
		accepted(seen(at(4, 1), put("a")), api.Value{At: at(20, 4)}),
		applied(at(5, 1), at(10, 5), put("a")),
	)
	tops := stamps(at(50, 1), at(40, 2), at(30, 3), at(20, 4), at(10, 5))
	for n := range five {
		for turn := range len(five) - n {
			l := slices.Concat(five[n+turn:], five[n:n+turn])
			wantMax(t, "the greatest one in each place", l, id, a, all(), tops[n])
			slices.Reverse(l)
			wantMax(t, "the greatest one in each place, from behind", l, id, a, all(), tops[n])
		}
	}
	wantMax(t, "by the node alone", cmds(seen(at(5, 2), put("a")), seen(at(5, 3), put("a")), seen(at(5, 1), put("a"))), id, a, all(), at(5, 3))
	wantMax(t, "the time comes ahead of the node", cmds(seen(at(4, 7), put("a")), seen(at(5, 1), put("a"))), id, a, all(), at(5, 1))
	wantMax(t, "the greatest stamp", cmds(seen(at(1, 1), put("a")), voted(at(2, 2), at(api.MaxTime, api.MaxNode), put("a"))), id, a, all(), at(api.MaxTime, api.MaxNode))
}

// P10.2
func TestMaxOfThoseThatConflictAlone(t *testing.T) {
	l := cmds(
		seen(at(1, 1), put("a")),
		seen(at(2, 1), get("a")),
		voted(at(3, 1), at(7, 2), put("z")),
		seen(at(4, 1), scan("a", "c")),
		seen(at(5, 1), move("b", "y")),
	)
	id := at(9, 1)
	cases := []struct {
		what  string
		ops   []api.Op
		owned []api.Span
		want  api.Stamp
	}{
		{"a read meets a write", ops(get("a")), all(), at(1, 1)},
		{"a write meets reads", ops(put("a")), all(), at(4, 1)},
		{"a write meets a scan and a move", ops(put("b")), all(), at(5, 1)},
		{"a scan meets all writes", ops(scan("a", "")), all(), at(7, 2)},
		{"a scan meets the writes ahead of its end", ops(scan("a", "z")), all(), at(5, 1)},
		{"nothing is met", ops(put("x"), get("c")), all(), none()},
		{"only reads are met", ops(get("aa")), all(), none()},
		{"outside of owned alone", ops(put("z")), of("", "z"), none()},
		{"within owned and outside of it", ops(scan("a", "")), of("", "z"), at(5, 1)},
		{"of a move the one key is owned", ops(get("b"), get("y")), of("c", ""), at(5, 1)},
		{"of a move the one key is owned, the other one is read", ops(get("b")), of("c", ""), none()},
		{"within spans of owned", ops(scan("a", "")), append(points("a"), points("q", "z")...), at(7, 2)},
		{"between spans of owned", ops(scan("a", "")), of("", "a", "c", "y", "z\x00", ""), none()},
		{"nothing is owned", ops(scan("a", "")), nil, none()},
		{"an empty list is owned", ops(scan("a", "")), []api.Span{}, none()},
		{"no ops", nil, all(), none()},
		{"an empty list of ops", ops(), all(), none()},
	}
	for _, c := range cases {
		wantMax(t, c.what, l, id, c.ops, c.owned, c.want)
	}
}

// uncounted is commands that do not count of another one whose Id is 9.1; each may be.
func uncounted() map[string]api.Cmd {
	voted := voted(at(4, 1), at(60, 1), put("a"))
	promised, _ := cmd.Promise(cmd.New(at(4, 1)), at(70, 1))
	return map[string]api.Cmd{
		"new":                         cmd.New(at(4, 1)),
		"promised":                    promised,
		"bound, without ops":          bound(promised, at(60, 1)),
		"accepted, without ops":       accepted(cmd.New(at(4, 1)), api.Value{At: at(60, 1)}),
		"accepted gone, without ops":  accepted(cmd.New(at(4, 1)), gone()),
		"decided gone":                cmd.Decide(voted, nil, gone()),
		"decided gone, was accepted":  cmd.Decide(accepted(voted, api.Value{At: at(61, 1)}), nil, gone()),
		"decided gone, without ops":   cmd.Decide(cmd.New(at(4, 1)), nil, gone()),
		"the one itself":              seen(at(9, 1), put("a")),
		"the one itself, with a Top":  bound(seen(at(9, 1), put("a")), at(60, 1)),
		"the one itself, decided":     decided(at(9, 1), at(60, 1), put("a")),
		"the one itself, applied":     applied(at(9, 1), at(60, 1), put("a")),
		"the one itself, accept gone": accepted(seen(at(9, 1), put("a")), gone()),
	}
}

// counted is commands that do, with the Top 8.2.
func counted() map[string]api.Cmd {
	voted := voted(at(4, 1), at(8, 2), put("a"))
	promised, _ := cmd.Promise(voted, at(70, 1))
	return map[string]api.Cmd{
		"seen":                         voted,
		"promised":                     promised,
		"bound":                        bound(seen(at(4, 1), put("a")), at(8, 2)),
		"accepted":                     accepted(voted, api.Value{At: at(5, 1)}),
		"accepted gone":                accepted(voted, gone()),
		"decided":                      decided(at(4, 1), at(8, 2), put("a")),
		"decided behind accepted gone": cmd.Decide(accepted(voted, gone()), nil, api.Value{At: at(7, 1)}),
		"loaded":                       cmd.Load(decided(at(4, 1), at(8, 2), put("a")), nil),
		"applied":                      applied(at(4, 1), at(8, 2), put("a")),
		"the same time, another node":  decided(at(9, 2), at(8, 2), put("a")),
		"the same node, another time":  decided(at(8, 1), at(8, 2), put("a")),
	}
}

// wantMayBe asks whether the commands of a test are such as the chapter speaks of.
func wantMayBe(t *testing.T, l map[string]api.Cmd) {
	t.Helper()
	for name, c := range l {
		if cmd.Check(c) != api.OK {
			t.Errorf("%s: may not be: %#v", name, c)
		}
	}
}

// P10.2, P10.3
func TestWhatDoesNotCount(t *testing.T) {
	wantMayBe(t, uncounted())
	a, row := ops(scan("a", "")), []api.Shard{shard("", "", 1)}
	for name, c := range uncounted() {
		wantMax(t, name, cmds(c), at(9, 1), a, all(), none())
		wantMax(t, name+", and others", cmds(seen(at(2, 1), put("b")), c, seen(at(1, 1), put("a"))), at(9, 1), a, all(), at(2, 1))
		wantDeps(t, name, cmds(c), at(9, 1), a, row, 1, at(99, 1), dep(0))
		wantDeps(t, name+", and others", cmds(seen(at(2, 1), put("b")), c, seen(at(1, 1), put("a"))), at(9, 1), a, row, 1, at(99, 1), dep(0, at(1, 1), at(2, 1)))
	}
}

// P10.2, P10.3
func TestWhatCounts(t *testing.T) {
	wantMayBe(t, counted())
	a, row := ops(get("a")), []api.Shard{shard("", "", 1)}
	for name, c := range counted() {
		top := at(8, 2)
		if cmd.Top(c) != top && c.Id != at(9, 2) {
			t.Errorf("%s: Top is %v", name, cmd.Top(c))
		}
		if c.Id == at(9, 2) {
			top = c.Id
		}
		wantMax(t, name, cmds(c), at(9, 1), a, all(), top)
		wantMax(t, name+", behind another one", cmds(seen(at(2, 1), put("a")), c), at(9, 1), a, all(), top)
		wantDeps(t, name, cmds(c), at(9, 1), a, row, 1, at(99, 1), dep(0, c.Id))
	}
	// Of what is asked by another Id, the one with the Id 9.1 counts, too.
	wantMax(t, "another Id", cmds(seen(at(9, 1), put("a"))), at(9, 2), a, all(), at(9, 1))
	wantDeps(t, "another Id", cmds(seen(at(9, 1), put("a"))), at(9, 2), a, row, 1, at(9, 2), dep(0, at(9, 1)))
}
