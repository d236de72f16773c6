package cmd_test

import (
	"bytes"
	"math"
	"slices"
	"testing"

	"folkmoot/api"
	"folkmoot/cmd"
	"folkmoot/num"
)

// laid is bytes by hand: an int as eight bytes, a text as four that say how many it has, and these, the lowest first; a bool as one.
func laid(l ...any) []byte {
	var b []byte
	for _, x := range l {
		switch x := x.(type) {
		case int:
			b = append(b, lowest(x, 8)...)
		case string:
			b = append(append(b, lowest(len(x), 4)...), x...)
		case bool:
			n := 0
			if x {
				n = 1
			}
			b = append(b, byte(n))
		case []byte:
			b = append(b, x...)
		}
	}
	return b
}

// lowest is that many bytes of a number, the lowest first.
func lowest(n, size int) []byte {
	var b []byte
	for i := range size {
		b = append(b, byte(n>>(8*i)))
	}
	return b
}

// many is the bytes of something, several times.
func many(n int, b []byte) []byte { return bytes.Repeat(b, n) }

func wantParse(t *testing.T, what string, b []byte, want api.Cmd) {
	t.Helper()
	got, err := cmd.Parse(b)
	if !same(got, want) || err != api.OK {
		t.Errorf("%s: Parse(%x):\n got %#v, %d,\nwant %#v", what, b, got, err, want)
	}
}

func wantNoCmd(t *testing.T, what string, b []byte) {
	t.Helper()
	got, err := cmd.Parse(b)
	if !same(got, api.Cmd{}) || err != api.ErrCmd {
		t.Errorf("%s: Parse(%x): %#v, %d, want the zero Cmd and ErrCmd", what, b, got, err)
	}
}

// byHand is commands, and the bytes of each.
func byHand() map[string]struct {
	c    api.Cmd
	want []byte
} {
	const five, three = 0x4014000000000000, 0x4008000000000000
	return map[string]struct {
		c    api.Cmd
		want []byte
	}{
		"new": {cmd.New(id()), laid(5, 2, 0, 0, 0, 0, 0, 0, false, 0, 0, 0, false, 0, 0, false, 0, 0, 0, false, 0, 0)},
		"promised": {
			api.Cmd{Id: at(3, 1), Promise: at(8, 3), Bound: at(9, 4)},
			laid(3, 1, 0, 0, 8, 3, 0, 0, false, 0, 9, 4, false, 0, 0, false, 0, 0, 0, false, 0, 0),
		},
		"accepted, gone": {
			api.Cmd{Id: at(3, 1), Promise: at(8, 3), Has: true, Ballot: at(7, 6), Value: gone()},
			laid(3, 1, 0, 0, 8, 3, 0, 0, false, 0, 0, 0, true, 7, 6, true, 0, 0, 0, false, 0, 0),
		},
		"seen": {
			api.Cmd{Id: at(3, 1), Ops: []api.Op{get("ab")}, Phase: api.PhaseSeen, Vote: at(4, 5), Fast: true, Seen: []api.Dep{dep(2, at(1, 6))}},
			laid(3, 1, 1, 1, "ab", "", 0, 1, 0, 0, 4, 5, true, 1, 2, 1, 1, 6, 0, 0, false, 0, 0, false, 0, 0, 0, false, 0, 0),
		},
		"applied": {
			applied(),
			laid(5, 2,
				2, 1, "a", "", 0, 6, "b", "c", three,
				3, 8, 3, 6, 3, true,
				2, 0, 2, 1, 1, 4, 7, 3, 0,
				9, 1, true, 7, 1,
				false, 9, 1, 2, 0, 3, 1, 1, 6, 1, 6, 2, 7, 1, 2, 2,
				true,
				2, "b", three-1<<63, false, "c", 0, true,
				2, "a", 0x3ff0000000000000, "c", 0),
		},
		"many": {
			with(applied(), func(c *api.Cmd) {
				c.Ops = []api.Op{{Kind: api.OpPut, Key: "\x00\xff", Num: num.Of(5)}}
				c.Seen, c.Value.Deps = nil, []api.Dep{dep(0)}
				c.Writes, c.Pairs = writes(set("x", num.Of(5))), pairs(pair("y", 0x7ff8000000000001))
			}),
			laid(5, 2, 1, 3, "\x00\xff", "", five, 3, 8, 3, 6, 3, true, 0, 9, 1, true, 7, 1, false, 9, 1, 1, 0, 0, true, 1, "x", five, false, 1, "y", 0x7ff8000000000001),
		},
	}
}

// P9.6
func TestPutLaysTheParts(t *testing.T) {
	for name, x := range byHand() {
		wantCheck(t, name, x.c, api.OK)
		if got := cmd.Put(x.c); !bytes.Equal(got, x.want) {
			t.Errorf("%s: Put(%#v):\n got %x,\nwant %x", name, x.c, got, x.want)
		}
		wantParse(t, name, x.want, x.c)
	}
}

// P9.6
func TestThereAndBack(t *testing.T) {
	for name, c := range good() {
		b := cmd.Put(c)
		wantParse(t, name, b, c)
		again, _ := cmd.Parse(b)
		if !bytes.Equal(cmd.Put(again), b) {
			t.Errorf("%s: back and there: %x, was %x", name, cmd.Put(again), b)
		}
	}
}

// P9.6
func TestUnlikeCommandsHaveUnlikeBytes(t *testing.T) {
	whose := map[string]string{}
	for name, c := range good() {
		b := string(cmd.Put(c))
		if other, there := whose[b]; there {
			t.Errorf("%s and %s have the same bytes", name, other)
		}
		whose[b] = name
	}
}

// P9.6
func TestParseRefusesBytesThatEndTooEarlyOrTooLate(t *testing.T) {
	wantNoCmd(t, "no bytes", nil)
	wantNoCmd(t, "no bytes", []byte{})
	for name, c := range good() {
		b := cmd.Put(c)
		for i := range b {
			wantNoCmd(t, name+", cut off", b[:i])
			wantNoCmd(t, name+", without its first bytes", b[i+1:])
		}
		for _, more := range [][]byte{{0}, {1}, {255}, laid(0), laid(""), b, b[8:]} {
			wantNoCmd(t, name+", more behind", slices.Concat(b, more))
		}
	}
}

// parts is the bytes of a command that is applied, of which each part may be another one.
type parts struct{ ops, phase, seen, has, deps, writes, pairs []byte }

func usual() parts {
	return parts{
		ops: laid(1, 1, "a", "", 0), phase: laid(3), seen: laid(1, 2, 1, 1, 6), has: laid(true), deps: laid(1, 0, 1, 1, 7),
		writes: laid(1, "a", 0, true), pairs: laid(1, "a", 0),
	}
}

func (p parts) bytes() []byte {
	return laid(5, 2, p.ops, p.phase, 8, 3, 6, 3, true, p.seen, 9, 1, p.has, 7, 1, false, 9, 1, p.deps, true, p.writes, p.pairs)
}

// P9.6: what is told of how much there is lies.
func TestParseRefusesNumbersThatLie(t *testing.T) {
	if _, err := cmd.Parse(usual().bytes()); err != api.OK {
		t.Fatal("the usual parts are refused")
	}
	for _, n := range []int{-1, -2, -8, 0, 2, 3, 8, 9, 1 << 20, 1 << 32, 1<<32 + 1, 1 << 40, 1 << 60, math.MaxInt, math.MinInt, math.MinInt + 1} {
		count := laid(n)
		for name, change := range map[string]func(*parts){
			"ops":     func(p *parts) { p.ops = slices.Concat(count, p.ops[8:]) },
			"seen":    func(p *parts) { p.seen = slices.Concat(count, p.seen[8:]) },
			"seen's":  func(p *parts) { p.seen = slices.Concat(p.seen[:16], count, p.seen[24:]) },
			"deps":    func(p *parts) { p.deps = slices.Concat(count, p.deps[8:]) },
			"deps'":   func(p *parts) { p.deps = slices.Concat(p.deps[:16], count, p.deps[24:]) },
			"writes":  func(p *parts) { p.writes = slices.Concat(count, p.writes[8:]) },
			"pairs":   func(p *parts) { p.pairs = slices.Concat(count, p.pairs[8:]) },
			"zeros":   func(p *parts) { p.pairs = slices.Concat(count, make([]byte, 12*9+1)) },
			"no more": func(p *parts) { p.pairs = slices.Concat(count, []byte{0}) },
		} {
			p := usual()
			change(&p)
			wantNoCmd(t, name, p.bytes())
		}
	}
	// Less than nothing is not nothing.
	for _, n := range []int{-1, -8, math.MinInt} {
		p := usual()
		p.pairs = laid(n)
		wantNoCmd(t, "less than no pairs", p.bytes())
		p = usual()
		p.writes = laid(n)
		wantNoCmd(t, "less than no writes", p.bytes())
		p = usual()
		p.seen = laid(n)
		wantNoCmd(t, "less than nothing seen", p.bytes())
		p = usual()
		p.deps = laid(n)
		wantNoCmd(t, "less than no dependencies", p.bytes())
		wantNoCmd(t, "less than no ops", laid(5, 2, n, 0, 0, 0, 0, 0, false, 0, 0, 0, false, 0, 0, false, 0, 0, 0, false, 0, 0))
	}
}

// P9.6: as many as the number says are read, however many they are.
func TestParseReadsAsManyAsThereAre(t *testing.T) {
	p := usual()
	p.ops, p.writes, p.pairs = laid(8, many(8, laid(1, "a", "", 0))), laid(0), laid(0)
	for i := range 200 {
		p.writes = append(p.writes, laid(string([]byte{'a', byte(i)}), i, false)...)
		p.pairs = append(p.pairs, laid(string([]byte{'b', byte(i)}), i)...)
	}
	copy(p.writes, laid(200))
	copy(p.pairs, laid(200))
	c, err := cmd.Parse(p.bytes())
	if err != api.OK || len(c.Ops) != 8 || len(c.Writes) != 200 || len(c.Pairs) != 200 || c.Writes[199] != set("a\xc7", 199) || c.Pairs[7] != pair("b\x07", 7) {
		t.Errorf("%d ops, %d writes, %d pairs, %d", len(c.Ops), len(c.Writes), len(c.Pairs), err)
	}
	p.ops = laid(9, many(9, laid(1, "a", "", 0)))
	wantNoCmd(t, "nine ops", p.bytes())
}

// P9.6: a truth is 1 or 0.
func TestParseRefusesTruthsThatAreNone(t *testing.T) {
	for n := 2; n < 256; n++ {
		p := usual()
		p.has = []byte{byte(n)}
		wantNoCmd(t, "has", p.bytes())
		p = usual()
		p.writes[len(p.writes)-1] = byte(n)
		wantNoCmd(t, "gone", p.bytes())
	}
}

// P9.6
func TestParseRefusesWhatCheckRefuses(t *testing.T) {
	for _, c := range wrong() {
		wantCheck(t, "a wrong one", c, api.ErrCmd)
		wantNoCmd(t, "a wrong one", cmd.Put(c))
	}
}

// wrong is commands that may not be, of many kinds.
func wrong() []api.Cmd {
	var l []api.Cmd
	_, wrongValues := values()
	for _, c := range goods() {
		for _, s := range wrongStamps() {
			l = append(l, with(c, func(c *api.Cmd) { c.Id = s }), with(c, func(c *api.Cmd) { c.Vote = s }), with(c, func(c *api.Cmd) { c.Ballot = s }))
			l = append(l, with(c, func(c *api.Cmd) { c.Promise = s }), with(c, func(c *api.Cmd) { c.Bound = s }))
		}
		for _, ops := range wrongOps() {
			l = append(l, with(c, func(c *api.Cmd) { c.Ops = ops }))
		}
		for _, d := range wrongDeps() {
			l = append(l, with(c, func(c *api.Cmd) { c.Seen = d }))
		}
		for _, v := range wrongValues {
			l = append(l, with(c, func(c *api.Cmd) { c.Has, c.Value = true, v }))
		}
		for _, phase := range []int{-1, 4, 5, math.MaxInt, math.MinInt, 1 << 32} {
			l = append(l, with(c, func(c *api.Cmd) { c.Phase = phase }))
		}
		l = append(l, with(c, func(c *api.Cmd) { c.Writes = writes(drop("")) }), with(c, func(c *api.Cmd) { c.Writes = writes(drop("b"), drop("a")) }))
		l = append(l, with(c, func(c *api.Cmd) { c.Pairs = pairs(pair("a", 1), pair("a", 1)) }), with(c, func(c *api.Cmd) { c.Pairs = pairs(pair("a", math.MaxUint64)) }))
	}
	l = append(l, api.Cmd{}, api.Cmd{Ops: two(), Seen: hang()}, with(seen(promised()), func(c *api.Cmd) { c.Phase = api.PhaseNone }), with(promised(), func(c *api.Cmd) { c.Phase = api.PhaseSeen }))
	return append(l, with(decidedGone(), func(c *api.Cmd) { c.Ready = true }), with(decided(), func(c *api.Cmd) { c.Phase = api.PhaseApplied }), with(applied(), func(c *api.Cmd) { c.Ready = false }))
}

// P9.6: of any bytes, what is read is what these bytes are; all else is refused.
func TestParseOfSpoiltBytes(t *testing.T) {
	for _, name := range []string{"new", "accepted, gone", "seen", "applied"} {
		b := cmd.Put(good()[name])
		for i := range b {
			for turn := range 256 {
				spoilt := bytes.Clone(b)
				spoilt[i] ^= byte(turn)
				got, err := cmd.Parse(spoilt)
				if err == api.OK && (cmd.Check(got) != api.OK || !bytes.Equal(cmd.Put(got), spoilt)) {
					t.Fatalf("Parse(%x): %#v", spoilt, got)
				}
				if err != api.OK && (err != api.ErrCmd || !same(got, api.Cmd{})) {
					t.Fatalf("Parse(%x): %#v, %d", spoilt, got, err)
				}
			}
		}
	}
}
