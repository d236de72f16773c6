package flat_test

import (
	"hash/fnv"
	"math"
	"slices"
	"strings"
	"testing"

	"folkmoot/api"
	"folkmoot/flat"
)

// P2.6
func TestSumOfKnownBytes(t *testing.T) {
	cases := []struct {
		b    string
		want uint64
	}{
		{"", 14695981039346656037},
		{"a", 12638187200555641996},
		{"b", 0xaf63df4c8601f1a5},
		{"\x00", 0xaf63bd4c8601b7df},
		{"foobar", 0x85944171f73967e8},
		{"hello", 0xa430d84680aabd0b},
	}
	for _, c := range cases {
		if got := flat.Sum([]byte(c.b)); got != c.want {
			t.Errorf("Sum of %q: %d, want %d", c.b, got, c.want)
		}
	}
	if got := flat.Sum(nil); got != 14695981039346656037 {
		t.Errorf("Sum of nil: %d", got)
	}
}

// P2.6: the library's sum of that kind is worked out in the same way.
func TestSumOfManyBytes(t *testing.T) {
	dice := dice(5)
	for n := range 400 {
		b := make([]byte, n)
		for i := range b {
			b[i] = byte(dice(256))
		}
		old := slices.Clone(b)
		h := fnv.New64a()
		h.Write(b)
		if got := flat.Sum(b); got != h.Sum64() {
			t.Fatalf("Sum of %q: %d, want %d", b, got, h.Sum64())
		}
		if !slices.Equal(b, old) {
			t.Fatal("Sum has changed the bytes")
		}
	}
}

// P2.8
func TestSumsOfBytesUnlikeInOneAreUnlike(t *testing.T) {
	for _, text := range []string{"x", "\x00\x00", "spoilt", strings.Repeat("\xff", 40), strings.Repeat("long ", 60)} {
		b := []byte(text)
		want := flat.Sum(b)
		for i := range b {
			old := b[i]
			for other := range 256 {
				b[i] = byte(other)
				if same := flat.Sum(b) == want; same != (b[i] == old) {
					t.Fatalf("byte %d of %q as %d: the sum is the same: %v", i, text, other, same)
				}
			}
			b[i] = old
		}
	}
}

// dice answers numbers from 0 on and below n, the same ones in every run.
func dice(seed uint64) func(n int) int {
	return func(n int) int {
		seed = seed*6364136223846793005 + 1442695040888963407
		return int(seed >> 33 % uint64(n))
	}
}

// A thing is something that a pen lays: how it is laid, and whether an eye reads just that.
type thing struct {
	lay  func(p *flat.Pen)
	same func(e *flat.Eye) bool
}

func numberThing(n int64) thing {
	return thing{func(p *flat.Pen) { p.Int(n) }, func(e *flat.Eye) bool { return e.Int() == n }}
}

func textThing(s string) thing {
	return thing{func(p *flat.Pen) { p.Text(s) }, func(e *flat.Eye) bool { return e.Text() == s }}
}

func truthThing(b bool) thing {
	return thing{func(p *flat.Pen) { p.Bool(b) }, func(e *flat.Eye) bool { return e.Bool() == b }}
}

func stampThing(s api.Stamp) thing {
	return thing{func(p *flat.Pen) { p.Stamp(s) }, func(e *flat.Eye) bool { return e.Stamp() == s }}
}

func stampsThing(l []api.Stamp) thing {
	return thing{func(p *flat.Pen) { p.Stamps(l) }, func(e *flat.Eye) bool { return slices.Equal(e.Stamps(), l) }}
}

// anyNumber is one of the edges, or any.
func anyNumber(dice func(int) int) int64 {
	edges := []int64{math.MinInt64, -256, -2, -1, 0, 1, 255, 256, api.MaxTime, math.MaxInt64}
	if i := dice(2 * len(edges)); i < len(edges) {
		return edges[i]
	}
	return int64(dice(1<<31)) << dice(33) * int64(1-2*dice(2))
}

// anyThing is a thing of any of the five kinds.
func anyThing(dice func(int) int) thing {
	one := func() api.Stamp { return at(anyNumber(dice), int(anyNumber(dice))) }
	switch dice(5) {
	case 0:
		return numberThing(anyNumber(dice))
	case 1:
		b := make([]byte, dice(300))
		for i := range b {
			b[i] = byte(dice(256))
		}
		return textThing(string(b))
	case 2:
		return truthThing(dice(2) == 1)
	case 3:
		return stampThing(one())
	}
	var l []api.Stamp
	for range dice(6) {
		l = append(l, one())
	}
	return stampsThing(l)
}

// P2.7
func TestWhatAPenHasLaidIsReadToTheEnd(t *testing.T) {
	dice := dice(7)
	for range 2000 {
		var things []thing
		p := &flat.Pen{}
		for range dice(8) {
			things = append(things, anyThing(dice))
			things[len(things)-1].lay(p)
		}
		b := p.Bytes()
		e := flat.Open(b)
		for i, x := range things {
			if !x.same(e) {
				t.Fatalf("thing %d of %q is not what was laid", i, b)
			}
		}
		wantAt(t, "the end", e, 0, api.OK)
	}
}

// P2.7: at the edges.
func TestEdgesAreReadBack(t *testing.T) {
	full := strings.Repeat("f", api.MaxFlat)
	things := []thing{
		textThing(full), textThing(""), textThing(full[1:]), textThing("\xff\x00"), truthThing(true), truthThing(false),
		numberThing(math.MinInt64), numberThing(math.MaxInt64), numberThing(-1), numberThing(0),
		stampThing(none), stampThing(at(math.MinInt64, math.MinInt)), stampThing(at(math.MaxInt64, math.MaxInt)),
		stampsThing(nil), stampsThing([]api.Stamp{none, none}), stampsThing(make([]api.Stamp, 3*api.MaxDeps)),
	}
	p := &flat.Pen{}
	for _, x := range things {
		x.lay(p)
	}
	e := flat.Open(p.Bytes())
	for i, x := range things {
		if !x.same(e) {
			t.Errorf("thing %d is not what was laid", i)
		}
	}
	wantAt(t, "the end", e, 0, api.OK)
	e = flat.Open(laid(func(p *flat.Pen) { p.Text(full + "more"); p.Int(-5) }))
	if e.Text() != full || e.Int() != -5 || e.Done() != api.OK {
		t.Error("a text that was cut off is not read back")
	}
}

// P2.5, P2.7: bytes that are cut off, or go on, are not read to the end.
func TestOtherBytesAreNotDone(t *testing.T) {
	dice := dice(11)
	for range 100 {
		x, y := anyThing(dice), anyThing(dice)
		b := laid(func(p *flat.Pen) { x.lay(p); y.lay(p) })
		for n := range len(b) {
			e := flat.Open(b[:n])
			x.same(e)
			y.same(e)
			if e.Done() != api.ErrFlat {
				t.Fatalf("%d bytes of %q are all", n, b)
			}
		}
		e := flat.Open(append(slices.Clone(b), byte(dice(256))))
		if !x.same(e) || !y.same(e) {
			t.Fatalf("%q is not what was laid", b)
		}
		wantAt(t, "one byte too many", e, 1, api.ErrFlat)
	}
}

// read asks an eye for something of a kind, and lays what it has answered.
func read(kind int, e *flat.Eye, p *flat.Pen) {
	switch kind {
	case 0:
		p.Int(e.Int())
	case 1:
		p.Text(e.Text())
	case 2:
		p.Bool(e.Bool())
	case 3:
		p.Stamp(e.Stamp())
	case 4:
		p.Stamps(e.Stamps())
	}
}

// P2.4, P2.7: any bytes that are read to the end are those that a pen lays; of others the eye is blind.
func TestBytesThatAreReadAreSuchAsAreLaid(t *testing.T) {
	dice := dice(13)
	done := 0
	for range 20000 {
		b := make([]byte, dice(40))
		for i := range b {
			b[i] = byte(dice(3) * dice(2) * dice(2))
		}
		e, p := flat.Open(b), &flat.Pen{}
		for e.Left() > 0 {
			left := e.Left()
			read(dice(5), e, p)
			if e.Left() == left {
				break
			}
		}
		if e.Left() > 0 {
			wantBlind(t, "spoilt bytes", e, e.Left())
		}
		if e.Done() == api.OK {
			done++
			if got := p.Bytes(); !slices.Equal(got, b) {
				t.Fatalf("%q was read, and laid again as %q", b, got)
			}
		}
	}
	if done < 1000 {
		t.Errorf("only %d were read to the end", done)
	}
}
