package flat_test

import (
	"math"
	"slices"
	"strings"
	"testing"

	"folkmoot/api"
	"folkmoot/flat"
)

func open(s string) *flat.Eye { return flat.Open([]byte(s)) }

// wantAt asks how many bytes are left, and what Done is.
func wantAt(t *testing.T, what string, e *flat.Eye, left int, done api.Errno) {
	t.Helper()
	if got := e.Left(); got != left {
		t.Errorf("%s: %d are left, want %d", what, got, left)
	}
	if got := e.Done(); got != done {
		t.Errorf("%s: Done is %d, want %d", what, got, done)
	}
}

// wantNothing asks that every call on the eye answers its zero value.
func wantNothing(t *testing.T, what string, e *flat.Eye) {
	t.Helper()
	if got := e.Int(); got != 0 {
		t.Errorf("%s: Int: %d", what, got)
	}
	if got := e.Text(); got != "" {
		t.Errorf("%s: Text: %q", what, got)
	}
	if e.Bool() {
		t.Errorf("%s: Bool: true", what)
	}
	if got := e.Stamp(); got != none {
		t.Errorf("%s: Stamp: %v", what, got)
	}
	if got := e.Stamps(); len(got) != 0 {
		t.Errorf("%s: Stamps: %v", what, got)
	}
}

// wantBlind asks that the eye is blind with so many bytes left, and stays so, whatever it is asked.
func wantBlind(t *testing.T, what string, e *flat.Eye, left int) {
	t.Helper()
	for range 2 {
		wantAt(t, what, e, left, api.ErrFlat)
		wantNothing(t, what, e)
	}
	wantAt(t, what, e, left, api.ErrFlat)
}

// P2.4
func TestIntReadsEightBytesTheLowestFirst(t *testing.T) {
	cases := []struct {
		b    string
		want int64
	}{
		{zero8, 0},
		{one8, 1},
		{"\x02\x01\x00\x00\x00\x00\x00\x00", 258},
		{"\x01\x02\x03\x04\x05\x06\x07\x08", 0x0807060504030201},
		{"\xff\xff\xff\xff\x00\x00\x00\x00", math.MaxUint32},
		{max8, math.MaxInt64},
		{neg8, -1},
		{"\xfe\xff\xff\xff\xff\xff\xff\xff", -2},
		{min8, math.MinInt64},
	}
	for _, c := range cases {
		e := open(c.b + "rest")
		if got := e.Int(); got != c.want {
			t.Errorf("Int of %q: %d, want %d", c.b, got, c.want)
		}
		wantAt(t, "behind a number", e, 4, api.ErrFlat)
	}
}

// P2.4
func TestTextReadsAsManyBytesAsItSays(t *testing.T) {
	full := strings.Repeat("f", api.MaxFlat)
	cases := []struct{ b, want string }{
		{"\x00\x00\x00\x00", ""},
		{"\x02\x00\x00\x00ab", "ab"},
		{"\x03\x00\x00\x00\x00\xff\x80", "\x00\xff\x80"},
		{"\x03\x02\x01\x00" + full[:0x010203], full[:0x010203]},
		{"\x00\x00\x10\x00" + full, full},
	}
	for _, c := range cases {
		e := open(c.b + "rest")
		if got := e.Text(); got != c.want {
			t.Errorf("Text of %q: %q", brief([]byte(c.b)), brief([]byte(got)))
		}
		wantAt(t, "behind a text", e, 4, api.ErrFlat)
	}
}

// P2.4
func TestBoolReadsOneByte(t *testing.T) {
	e := open("\x01\x00\x01")
	for i, want := range []bool{true, false, true} {
		if got := e.Bool(); got != want {
			t.Errorf("truth %d: %v", i, got)
		}
	}
	wantAt(t, "behind truths", e, 0, api.OK)
}

// P2.4
func TestStampReadsTwoNumbers(t *testing.T) {
	for _, s := range []api.Stamp{none, at(1, 2), at(api.MaxTime, api.MaxNode), at(-1, -2), at(math.MinInt64, math.MaxInt)} {
		e := flat.Open(laid(func(p *flat.Pen) { p.Stamp(s, at(9, 9)) }))
		if got := e.Stamp(); got != s {
			t.Errorf("Stamp: %v, want %v", got, s)
		}
		wantAt(t, "behind a stamp", e, 16, api.ErrFlat)
	}
}

// P2.4
func TestStampsReadAListOfAnyStamps(t *testing.T) {
	lists := [][]api.Stamp{nil, {none}, {at(1, 2)}, {at(3, 1), at(1, 1), at(3, 1), at(-1, -1)}, make([]api.Stamp, 600)}
	for _, l := range lists {
		e := flat.Open(laid(func(p *flat.Pen) { p.Stamps(l); p.Bool(true) }))
		if got := e.Stamps(); !slices.Equal(got, l) {
			t.Errorf("Stamps: %v, want %v", got, l)
		}
		wantAt(t, "behind a list", e, 1, api.ErrFlat)
	}
}

// asks are the calls that read, by name, and bytes that each reads whole.
func asks() map[string]struct {
	whole string
	ask   func(*flat.Eye)
} {
	return map[string]struct {
		whole string
		ask   func(*flat.Eye)
	}{
		"Int":            {neg8, func(e *flat.Eye) { e.Int() }},
		"Text":           {"\x03\x00\x00\x00abc", func(e *flat.Eye) { e.Text() }},
		"Text of none":   {"\x00\x00\x00\x00", func(e *flat.Eye) { e.Text() }},
		"Bool":           {"\x01", func(e *flat.Eye) { e.Bool() }},
		"Stamp":          {one8 + two8, func(e *flat.Eye) { e.Stamp() }},
		"Stamps":         {two8 + one8 + two8 + two8 + one8, func(e *flat.Eye) { e.Stamps() }},
		"Stamps of none": {zero8, func(e *flat.Eye) { e.Stamps() }},
	}
}

// P2.4, P2.5
func TestEyeIsBlindWhereTheBytesEndWithin(t *testing.T) {
	for name, a := range asks() {
		e := open(a.whole)
		a.ask(e)
		wantAt(t, name+" whole", e, 0, api.OK)
		a.ask(e)
		wantBlind(t, name+" behind the end", e, 0)
		for n := range len(a.whole) {
			e := open(a.whole[:n])
			a.ask(e)
			wantBlind(t, name+" of too few bytes", e, n)
		}
	}
}

// P2.4: what was read ahead of the fault stays read; the eye stands in front of what is not whole.
func TestBlindEyeStaysInFrontOfWhatIsNotWhole(t *testing.T) {
	for name, a := range asks() {
		for n := range len(a.whole) {
			e := open(one8 + "\x01" + a.whole[:n])
			if e.Int() != 1 || !e.Bool() {
				t.Fatal("what stands ahead")
			}
			a.ask(e)
			wantBlind(t, name+" not whole behind others", e, n)
		}
	}
}

// P2.4: what the calls answer where nothing whole stands.
func TestBlindingCallAnswersNothing(t *testing.T) {
	wantNothing(t, "no bytes", flat.Open(nil))
	if got := open("\x01\x02\x03\x04\x05\x06\x07").Int(); got != 0 {
		t.Errorf("Int: %d", got)
	}
	if got := open("\x03\x00\x00\x00ab").Text(); got != "" {
		t.Errorf("Text: %q", got)
	}
	if open("\x02").Bool() || open("\xff").Bool() || open("\x81").Bool() {
		t.Error("Bool: true")
	}
	if got := open(one8 + "\x01\x02").Stamp(); got != none {
		t.Errorf("Stamp: %v", got)
	}
	if got := open(two8 + one8 + two8 + one8).Stamps(); len(got) != 0 {
		t.Errorf("Stamps: %v", got)
	}
}

// P2.4
func TestEyeIsBlindAtATruthThatIsNone(t *testing.T) {
	for b := 2; b < 256; b++ {
		e := open(string([]byte{byte(b), 1}) + one8)
		if e.Bool() {
			t.Errorf("the byte %d is true", b)
		}
		wantBlind(t, "a truth that is none", e, 10)
	}
}

// P2.4
func TestEyeIsBlindAtATextOfTooManyBytes(t *testing.T) {
	// The bytes are there: there are too many of them.
	long := strings.Repeat("x", api.MaxFlat+1)
	e := open("\x01\x00\x10\x00" + long)
	if got := e.Text(); got != "" {
		t.Errorf("a text of %d bytes", len(got))
	}
	wantBlind(t, "a text of MaxFlat + 1", e, 4+len(long))
	for _, length := range []string{"\x01\x00\x10\x00", "\x00\x00\x20\x00", "\x01\x00\x00\x80", "\x00\x00\x00\xff", "\xff\xff\xff\xff"} {
		e := open(length + "abc")
		e.Text()
		wantBlind(t, "a text that says too many", e, 7)
	}
}

// P2.4
func TestEyeIsBlindAtCountsThatMayNotBe(t *testing.T) {
	list := one8 + two8 + two8 + one8
	for _, n := range []int64{math.MinInt64, math.MinInt64 + 1, -1 << 32, -2, -1, 3, 4, 1 << 31, 1 << 32, 1 << 59, 1 << 60, 1<<60 + 2, 1 << 62, math.MaxInt64} {
		e := open(string(laid(func(p *flat.Pen) { p.Int(n) })) + list)
		if got := e.Stamps(); len(got) != 0 {
			t.Errorf("a list of %d: %v", n, got)
		}
		wantBlind(t, "a count that may not be", e, 8+len(list))
	}
	e := open(two8 + list)
	if got := e.Stamps(); !slices.Equal(got, []api.Stamp{at(1, 2), at(2, 1)}) {
		t.Errorf("a list of two: %v", got)
	}
	wantAt(t, "a list of two", e, 0, api.OK)
}

// P2.4: however much could be read, an eye that is blind reads none of it.
func TestBlindEyeReadsNoMore(t *testing.T) {
	e := open("\x02" + strings.Repeat("\x01", 200))
	e.Bool()
	wantBlind(t, "a blind eye", e, 201)
	// Its front would be a number, and a stamp, if it could see.
	e = open("\x05\x00\x00\x00\x00\x00\x00\x00" + one8)
	e.Stamps()
	wantBlind(t, "a blind eye at a number", e, 16)
}

// P2.3, P2.5
func TestOpenIsAtTheFront(t *testing.T) {
	wantAt(t, "nil", flat.Open(nil), 0, api.OK)
	wantAt(t, "no bytes", flat.Open([]byte{}), 0, api.OK)
	wantAt(t, "a byte", open("\x01"), 1, api.ErrFlat)
	e := open(one8 + two8)
	wantAt(t, "two numbers", e, 16, api.ErrFlat)
	e.Int()
	wantAt(t, "one number", e, 8, api.ErrFlat)
	e.Int()
	wantAt(t, "none", e, 0, api.OK)
}

// P2.3: the bytes are read as they were, and stay as they are.
func TestOpenTakesTheBytesAsTheyAre(t *testing.T) {
	whole := laid(func(p *flat.Pen) { p.Int(7); p.Text("text"); p.Stamps([]api.Stamp{at(1, 2)}); p.Bool(true) })
	b := slices.Clone(whole)
	e, f := flat.Open(b), flat.Open(b)
	readAll := func(e *flat.Eye) bool {
		return e.Int() == 7 && e.Text() == "text" && slices.Equal(e.Stamps(), []api.Stamp{at(1, 2)}) && e.Bool() && e.Done() == api.OK
	}
	if !readAll(f) {
		t.Error("not what was laid")
	}
	if !slices.Equal(b, whole) {
		t.Error("reading has changed the bytes")
	}
	clear(b)
	if !readAll(e) {
		t.Error("the eye sees what was written behind Open")
	}
	if flat.Open(b).Int() != 0 {
		t.Error("a new eye does not see it")
	}
}

// P2.3: spare room behind the bytes is no part of them.
func TestOpenDoesNotSeeSpareRoom(t *testing.T) {
	b := []byte(one8 + "\x02\x00\x00\x00ab")
	e := flat.Open(b[:3])
	if e.Int() != 0 {
		t.Error("read on into spare room")
	}
	wantBlind(t, "spare room", e, 3)
	e = flat.Open(b[8:13])
	if e.Text() != "" {
		t.Error("read on into spare room")
	}
	wantBlind(t, "spare room", e, 5)
	if string(b) != one8+"\x02\x00\x00\x00ab" {
		t.Error("the bytes have changed")
	}
}

// P2.5
func TestNilEyeAnswersNothingAndIsDone(t *testing.T) {
	var e *flat.Eye
	for range 2 {
		wantAt(t, "a nil eye", e, 0, api.OK)
		wantNothing(t, "a nil eye", e)
	}
	wantAt(t, "a nil eye that was asked", e, 0, api.OK)
}

// P2.5: asking Left and Done moves nothing.
func TestLeftAndDoneOnlyTell(t *testing.T) {
	e := open(one8)
	for range 3 {
		wantAt(t, "an eye at the front", e, 8, api.ErrFlat)
	}
	if e.Int() != 1 {
		t.Error("the eye has moved")
	}
	wantAt(t, "an eye at the end", e, 0, api.OK)
}

// Rule 3, of P2.4: lists that are answered are new each time, their spare room too.
func TestStampsAnsweredAreNew(t *testing.T) {
	l := []api.Stamp{at(1, 1), at(2, 1), at(3, 1)}
	b := laid(func(p *flat.Pen) { p.Stamps(l); p.Stamps(l); p.Text("t") })
	old := slices.Clone(b)
	e := flat.Open(b)
	first, second := e.Stamps(), e.Stamps()
	for _, s := range [][]api.Stamp{first, second} {
		if !slices.Equal(s, l) {
			t.Fatalf("Stamps: %v", s)
		}
		whole := s[:cap(s)]
		for i := range whole {
			whole[i] = at(-99, -99)
		}
	}
	if got := e.Text(); got != "t" || e.Done() != api.OK {
		t.Errorf("a list shares with the eye: %q", got)
	}
	if !slices.Equal(b, old) {
		t.Error("a list shares with the bytes")
	}
}

// Rule 4, of P2.4: an eye hangs on the calls on it alone.
func TestEyesAreApart(t *testing.T) {
	b := []byte(one8 + two8)
	e, f := flat.Open(b), flat.Open(b)
	if e.Int() != 1 || e.Int() != 2 || e.Int() != 0 {
		t.Error("one eye")
	}
	wantBlind(t, "one eye", e, 0)
	if f.Int() != 1 || f.Int() != 2 || f.Done() != api.OK {
		t.Error("the other eye")
	}
}
