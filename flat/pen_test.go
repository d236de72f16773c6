package flat_test

import (
	"bytes"
	"math"
	"slices"
	"strings"
	"testing"

	"folkmoot/api"
	"folkmoot/flat"
)

func at(time int64, node int) api.Stamp { return api.Stamp{Time: time, Node: node} }

var none api.Stamp

// laid is what a new pen has laid, when it was used so.
func laid(use func(p *flat.Pen)) []byte {
	p := &flat.Pen{}
	use(p)
	return p.Bytes()
}

// wantLaid asks for a new pen's bytes, told as a text.
func wantLaid(t *testing.T, what string, use func(p *flat.Pen), want string) {
	t.Helper()
	if got := laid(use); string(got) != want {
		t.Errorf("%s: %q, want %q", what, brief(got), brief([]byte(want)))
	}
}

// brief is the bytes, or the front of them, if they are many.
func brief(b []byte) []byte { return b[:min(len(b), 80)] }

const (
	zero8 = "\x00\x00\x00\x00\x00\x00\x00\x00"
	one8  = "\x01\x00\x00\x00\x00\x00\x00\x00"
	two8  = "\x02\x00\x00\x00\x00\x00\x00\x00"
	max8  = "\xff\xff\xff\xff\xff\xff\xff\x7f"
	min8  = "\x00\x00\x00\x00\x00\x00\x00\x80"
	neg8  = "\xff\xff\xff\xff\xff\xff\xff\xff"
)

// P2.1
func TestIntIsEightBytesTheLowestFirst(t *testing.T) {
	cases := []struct {
		n    int64
		want string
	}{
		{0, zero8},
		{1, one8},
		{255, "\xff\x00\x00\x00\x00\x00\x00\x00"},
		{256, "\x00\x01\x00\x00\x00\x00\x00\x00"},
		{258, "\x02\x01\x00\x00\x00\x00\x00\x00"},
		{0x0807060504030201, "\x01\x02\x03\x04\x05\x06\x07\x08"},
		{api.MaxTime, "\x00\x00\x00\x00\x00\x01\x00\x00"},
		{math.MaxInt64, max8},
		{-1, neg8},
		{-2, "\xfe\xff\xff\xff\xff\xff\xff\xff"},
		{-256, "\x00\xff\xff\xff\xff\xff\xff\xff"},
		{math.MinInt64, min8},
	}
	for _, c := range cases {
		wantLaid(t, "Int", func(p *flat.Pen) { p.Int(c.n) }, c.want)
	}
}

// P2.1
func TestTextIsItsLengthAndItsBytes(t *testing.T) {
	cases := []struct{ text, want string }{
		{"", "\x00\x00\x00\x00"},
		{"ab", "\x02\x00\x00\x00ab"},
		{"\x00", "\x01\x00\x00\x00\x00"},
		{"ö", "\x02\x00\x00\x00\xc3\xb6"},
		{"\xff\xfe\x80", "\x03\x00\x00\x00\xff\xfe\x80"},
		{strings.Repeat("x", 255), "\xff\x00\x00\x00" + strings.Repeat("x", 255)},
		{strings.Repeat("x", 256), "\x00\x01\x00\x00" + strings.Repeat("x", 256)},
		{strings.Repeat("y", 0x010203), "\x03\x02\x01\x00" + strings.Repeat("y", 0x010203)},
	}
	for _, c := range cases {
		wantLaid(t, "Text", func(p *flat.Pen) { p.Text(c.text) }, c.want)
	}
}

// P2.1
func TestTextOfTooManyBytesIsCutOff(t *testing.T) {
	full := strings.Repeat("z", api.MaxFlat-1) + "!"
	want := "\x00\x00\x10\x00" + full
	for _, more := range []string{"", "?", "??", full} {
		wantLaid(t, "Text", func(p *flat.Pen) { p.Text(full + more) }, want)
	}
	wantLaid(t, "one byte less", func(p *flat.Pen) { p.Text(full[1:]) }, "\xff\xff\x0f\x00"+full[1:])
	// Bytes are counted, not letters: a letter may be cut through.
	wide := strings.Repeat("z", api.MaxFlat-1) + "ö"
	wantLaid(t, "a wide letter", func(p *flat.Pen) { p.Text(wide) }, "\x00\x00\x10\x00"+wide[:api.MaxFlat])
	wantLaid(t, "others beside it", func(p *flat.Pen) { p.Text("a", full+"?", "b") },
		"\x01\x00\x00\x00a"+want+"\x01\x00\x00\x00b")
}

// P2.1
func TestBoolIsOneOrNought(t *testing.T) {
	wantLaid(t, "true", func(p *flat.Pen) { p.Bool(true) }, "\x01")
	wantLaid(t, "false", func(p *flat.Pen) { p.Bool(false) }, "\x00")
}

// P2.1
func TestStampIsItsTimeAndItsNode(t *testing.T) {
	wantLaid(t, "a stamp", func(p *flat.Pen) { p.Stamp(at(1, 2)) }, one8+two8)
	wantLaid(t, "the zero stamp", func(p *flat.Pen) { p.Stamp(none) }, zero8+zero8)
	wantLaid(t, "one that may not be", func(p *flat.Pen) { p.Stamp(at(math.MinInt64, -1)) }, min8+neg8)
	wantLaid(t, "another one", func(p *flat.Pen) { p.Stamp(at(-1, math.MaxInt)) }, neg8+max8)
}

// P2.1
func TestStampsAreHowManyAndThese(t *testing.T) {
	wantLaid(t, "nil", func(p *flat.Pen) { p.Stamps(nil) }, zero8)
	wantLaid(t, "an empty list", func(p *flat.Pen) { p.Stamps([]api.Stamp{}) }, zero8)
	wantLaid(t, "one", func(p *flat.Pen) { p.Stamps([]api.Stamp{at(1, 2)}) }, one8+one8+two8)
	wantLaid(t, "two, not rising", func(p *flat.Pen) { p.Stamps([]api.Stamp{at(2, 2), at(-1, 1)}) },
		two8+two8+two8+neg8+one8)
}

// P2.1
func TestManyAreLaidOneBehindTheOther(t *testing.T) {
	wantLaid(t, "no numbers", func(p *flat.Pen) { p.Int(); p.Int([]int64{}...) }, "")
	wantLaid(t, "no texts", func(p *flat.Pen) { p.Text(); p.Text([]string{}...) }, "")
	wantLaid(t, "no stamps", func(p *flat.Pen) { p.Stamp(); p.Stamp([]api.Stamp{}...) }, "")
	wantLaid(t, "numbers", func(p *flat.Pen) { p.Int(1, -1, 2) }, one8+neg8+two8)
	wantLaid(t, "texts", func(p *flat.Pen) { p.Text("a", "", "bc") }, "\x01\x00\x00\x00a\x00\x00\x00\x00\x02\x00\x00\x00bc")
	wantLaid(t, "stamps", func(p *flat.Pen) { p.Stamp(at(1, 2), none, at(2, 1)) }, one8+two8+zero8+zero8+two8+one8)
}

// P2.1, P2.2
func TestAllThatIsLaidIsBehindWhatIsLaid(t *testing.T) {
	p := &flat.Pen{}
	want := ""
	steps := []struct {
		lay  func()
		more string
	}{
		{func() {}, ""},
		{func() { p.Bool(true) }, "\x01"},
		{func() { p.Int(-1) }, neg8},
		{func() { p.Text("ab") }, "\x02\x00\x00\x00ab"},
		{func() { p.Int() }, ""},
		{func() { p.Stamps(nil) }, zero8},
		{func() { p.Stamp(at(1, 2)) }, one8 + two8},
		{func() { p.Stamps([]api.Stamp{at(2, 1)}) }, one8 + two8 + one8},
		{func() { p.Text("") }, "\x00\x00\x00\x00"},
		{func() { p.Bool(false) }, "\x00"},
	}
	for i, s := range steps {
		s.lay()
		want += s.more
		for range 2 {
			if got := string(p.Bytes()); got != want {
				t.Fatalf("step %d: %q, want %q", i, got, want)
			}
		}
	}
}

// P2.2
func TestZeroPenHasLaidNothing(t *testing.T) {
	var p flat.Pen
	if b := p.Bytes(); len(b) != 0 {
		t.Errorf("a zero pen has bytes: %q", b)
	}
	p.Int(1)
	var q flat.Pen
	if b := q.Bytes(); len(b) != 0 {
		t.Errorf("a zero pen has another one's bytes: %q", b)
	}
}

// P2.2, rule 4: a pen hangs on the calls on it alone.
func TestPensAreApart(t *testing.T) {
	var p, q flat.Pen
	p.Text("a")
	q.Text("b")
	p.Text("c")
	if got, want := string(p.Bytes()), "\x01\x00\x00\x00a\x01\x00\x00\x00c"; got != want {
		t.Errorf("one pen: %q, want %q", got, want)
	}
	if got, want := string(q.Bytes()), "\x01\x00\x00\x00b"; got != want {
		t.Errorf("the other pen: %q, want %q", got, want)
	}
}

// P2.5
func TestNilPenLaysNothing(t *testing.T) {
	var p *flat.Pen
	for range 2 {
		p.Int()
		p.Int(1, 2)
		p.Text()
		p.Text("", "ab", strings.Repeat("x", api.MaxFlat+1))
		p.Bool(true)
		p.Bool(false)
		p.Stamp()
		p.Stamp(at(1, 2), none)
		p.Stamps(nil)
		p.Stamps([]api.Stamp{at(1, 2)})
		if b := p.Bytes(); len(b) != 0 {
			t.Fatalf("a nil pen has bytes: %q", b)
		}
	}
}

// Rule 3, of P2.1: what is handed in is not changed, its spare room neither, and not kept.
func TestWhatIsLaidStaysAsItWas(t *testing.T) {
	numbers := []int64{3, 1, 2, -77, -78}
	texts := []string{"c", "a", "b", "spare", "room"}
	stamps := []api.Stamp{at(3, 1), at(1, 1), at(2, 1), at(-77, -77), at(-78, -78)}
	oldNumbers, oldTexts, oldStamps := slices.Clone(numbers), slices.Clone(texts), slices.Clone(stamps)
	p := &flat.Pen{}
	p.Int(numbers[:3]...)
	p.Text(texts[:3]...)
	p.Stamp(stamps[:3]...)
	p.Stamps(stamps[:3])
	p.Stamps(stamps[:0])
	if !slices.Equal(numbers, oldNumbers) || !slices.Equal(texts, oldTexts) || !slices.Equal(stamps, oldStamps) {
		t.Fatalf("changed what was handed in: %v %v %v", numbers, texts, stamps)
	}
	old := string(p.Bytes())
	clear(numbers)
	clear(texts)
	clear(stamps)
	if got := string(p.Bytes()); got != old {
		t.Errorf("a list that was handed in was kept: %q, want %q", got, old)
	}
}

// P2.1, P2.2: each thing has as many bytes as it always has.
func TestSizesAreAlwaysTheSame(t *testing.T) {
	for _, n := range []int64{math.MinInt64, -1, 0, 1, 1 << 31, math.MaxInt64} {
		if got := len(laid(func(p *flat.Pen) { p.Int(n) })); got != 8 {
			t.Errorf("Int(%d) has %d bytes", n, got)
		}
		if got := len(laid(func(p *flat.Pen) { p.Stamp(at(n, int(n))) })); got != 16 {
			t.Errorf("Stamp(%d, %d) has %d bytes", n, n, got)
		}
	}
	for _, n := range []int{0, 1, 7, 255, 256, 65535, 65536, api.MaxFlat} {
		if got := len(laid(func(p *flat.Pen) { p.Text(strings.Repeat("t", n)) })); got != 4+n {
			t.Errorf("a text of %d has %d bytes", n, got)
		}
	}
	for _, n := range []int{0, 1, 255, 256, 512} {
		if got := len(laid(func(p *flat.Pen) { p.Stamps(make([]api.Stamp, n)) })); got != 8+16*n {
			t.Errorf("a list of %d has %d bytes", n, got)
		}
	}
	if !bytes.Equal(laid(func(p *flat.Pen) { p.Int(5, 6) }), laid(func(p *flat.Pen) { p.Stamp(at(5, 6)) })) {
		t.Error("a stamp is not its Time and its Node as numbers")
	}
}
