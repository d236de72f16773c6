package span_test

import (
	"slices"
	"strings"
	"testing"

	"folkmoot/api"
	"folkmoot/span"
)

// A pool is rising texts, the first of them "". Spans between them hold all texts from one of
// them up to the next one, or none: so a set is told by which of the pool's texts are in it, a bit for each.
type pool []string

func pools() []pool {
	far := strings.Repeat("x", 2*api.MaxKey)
	return []pool{
		{"", "\x00", "a", "a\x00", "b", "\xff"},
		{"", "b", "b\x00", "b\x00\x00", "ba", "c"},
		{"", "a", "x", far[1:], far, far + "\x00"},
	}
}

// span is the span from one text of the pool up to another one; or to no end, behind the last one.
func (p pool) span(from, to int) api.Span {
	if to == len(p) {
		return api.Span{From: p[from]}
	}
	return api.Span{From: p[from], To: p[to]}
}

// bits tells which texts of the pool are not below From, and below To, of one of the spans.
func (p pool) bits(l ...api.Span) int {
	bits := 0
	for i, text := range p {
		for _, s := range l {
			if text >= s.From && (s.To == "" || text < s.To) {
				bits |= 1 << i
			}
		}
	}
	return bits
}

// set is the only set of which these texts of the pool are, and no others.
func (p pool) set(bits int) []api.Span {
	var l []api.Span
	for from := 0; from < len(p); from++ {
		if bits>>from&1 == 0 {
			continue
		}
		to := from
		for bits>>to&1 == 1 {
			to++
		}
		l = append(l, p.span(from, to))
		from = to
	}
	return l
}

// spans is all spans between texts of the pool, empty ones too.
func (p pool) spans() []api.Span {
	var l []api.Span
	for from := range p {
		for to := 1; to <= len(p); to++ {
			l = append(l, p.span(from, to))
		}
	}
	return l
}

// P3.3, P3.6: all lists of three spans, in each order.
func TestUnionIsWhatItIsForEachText(t *testing.T) {
	for _, p := range pools() {
		all := p.spans()
		for _, a := range all {
			for _, b := range all {
				for _, c := range all {
					want := p.set(p.bits(a, b, c))
					if got := span.Union(a, b, c); !slices.Equal(got, want) {
						t.Fatalf("Union(%q, %q, %q): %q, want %q", a, b, c, got, want)
					}
				}
			}
		}
	}
}

// P3.4, P3.5, P3.6: all pairs of sets.
func TestCutAndLessAreWhatTheyAreForEachText(t *testing.T) {
	for _, p := range pools() {
		for i := range 1 << len(p) {
			for j := range 1 << len(p) {
				a, b := p.set(i), p.set(j)
				wantSpans(t, "Cut", span.Cut(a, b), p.set(i&j))
				wantSpans(t, "Less", span.Less(a, b), p.set(i&^j))
				wantSpans(t, "Union", span.Union(append(a, b...)...), p.set(i|j))
				if got := span.Meet(a, b); got != (i&j != 0) {
					t.Errorf("Meet(%q, %q): %v", a, b, got)
				}
			}
		}
	}
}

// P3.5, P3.6
func TestHasIsWhatItIsForEachText(t *testing.T) {
	for _, p := range pools() {
		for bits := range 1 << len(p) {
			set := p.set(bits)
			for i, k := range p {
				if got := span.Has(set, k); got != (bits>>i&1 == 1) {
					t.Errorf("Has(%q, %q): %v", set, k, got)
				}
			}
		}
	}
}

// dice answers numbers from 0 on and below n, the same ones in every run.
func dice(seed uint64) func(n int) int {
	return func(n int) int {
		seed = seed*6364136223846793005 + 1442695040888963407
		return int(seed >> 33 % uint64(n))
	}
}

// anyText is a text of few bytes, or of many.
func anyText(dice func(int) int) string {
	b := make([]byte, dice(4))
	for i := range b {
		b[i] = "\x00ab\x7f\x80\xff"[dice(6)]
	}
	return string(b) + strings.Repeat("a", dice(2)*dice(2)*dice(30))
}

// anySpans is up to n spans, some of which are empty.
func anySpans(dice func(int) int, n int) []api.Span {
	var l []api.Span
	for range dice(n + 1) {
		l = append(l, api.Span{From: anyText(dice), To: anyText(dice)})
	}
	return l
}

// in tells whether a text is in one of the spans.
func in(l []api.Span, text string) bool {
	return slices.ContainsFunc(l, func(s api.Span) bool { return text >= s.From && (s.To == "" || text < s.To) })
}

// isSet tells whether the spans are by rising From, apart, and none of them empty.
func isSet(l []api.Span) bool {
	for i, s := range l {
		if s.To != "" && s.To <= s.From || i > 0 && (l[i-1].To == "" || l[i-1].To >= s.From) {
			return false
		}
	}
	return true
}

// P3.3, P3.4, P3.5, P3.6: of any spans.
func TestSetsOfAnySpans(t *testing.T) {
	dice := dice(3)
	for range 3000 {
		l, m := anySpans(dice, 12), anySpans(dice, 12)
		a, b := span.Union(l...), span.Union(m...)
		both, less, either := span.Cut(a, b), span.Less(a, b), span.Union(append(slices.Clone(l), m...)...)
		for _, set := range [][]api.Span{a, b, both, less, either} {
			if !isSet(set) {
				t.Fatalf("of %q and %q: %q is no set", l, m, set)
			}
		}
		for range 30 {
			k := anyText(dice)
			inL, inM := in(l, k), in(m, k)
			if span.Has(a, k) != inL || span.Has(b, k) != inM || in(a, k) != inL || in(b, k) != inM {
				t.Fatalf("%q in %q, and in %q", k, l, m)
			}
			if in(both, k) != (inL && inM) || in(less, k) != (inL && !inM) || in(either, k) != (inL || inM) {
				t.Fatalf("%q: Cut, Less or Union of %q and %q", k, a, b)
			}
		}
		if span.Meet(a, b) != (len(both) > 0) {
			t.Fatalf("Meet(%q, %q)", a, b)
		}
	}
}

// P3.6
func TestUnionIsTheSameInAnyOrder(t *testing.T) {
	dice := dice(5)
	for range 500 {
		l := anySpans(dice, 20)
		l = append(l, l[:len(l)/2]...)
		want := span.Union(l...)
		for range 5 {
			for i := range l {
				j := i + dice(len(l)-i)
				l[i], l[j] = l[j], l[i]
			}
			wantSpans(t, "in another order", span.Union(l...), want)
		}
		wantSpans(t, "the union of a union", span.Union(want...), want)
	}
}

// P3.3, P3.4: where nothing is checked, there may be more than MaxSpans spans.
func TestManySpans(t *testing.T) {
	var points, gaps []api.Span
	for i := range 20 * api.MaxSpans {
		k := string([]byte{byte(i >> 8), byte(i)})
		points = append(points, span.Point(k))
		gaps = append(gaps, api.Span{From: k + "\x00"})
		if i > 0 {
			gaps[i-1].To = k
		}
	}
	gaps = slices.Insert(gaps, 0, api.Span{To: points[0].From})
	turned := slices.Clone(points)
	slices.Reverse(turned)
	wantSpans(t, "Union", span.Union(turned...), points)
	wantSpans(t, "all less the points", span.Less(of("", ""), points), gaps)
	wantSpans(t, "all less the gaps", span.Less(of("", ""), gaps), points)
	wantSpans(t, "the points less the gaps", span.Less(points, gaps), points)
	wantSpans(t, "points and gaps", span.Union(append(turned, gaps...)...), of("", ""))
	wantSpans(t, "points in gaps", span.Cut(points, gaps), nil)
	wantSpans(t, "points in all", span.Cut(points, of("", "")), points)
	if span.Meet(points, gaps) || !span.Meet(points, points[len(points)-1:]) {
		t.Error("Meet")
	}
}

// roomy is the same list with spare room behind it, and the array on which both lie.
func roomy(l []api.Span) (list, whole []api.Span) {
	whole = append(slices.Clone(l), of("spare", "tire", "room", "s")...)
	return whole[:len(l)], whole
}

// P3.1, P3.3, P3.4, P3.5, rule 3: what is handed in is not changed, its spare room neither, and not kept.
func TestWhatIsHandedInStaysAsItWas(t *testing.T) {
	lists := [][]api.Span{
		nil, of("a", "c"), of("", ""), of("b", "d", "x", "x", "a", "c", "d", "e", "z", ""), of("a", "b", "c", "d", "e", "f"),
	}
	for _, l := range lists {
		for _, m := range lists {
			a, wholeA := roomy(l)
			b, wholeB := roomy(m)
			oldA, oldB := slices.Clone(wholeA), slices.Clone(wholeB)
			answers := [][]api.Span{span.Union(a...), span.Cut(a, b), span.Less(a, b), span.Union(a...), span.Cut(a, b), span.Less(a, b)}
			span.Check(a...)
			span.Has(a, "b")
			span.Meet(a, b)
			wantSpans(t, "what was handed in", wholeA, oldA)
			wantSpans(t, "what was handed in", wholeB, oldB)
			wantApart(t, answers)
			wantSpans(t, "what shares with an answer", wholeA, oldA)
			wantSpans(t, "what shares with an answer", wholeB, oldB)
		}
	}
}

// wantApart writes into each answer, and its spare room, and asks whether another one is changed by it.
func wantApart(t *testing.T, answers [][]api.Span) {
	t.Helper()
	var old [][]api.Span
	for _, l := range answers {
		old = append(old, slices.Clone(l[:cap(l)]))
	}
	for i, l := range answers {
		l = l[:cap(l)]
		for j := range l {
			l[j] = api.Span{From: "mine"}
		}
		for j := i + 1; j < len(answers); j++ {
			wantSpans(t, "an answer beside another one", answers[j][:cap(answers[j])], old[j])
		}
	}
}

// Rule 1: of what is no set nothing is said, but that the calls end, and do not panic.
func TestWhatIsNoSetIsAnswered(t *testing.T) {
	dice := dice(9)
	for range 3000 {
		a, b, k := anySpans(dice, 8), anySpans(dice, 8), anyText(dice)
		wantSpans(t, "Cut again", span.Cut(a, b), span.Cut(a, b))
		wantSpans(t, "Less again", span.Less(a, b), span.Less(a, b))
		has := span.Has(a, k)
		if span.Meet(a, b) != (len(span.Cut(a, b)) > 0) || span.Has(a, k) != has {
			t.Errorf("Meet or Has of %q and %q", a, b)
		}
	}
}
