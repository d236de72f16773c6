package span_test

import (
	"slices"
	"strings"
	"testing"

	"folkmoot/api"
	"folkmoot/span"
)

// of is spans of pairs of texts.
func of(edges ...string) []api.Span {
	var l []api.Span
	for i := 0; i < len(edges); i += 2 {
		l = append(l, api.Span{From: edges[i], To: edges[i+1]})
	}
	return l
}

func wantSpans(t *testing.T, what string, got, want []api.Span) {
	t.Helper()
	if !slices.Equal(got, want) {
		t.Errorf("%s: got %q, want %q", what, got, want)
	}
}

func long(n int) string { return strings.Repeat("k", n) }

// P3.1
func TestKeyHasOneToMaxKeyBytes(t *testing.T) {
	keys := []string{
		"k", "\x00", "\xff", " ", "ab", long(api.MaxKey - 1), long(api.MaxKey),
		strings.Repeat("\x00", api.MaxKey), strings.Repeat("ö", api.MaxKey/2),
	}
	for _, k := range keys {
		if err := span.Key(k); err != api.OK {
			t.Errorf("Key(%q): %d", k, err)
		}
	}
	wrong := []string{
		"", long(api.MaxKey + 1), long(api.MaxKey + 2), long(1000),
		strings.Repeat("\x00", api.MaxKey+1), strings.Repeat("ö", api.MaxKey/2+1),
	}
	for _, k := range wrong {
		if err := span.Key(k); err != api.ErrSpan {
			t.Errorf("Key(%q): %d, want ErrSpan", k, err)
		}
	}
}

// P3.1
func TestCheckTakesSpansThatMayBe(t *testing.T) {
	edge := long(api.MaxKey + 1)
	spans := of(
		"a", "b", "a", "a\x00", "a", "aa", "", "\x00", "", "a", "", "", "z", "", "\xff", "",
		"", edge, "a", edge, edge, "l", edge, "", edge[1:]+"j", edge,
		strings.Repeat("\xff", api.MaxKey+1), "",
	)
	for _, s := range spans {
		if err := span.Check(s); err != api.OK {
			t.Errorf("Check(%q): %d", s, err)
		}
	}
	if err := span.Check(spans...); err != api.OK {
		t.Errorf("all of them: %d", err)
	}
	if err := span.Check(of("b", "d", "a", "c", "a", "c", "d", "e", "", "")...); err != api.OK {
		t.Errorf("spans that are no set: %d", err)
	}
}

// P3.1
func TestCheckRefusesSpansThatMayNotBe(t *testing.T) {
	edge, more := long(api.MaxKey+1), long(api.MaxKey+2)
	wrong := of(
		"b", "a", "a", "a", "a\x00", "a", "\x00", "\x00", "\xff", "a", edge, edge, edge, "a",
		more, "", more, "l", "", more, "a", more, more, more, more, more+"k", long(1000), "", "", long(1000),
	)
	for _, s := range wrong {
		if err := span.Check(s); err != api.ErrSpan {
			t.Errorf("Check(%q): %d, want ErrSpan", s, err)
		}
		for place := range 3 {
			l := slices.Insert(of("a", "b", "c", ""), place, s)
			if err := span.Check(l...); err != api.ErrSpan {
				t.Errorf("Check(%q): %d, want ErrSpan", l, err)
			}
		}
	}
}

// P3.1
func TestCheckTakesMaxSpans(t *testing.T) {
	if err := span.Check(); err != api.OK {
		t.Errorf("no spans: %d", err)
	}
	if err := span.Check([]api.Span{}...); err != api.OK {
		t.Errorf("an empty list: %d", err)
	}
	good, wrong := of("a", "b")[0], of("b", "a")[0]
	for _, n := range []int{1, api.MaxSpans - 1, api.MaxSpans, api.MaxSpans + 1, 1000} {
		want, wantWrong := api.OK, api.ErrSpan
		if n > api.MaxSpans {
			want, wantWrong = api.ErrMany, api.ErrMany
		}
		l := slices.Repeat([]api.Span{good}, n)
		if err := span.Check(l...); err != want {
			t.Errorf("%d spans: %d, want %d", n, err, want)
		}
		for _, place := range []int{0, n - 1} {
			l[place] = wrong
			if err := span.Check(l...); err != wantWrong {
				t.Errorf("%d spans, of which %d may not be: %d, want %d", n, place, err, wantWrong)
			}
			l[place] = good
		}
	}
}

// P3.2
func TestPointIsTheSpanOfAKeyAlone(t *testing.T) {
	keys := []string{"", "a", "b", "\x00", "a\x00", "\xff", "ö", long(api.MaxKey), long(api.MaxKey + 1), long(1000)}
	for _, k := range keys {
		want := api.Span{From: k, To: k + "\x00"}
		if got := span.Point(k); got != want {
			t.Errorf("Point(%q): %q, want %q", k, got, want)
		}
		set := span.Union(span.Point(k))
		for _, other := range append(keys, k+"\x00", k+"a", "a\x00\x00", "aa") {
			if got := span.Has(set, other); got != (other == k) {
				t.Errorf("%q in the point of %q: %v", other, k, got)
			}
		}
	}
	if err := span.Check(span.Point(long(api.MaxKey))); err != api.OK {
		t.Errorf("the point of the longest key: %d", err)
	}
	if err := span.Check(span.Point(long(api.MaxKey + 1))); err != api.ErrSpan {
		t.Errorf("the point of a longer text: %d, want ErrSpan", err)
	}
}

// P3.3
func TestUnionIsASet(t *testing.T) {
	far := long(40)
	cases := []struct {
		what    string
		l, want []api.Span
	}{
		{"none", nil, nil},
		{"an empty list", []api.Span{}, nil},
		{"one", of("a", "b"), of("a", "b")},
		{"all", of("", ""), of("", "")},
		{"empty ones", of("a", "a", "b", "a", "\x00", "\x00"), nil},
		{"an empty one within another", of("a", "c", "b", "b"), of("a", "c")},
		{"an empty one between two", of("a", "b", "c", "b", "c", "d"), of("a", "b", "c", "d")},
		{"an empty one that ends at one's front", of("a", "b", "c", "a"), of("a", "b")},
		{"an empty one at the front of a gap", of("a", "b", "b", "b", "c", "d"), of("a", "b", "c", "d")},
		{"two that touch", of("a", "b", "b", "c"), of("a", "c")},
		{"two that touch, the other way round", of("b", "c", "a", "b"), of("a", "c")},
		{"two with one text between them", of("a", "b", "b\x00", "c"), of("a", "b", "b\x00", "c")},
		{"the text between them too", of("a", "b", "b\x00", "c", "b", "b\x00"), of("a", "c")},
		{"two that meet", of("a", "c", "b", "d"), of("a", "d")},
		{"one in the other", of("a", "d", "b", "c"), of("a", "d")},
		{"one in the other, with one front", of("a", "b", "a", "d"), of("a", "d")},
		{"one in the other, with one end", of("a", "d", "c", "d"), of("a", "d")},
		{"one behind two that lie one in the other", of("a", "d", "b", "c", "c\x00", "e"), of("a", "e")},
		{"one twice", of("a", "b", "a", "b"), of("a", "b")},
		{"without an end", of("z", ""), of("z", "")},
		{"one that touches what has no end", of("y", "z", "z", ""), of("y", "")},
		{"one in what has no end", of("a", "", "b", "c"), of("a", "")},
		{"two without an end", of("b", "", "a", ""), of("a", "")},
		{"one that comes to have no end", of("a", "c", "b", ""), of("a", "")},
		{"one ahead of what has no end", of("x", "", "a", "b"), of("a", "b", "x", "")},
		{"the first text", of("", "\x00"), of("", "\x00")},
		{"from the first text on", of("", "a", "a", ""), of("", "")},
		{"all, and others", of("c", "d", "", "", "a", "b"), of("", "")},
		{"bytes above 127", of("\x7f", "\x80", "\xff", "", "\x80", "\xfe"), of("\x7f", "\xfe", "\xff", "")},
		{"long ones", of(far, far+"\x00", far+"\x00", far+"a", "a", long(20)), of("a", long(20), far, far+"a")},
		{"the chapter's", of("a", "c", "b", "d", "d", "e"), of("a", "e")},
	}
	for _, c := range cases {
		wantSpans(t, c.what, span.Union(c.l...), c.want)
	}
}

// P3.4
func TestCutIsWhatIsInBoth(t *testing.T) {
	far := long(40)
	cases := []struct {
		what       string
		a, b, want []api.Span
	}{
		{"none", nil, nil, nil},
		{"an empty list", []api.Span{}, of("", ""), nil},
		{"all and all", of("", ""), of("", ""), of("", "")},
		{"all and one", of("", ""), of("a", "b"), of("a", "b")},
		{"apart", of("a", "b"), of("c", "d"), nil},
		{"they touch", of("a", "b"), of("b", "c"), nil},
		{"they meet", of("a", "c"), of("b", "d"), of("b", "c")},
		{"one in the other", of("a", "d"), of("b", "c"), of("b", "c")},
		{"the same", of("a", "b", "c", "d"), of("a", "b", "c", "d"), of("a", "b", "c", "d")},
		{"without an end", of("a", ""), of("b", ""), of("b", "")},
		{"one without an end", of("a", ""), of("", "b"), of("a", "b")},
		{"one without an end, that touches", of("b", ""), of("a", "b"), nil},
		{"many in one", of("a", "b", "c", "d", "e", ""), of("", "x"), of("a", "b", "c", "d", "e", "x")},
		{"one across a gap", of("a", "c", "d", "f"), of("b", "e"), of("b", "c", "d", "e")},
		{"one in a gap", of("a", "b", "e", "f"), of("c", "d"), nil},
		{"one text", of("a", "b\x00"), of("b", "c"), of("b", "b\x00")},
		{"the first text", of("", "\x00"), of("", ""), of("", "\x00")},
		{"long ones", of("a", far), of(long(20), ""), of(long(20), far)},
	}
	for _, c := range cases {
		wantSpans(t, c.what, span.Cut(c.a, c.b), c.want)
		wantSpans(t, c.what+", the other way round", span.Cut(c.b, c.a), c.want)
	}
}

// P3.4
func TestLessIsWhatIsNotInTheOther(t *testing.T) {
	far := long(40)
	cases := []struct {
		what       string
		a, b, want []api.Span
	}{
		{"none", nil, nil, nil},
		{"none less all", []api.Span{}, of("", ""), nil},
		{"one less none", of("a", "b"), nil, of("a", "b")},
		{"all less none", of("", ""), []api.Span{}, of("", "")},
		{"all less all", of("", ""), of("", ""), nil},
		{"all less one", of("", ""), of("a", "b"), of("", "a", "b", "")},
		{"all less what begins it", of("", ""), of("", "a"), of("a", "")},
		{"all less what has no end", of("", ""), of("a", ""), of("", "a")},
		{"all less the first text", of("", ""), of("", "\x00"), of("\x00", "")},
		{"the first text less all", of("", "\x00"), of("", ""), nil},
		{"one less all", of("a", "b"), of("", ""), nil},
		{"one less itself", of("a", "b"), of("a", "b"), nil},
		{"one less more", of("b", "c"), of("a", "d"), nil},
		{"one less what is ahead", of("b", "c"), of("a", "b"), of("b", "c")},
		{"one less what is behind", of("b", "c"), of("c", "d"), of("b", "c")},
		{"one less what meets its front", of("b", "d"), of("a", "c"), of("c", "d")},
		{"one less what meets its end", of("b", "d"), of("c", "e"), of("b", "c")},
		{"one less what lies in it", of("a", "d"), of("b", "c"), of("a", "b", "c", "d")},
		{"one less many", of("a", "z"), of("b", "c", "d", "e", "y", ""), of("a", "b", "c", "d", "e", "y")},
		{"many less one", of("a", "c", "d", "f", "g", ""), of("b", "h"), of("a", "b", "h", "")},
		{"many less what is in a gap", of("a", "b", "e", "f"), of("c", "d"), of("a", "b", "e", "f")},
		{"without an end less without an end", of("a", ""), of("b", ""), of("a", "b")},
		{"without an end less one", of("a", ""), of("b", "c"), of("a", "b", "c", "")},
		{"long ones", of("a", ""), of(far, far+"\x00"), of("a", far, far+"\x00", "")},
		{"the chapter's", of("a", "e"), []api.Span{span.Point("b")}, of("a", "b", "b\x00", "e")},
	}
	for _, c := range cases {
		wantSpans(t, c.what, span.Less(c.a, c.b), c.want)
	}
}

// P3.5
func TestHasTellsWhetherAKeyIsInTheSet(t *testing.T) {
	far := long(40)
	set := of("a", "c", "d", "d\x00", "f", far+"z", "z", "")
	for _, k := range []string{"a", "a\x00", "b", "b\xff", "d", "f", "g", far, far + "y\xff", "z", "zz", "\xff", strings.Repeat("\xff", 40)} {
		if !span.Has(set, k) {
			t.Errorf("%q is not in %q", k, set)
		}
	}
	set = of("a", "c", "d", "d\x00", far, far+"z")
	for _, k := range []string{"", "\x00", "A", "c", "c\x00", "cc", "d\x00", "da", "e", far[1:], far + "z", "\xff", "z"} {
		if span.Has(set, k) {
			t.Errorf("%q is in %q", k, set)
		}
	}
	if !span.Has(set, far) || !span.Has(set, far+"\x00") {
		t.Error("a long text is not in the set")
	}
	if !span.Has(of("", "a"), "") || !span.Has(of("", ""), "") || !span.Has(of("", ""), far) {
		t.Error("a text is not in what holds all")
	}
	if span.Has(nil, "") || span.Has(nil, "a") || span.Has([]api.Span{}, "a") {
		t.Error("a text is in an empty set")
	}
}

// P3.5
func TestMeetTellsWhetherSetsShareAText(t *testing.T) {
	cases := []struct {
		a, b []api.Span
		want bool
	}{
		{nil, nil, false}, {nil, of("", ""), false}, {of("", ""), of("", ""), true},
		{of("a", "b"), of("b", "c"), false}, {of("a", "b\x00"), of("b", "c"), true},
		{of("a", "b"), of("a", "b"), true}, {of("a", "d"), of("b", "c"), true},
		{of("a", "b", "c", "d", "e", "f"), of("b", "c", "d", "e", "f", ""), false},
		{of("a", "b", "c", "d", "e", "f"), of("b", "c", "d", "e", "ee", ""), true},
		{of("z", ""), of("", "z"), false}, {of("z", ""), of("", "z\x00"), true}, {of("y", ""), of("z", ""), true},
		{of("", "\x00"), of("", "\x00"), true}, {of("", "\x00"), of("\x00", ""), false},
		{of("a", long(40)), of(long(40), ""), false}, {of("a", long(40)), of(long(39), ""), true},
	}
	for _, c := range cases {
		if got := span.Meet(c.a, c.b); got != c.want {
			t.Errorf("Meet(%q, %q): %v", c.a, c.b, got)
		}
		if got := span.Meet(c.b, c.a); got != c.want {
			t.Errorf("Meet(%q, %q): %v", c.b, c.a, got)
		}
	}
}
