package topo_test

import (
	"math"
	"slices"
	"strings"
	"testing"

	"folkmoot/api"
	"folkmoot/topo"
)

func long(n int) string { return strings.Repeat("k", n) }

// shard is a shard of the keys from one text on and below another one.
func shard(from, to string, nodes ...int) api.Shard {
	return api.Shard{Span: api.Span{From: from, To: to}, Nodes: nodes}
}

// row is shards that lie one behind the other and part at these texts, the first of them of node 1 alone, the next one of 2, and so on.
func row(parts ...string) []api.Shard {
	var l []api.Shard
	from := ""
	for i, to := range append(slices.Clone(parts), "") {
		l = append(l, shard(from, to, 1+i%api.MaxNode))
		from = to
	}
	return l
}

// letters is the first n letters, a text each.
func letters(n int) []string { return strings.Split("abcdefghijklmnopqrstuvwxyz"[:n], "") }

func wantOK(t *testing.T, what string, l []api.Shard) {
	t.Helper()
	if err := topo.Check(l); err != api.OK {
		t.Errorf("%s: Check(%v): %d", what, l, err)
	}
}

func wantTopo(t *testing.T, what string, l []api.Shard) {
	t.Helper()
	if err := topo.Check(l); err != api.ErrTopo {
		t.Errorf("%s: Check(%v): %d, want ErrTopo", what, l, err)
	}
}

// P4.1
func TestCheckTakesOneToMaxShards(t *testing.T) {
	for n := 1; n <= api.MaxShards; n++ {
		wantOK(t, "a row", row(letters(n-1)...))
	}
	wantTopo(t, "nil", nil)
	wantTopo(t, "no shard", []api.Shard{})
	wantTopo(t, "one more", row(letters(api.MaxShards)...))
	wantTopo(t, "two more", row(letters(api.MaxShards+1)...))
	wantTopo(t, "many more", slices.Repeat(row(), 1000))
}

// P4.1
func TestCheckTakesSpansThatLieOneBehindTheOther(t *testing.T) {
	wantOK(t, "the chapter's", []api.Shard{shard("", "m", 1, 2, 3), shard("m", "", 3, 4, 5)})
	wantOK(t, "all in one", []api.Shard{shard("", "", 1)})
	wantOK(t, "the first text alone", row("\x00"))
	wantOK(t, "a text alone", row("a", "a\x00"))
	wantOK(t, "bytes above 127", row("\x7f", "\x80", "\xff", "\xff\xff"))
	wantOK(t, "MaxKey bytes", row(long(api.MaxKey-1), long(api.MaxKey)))
	wantOK(t, "MaxKey bytes", row(strings.Repeat("\x00", api.MaxKey), strings.Repeat("ö", api.MaxKey/2)))
}

// P4.1
func TestCheckRefusesSpansThatDoNot(t *testing.T) {
	more := long(api.MaxKey + 1)
	cases := []struct {
		what string
		l    []api.Shard
	}{
		{"the first one does not begin with no text", []api.Shard{shard("a", "", 1)}},
		{"nor does the first of two", []api.Shard{shard("\x00", "m", 1), shard("m", "", 1)}},
		{"the last one has an end", []api.Shard{shard("", "z", 1)}},
		{"so has the last of two", []api.Shard{shard("", "m", 1), shard("m", "z", 1)}},
		{"so has the last of two, at its front", []api.Shard{shard("", "m", 1), shard("m", "m", 1)}},
		{"a gap", []api.Shard{shard("", "m", 1), shard("n", "", 1)}},
		{"a gap of one text", []api.Shard{shard("", "m", 1), shard("m\x00", "", 1)}},
		{"a gap behind the second", []api.Shard{shard("", "b", 1), shard("b", "c", 1), shard("d", "", 1)}},
		{"two meet", []api.Shard{shard("", "n", 1), shard("m", "", 1)}},
		{"two meet in one text", []api.Shard{shard("", "m\x00", 1), shard("m", "", 1)}},
		{"two meet behind the first", []api.Shard{shard("", "b", 1), shard("b", "d", 1), shard("c", "", 1)}},
		{"without an end ahead of the last one", []api.Shard{shard("", "", 1), shard("", "", 2)}},
		{"without an end, and one that begins behind", []api.Shard{shard("", "", 1), shard("m", "", 2)}},
		{"without an end in the midst", []api.Shard{shard("", "m", 1), shard("m", "", 1), shard("", "", 2)}},
		{"an empty first one", []api.Shard{shard("", "", 1), shard("", "m", 1), shard("m", "", 1)}},
		{"an empty one", []api.Shard{shard("", "m", 1), shard("m", "m", 1), shard("m", "", 1)}},
		{"one that ends ahead of its front", []api.Shard{shard("", "m", 1), shard("m", "b", 1), shard("b", "", 1)}},
		{"the other way round", []api.Shard{shard("m", "", 1), shard("", "m", 1)}},
		{"MaxKey and one more bytes", []api.Shard{shard("", more, 1), shard(more, "", 1)}},
		{"so many behind the first", []api.Shard{shard("", "a", 1), shard("a", more, 1), shard(more, "", 1)}},
		{"many bytes", []api.Shard{shard("", long(1000), 1), shard(long(1000), "", 1)}},
		{"bytes, not runes", []api.Shard{shard("", strings.Repeat("ö", api.MaxKey), 1), shard(strings.Repeat("ö", api.MaxKey), "", 1)}},
	}
	for _, c := range cases {
		wantTopo(t, c.what, c.l)
	}
}

// holdsEach tells whether each of the texts is in just one of the shards' spans, and those ahead are in shards ahead;
// none of the spans is empty.
func holdsEach(l []api.Shard, texts []string) bool {
	ahead := 0
	for _, text := range texts {
		var in []int
		for i, s := range l {
			if text >= s.Span.From && (s.Span.To == "" || text < s.Span.To) {
				in = append(in, i)
			}
		}
		if len(in) != 1 || in[0] < ahead {
			return false
		}
		ahead = in[0]
	}
	full := func(s api.Shard) bool { return s.Span.To == "" || s.Span.To > s.Span.From }
	return len(l) > 0 && !slices.ContainsFunc(l, func(s api.Shard) bool { return !full(s) })
}

// P4.1, P4.5: all lists of up to three spans between a few texts.
func TestCheckTakesWhatHoldsEachTextOnce(t *testing.T) {
	texts := []string{"", "\x00", "a", "a\x00", "\xff"}
	var spans []api.Shard
	for _, from := range texts {
		for _, to := range texts {
			spans = append(spans, shard(from, to, 1))
		}
	}
	lists := [][]api.Shard{nil}
	good := 0
	for n := 0; n <= 3; n++ {
		var longer [][]api.Shard
		for _, l := range lists {
			want := api.ErrTopo
			if holdsEach(l, texts) {
				want = api.OK
				good++
			}
			if got := topo.Check(l); got != want {
				t.Fatalf("Check(%v): %d, want %d", l, got, want)
			}
			for _, s := range spans {
				longer = append(longer, append(slices.Clone(l), s))
			}
		}
		lists = longer
	}
	// One way to part them into one span, four texts to part them into two, six pairs to part them into three.
	if good != 1+4+6 {
		t.Errorf("%d lists may be", good)
	}
}

// P4.1
func TestCheckTakesOneToMaxReplicasNodes(t *testing.T) {
	taken := 0
	for bits := range 1 << api.MaxNode {
		var nodes []int
		for n := 1; n <= api.MaxNode; n++ {
			if bits>>(n-1)&1 == 1 {
				nodes = append(nodes, n)
			}
		}
		l := []api.Shard{shard("", "m", 4), shard("m", "", nodes...)}
		if len(nodes) >= 1 && len(nodes) <= api.MaxReplicas {
			wantOK(t, "nodes", l)
			taken++
		} else {
			wantTopo(t, "none, or too many", l)
		}
	}
	if taken != 7+21+35+35+21 {
		t.Errorf("%d lists of nodes were taken", taken)
	}
}

// P4.1
func TestCheckRefusesNodesThatMayNotBe(t *testing.T) {
	wrong := [][]int{
		nil, {}, {0}, {-1}, {api.MaxNode + 1}, {math.MaxInt}, {math.MinInt}, {0, 1}, {-1, 1, 2}, {1, api.MaxNode + 1}, {1, 2, math.MaxInt},
		{1, 1}, {2, 1}, {1, 2, 2}, {1, 1, 2}, {1, 3, 2}, {3, 1, 2}, {1, 2, 1}, {5, 4, 3, 2, 1}, {1, 2, 3, 4, 4}, {7, 7}, {2, 0}, {1, -1},
		{1, 2, 3, 4, 5, 6}, {2, 3, 4, 5, 6, 7}, {1, 2, 3, 4, 5, 6, 7}, {1, 1, 1, 1, 1, 1}, {0, 1, 2, 3, 4, 5}, {3, 4, 5, 6, 7, 8},
		slices.Repeat([]int{1}, 1000),
	}
	for _, nodes := range wrong {
		wantTopo(t, "alone", []api.Shard{shard("", "", nodes...)})
		for place := range api.MaxShards {
			l := row(letters(api.MaxShards - 1)...)
			l[place].Nodes = nodes
			wantTopo(t, "among others", l)
		}
	}
	for n := 1; n <= api.MaxNode; n++ {
		wantOK(t, "one node", []api.Shard{shard("", "", n)})
	}
}

// P4.1: one more than may be is refused at each place.
func TestCheckRefusesEachFaultAtEachPlace(t *testing.T) {
	parts := letters(api.MaxShards - 1)
	for place := range api.MaxShards {
		l := row(parts...)
		l[place].Span.From += "\x00"
		wantTopo(t, "another From", l)
		l = row(parts...)
		l[place].Span.To += "\x00"
		wantTopo(t, "another To", l)
		if place < len(parts) {
			longer := slices.Clone(parts)
			longer[place] += strings.Repeat("z", api.MaxKey-1)
			wantOK(t, "a part of MaxKey bytes", row(longer...))
			longer[place] += "z"
			wantTopo(t, "a part of one more", row(longer...))
			twice := append([]string{""}, parts...)
			twice[place+1] = twice[place]
			wantTopo(t, "a part twice", row(twice[1:]...))
		}
	}
}
