package tally_test

import (
	"slices"
	"testing"

	"folkmoot/api"
	"folkmoot/tally"
)

// roomy is a list that has these elements, and spare ones behind them.
func roomy(l []int, spare ...int) []int { return append(slices.Clone(l), spare...)[:len(l)] }

// whole is a list, and its spare room.
func whole(l []int) []int { return l[:cap(l)] }

// spoil writes into a list, and its spare room.
func spoil(l []int) {
	for i := range whole(l) {
		whole(l)[i] = 7
	}
}

// useAll makes each call of a tally.
func useAll(x *tally.Tally) {
	for _, n := range strange(first(api.MaxNode)...) {
		x.Add(n)
		x.Has(n)
		spoil(x.Nodes())
		spoil(x.Waiting())
		x.Quorum()
		x.All()
		x.Each()
	}
}

// Rule 3: what is handed in is not changed, its spare room neither.
func TestWhatIsHandedInStays(t *testing.T) {
	nodes, places := roomy([]int{1, 3, 5}, 6, 7), roomy([]int{2, 0, -1, 2, 9}, 1, 4)
	l := append(four(), shard("spare", "tire", 7))[:4]
	l[2].Nodes = nodes
	oldNodes, oldPlaces := slices.Clone(whole(nodes)), slices.Clone(whole(places))

	useAll(tally.New(l, places...))
	useAll(tally.New(l))

	if !slices.Equal(whole(nodes), oldNodes) {
		t.Errorf("a shard's nodes: are %d, were %d", whole(nodes), oldNodes)
	}
	if !slices.Equal(whole(places), oldPlaces) {
		t.Errorf("the places: are %d, were %d", whole(places), oldPlaces)
	}
	want := append(four(), shard("spare", "tire", 7))
	want[2].Nodes = []int{1, 3, 5}
	if !slices.EqualFunc(l[:5], want, func(a, b api.Shard) bool { return a.Span == b.Span && slices.Equal(a.Nodes, b.Nodes) }) {
		t.Errorf("the topology: is %v, was %v", l[:5], want)
	}
}

// Rule 3: places are not kept.
func TestPlacesAreNotKept(t *testing.T) {
	places := []int{0, 1}
	x := tally.New(two(), places...)
	places[0], places[1] = 1, -1
	wantWho(t, "the places are other ones now", x, nil, []int{1, 2, 3, 4, 5})
	wantAdd(t, "the places are other ones now", x, 1, true)
	x.Add(4)
	x.Add(5)
	wantTruths(t, "the places are other ones now", x, truths{each: true})
	wantWho(t, "the places are other ones now", x, []int{1, 4, 5}, []int{2, 3})
}

// Rule 3: answers share nothing with the tally, nor with one another.
func TestAnswersLieApart(t *testing.T) {
	x := answered(two(), []int{0, 1}, 5, 2, 4)
	nodes, waiting := []int{2, 4, 5}, []int{1, 3}
	calls := []func() []int{x.Nodes, x.Waiting}
	wants := [][]int{nodes, waiting}
	for i, call := range calls {
		for j, next := range calls {
			first, second := call(), next()
			spoil(first)
			if !slices.Equal(second, wants[j]) {
				t.Errorf("%d changes %d: is %d, was %d", i, j, second, wants[j])
			}
			wantWho(t, "an answer was written over", x, nodes, waiting)
			wantTruths(t, "an answer was written over", x, truths{each: true})
		}
	}
}

// Rule 3: an answer stays as it was told, whatever comes behind it.
func TestAnswersStay(t *testing.T) {
	x := answered(two(), []int{0, 1}, 4)
	nodes, waiting := x.Nodes(), x.Waiting()
	for _, n := range first(api.MaxNode) {
		x.Add(n)
	}
	if !slices.Equal(nodes, []int{4}) || !slices.Equal(waiting, []int{1, 2, 3, 5}) {
		t.Errorf("Nodes are %d, Waiting %d", nodes, waiting)
	}
	wantWho(t, "all", x, []int{1, 2, 3, 4, 5}, nil)
}

// Rule 4: a tally hangs on the calls on it alone.
func TestTalliesLieApart(t *testing.T) {
	l := two()
	x, y := tally.New(l, 0, 1), tally.New(l, 0, 1)
	useAll(x)
	wantTruths(t, "the one", x, truths{true, true, true})
	wantTruths(t, "the other one", y, truths{})
	wantWho(t, "the other one", y, nil, []int{1, 2, 3, 4, 5})
}
