package stamp_test

import (
	"math"
	"slices"
	"testing"

	"folkmoot/api"
	"folkmoot/stamp"
)

func at(time int64, node int) api.Stamp { return api.Stamp{Time: time, Node: node} }

var none api.Stamp

// edges are stamps that may be and that may not, rising.
func edges() []api.Stamp {
	var l []api.Stamp
	for _, time := range []int64{math.MinInt64, -1, 0, 1, 2, api.MaxTime - 1, api.MaxTime, api.MaxTime + 1, math.MaxInt64} {
		for _, node := range []int{math.MinInt, -1, 0, 1, 2, api.MaxNode, api.MaxNode + 1, math.MaxInt} {
			l = append(l, at(time, node))
		}
	}
	return l
}

// roomy is a list with spare room behind it, and the array on which both lie.
func roomy(l ...api.Stamp) (list, whole []api.Stamp) {
	whole = append(append([]api.Stamp(nil), l...), at(-77, -77), at(-78, -78), at(-79, -79))
	return whole[:len(l)], whole
}

func wantList(t *testing.T, what string, got []api.Stamp, want ...api.Stamp) {
	t.Helper()
	if !slices.Equal(got, want) {
		t.Errorf("%s: got %v, want %v", what, got, want)
	}
}

// P1.1
func TestCheckTakesStampsThatMayBe(t *testing.T) {
	for _, time := range []int64{1, 2, 1000, api.MaxTime - 1, api.MaxTime} {
		for node := 1; node <= api.MaxNode; node++ {
			if err := stamp.Check(at(time, node)); err != api.OK {
				t.Errorf("Check(%d, %d): %d", time, node, err)
			}
		}
	}
}

// P1.1
func TestCheckRefusesStampsThatMayNotBe(t *testing.T) {
	bad := []api.Stamp{
		none, at(0, 1), at(1, 0), at(-1, 1), at(1, -1), at(-5, -5),
		at(api.MaxTime+1, 1), at(1, api.MaxNode+1), at(api.MaxTime+1, api.MaxNode+1),
		at(math.MaxInt64, 1), at(math.MinInt64, 1), at(1, math.MaxInt), at(1, math.MinInt),
	}
	for _, s := range bad {
		if err := stamp.Check(s); err != api.ErrStamp {
			t.Errorf("Check(%v): %d, want ErrStamp", s, err)
		}
	}
}

// P1.2
func TestCompareIsByTimeThenByNode(t *testing.T) {
	l := edges()
	for i, a := range l {
		for j, b := range l {
			want := 0
			if i < j {
				want = -1
			} else if i > j {
				want = 1
			}
			if got := stamp.Compare(a, b); got != want {
				t.Errorf("Compare(%v, %v): %d, want %d", a, b, got, want)
			}
		}
	}
}

// P1.3
func TestMaxIsTheGreatest(t *testing.T) {
	cases := []struct {
		l    []api.Stamp
		want api.Stamp
	}{
		{nil, none},
		{[]api.Stamp{}, none},
		{[]api.Stamp{none}, none},
		{[]api.Stamp{at(5, 1)}, at(5, 1)},
		{[]api.Stamp{at(5, 1), at(5, 3), at(5, 2)}, at(5, 3)},
		{[]api.Stamp{at(6, 1), at(5, 7)}, at(6, 1)},
		{[]api.Stamp{at(1, 1), at(2, 1), none, at(2, 1)}, at(2, 1)},
		{[]api.Stamp{at(-3, 1), at(-2, 9)}, at(-2, 9)},
		{[]api.Stamp{at(0, -1), at(0, -2)}, at(0, -1)},
		{edges(), at(math.MaxInt64, math.MaxInt)},
	}
	for _, c := range cases {
		if got := stamp.Max(c.l...); got != c.want {
			t.Errorf("Max(%v): %v, want %v", c.l, got, c.want)
		}
	}
	if got := stamp.Max(); got != none {
		t.Errorf("Max(): %v", got)
	}
}

// P1.4
func TestAfterIsOneTimeBehindTheGreatest(t *testing.T) {
	cases := []struct {
		node int
		l    []api.Stamp
		want api.Stamp
	}{
		{2, nil, at(1, 2)},
		{api.MaxNode, []api.Stamp{}, at(1, api.MaxNode)},
		{2, []api.Stamp{none}, at(1, 2)},
		{2, []api.Stamp{none, none, at(3, 1)}, at(4, 2)},
		{2, []api.Stamp{at(5, 3)}, at(6, 2)},
		{3, []api.Stamp{at(5, 2)}, at(6, 3)},
		{3, []api.Stamp{at(5, 3)}, at(6, 3)},
		{1, []api.Stamp{at(2, 1), at(9, 1), at(9, 7), at(4, 2)}, at(10, 1)},
		{7, []api.Stamp{at(api.MaxTime-1, 7)}, at(api.MaxTime, 7)},
	}
	for _, c := range cases {
		if got, err := stamp.After(c.node, c.l...); got != c.want || err != api.OK {
			t.Errorf("After(%d, %v): %v, %d, want %v", c.node, c.l, got, err, c.want)
		}
	}
}

// P1.4
func TestAfterNamesTheFirstError(t *testing.T) {
	last := at(api.MaxTime, 1)
	wrong := at(3, api.MaxNode+1)
	cases := []struct {
		node int
		l    []api.Stamp
		want api.Errno
	}{
		{0, nil, api.ErrArg},
		{-1, nil, api.ErrArg},
		{api.MaxNode + 1, nil, api.ErrArg},
		{math.MaxInt, nil, api.ErrArg},
		{math.MinInt, nil, api.ErrArg},
		{0, []api.Stamp{wrong}, api.ErrArg},
		{0, []api.Stamp{last}, api.ErrArg},
		{1, []api.Stamp{wrong}, api.ErrStamp},
		{1, []api.Stamp{at(0, 1)}, api.ErrStamp},
		{1, []api.Stamp{at(1, 0)}, api.ErrStamp},
		{1, []api.Stamp{at(-1, 1)}, api.ErrStamp},
		{1, []api.Stamp{at(api.MaxTime+1, 1)}, api.ErrStamp},
		{1, []api.Stamp{at(math.MaxInt64, 1)}, api.ErrStamp},
		{1, []api.Stamp{last, at(4, 1), wrong}, api.ErrStamp},
		{1, []api.Stamp{wrong, last}, api.ErrStamp},
		{1, []api.Stamp{last}, api.ErrOver},
		{7, []api.Stamp{at(4, 1), last, at(5, 1)}, api.ErrOver},
	}
	for _, c := range cases {
		if got, err := stamp.After(c.node, c.l...); got != none || err != c.want {
			t.Errorf("After(%d, %v): %v, %d, want error %d", c.node, c.l, got, err, c.want)
		}
	}
}

// P1.5
func TestSortIsRisingEachOnce(t *testing.T) {
	wantList(t, "nothing", stamp.Sort())
	wantList(t, "an empty list", stamp.Sort([]api.Stamp{}...))
	wantList(t, "one", stamp.Sort(at(3, 1)), at(3, 1))
	wantList(t, "zeros", stamp.Sort(none, none), none)
	wantList(t, "some", stamp.Sort(at(3, 1), at(1, 2), at(3, 1), at(1, 1), at(1, 2), at(3, 1)), at(1, 1), at(1, 2), at(3, 1))
	wantList(t, "rising ones", stamp.Sort(at(1, 1), at(1, 2), at(2, 1)), at(1, 1), at(1, 2), at(2, 1))
	wantList(t, "such as may not be", stamp.Sort(at(2, 1), at(-2, 9), none, at(0, -1)), at(-2, 9), at(0, -1), none, at(2, 1))
	falling := edges()
	slices.Reverse(falling)
	wantList(t, "the edges", stamp.Sort(append(falling, falling...)...), edges()...)
}

// P1.5
func TestHasFindsWhatIsInTheList(t *testing.T) {
	l := []api.Stamp{at(1, 2), at(3, 1), at(3, 4), at(9, 1)}
	for _, s := range l {
		if !stamp.Has(l, s) {
			t.Errorf("Has not %v", s)
		}
	}
	for _, s := range []api.Stamp{none, at(1, 1), at(2, 2), at(3, 2), at(3, 5), at(9, 2), at(10, 1), at(-1, 1)} {
		if stamp.Has(l, s) {
			t.Errorf("Has %v", s)
		}
	}
	if stamp.Has(nil, none) || stamp.Has([]api.Stamp{}, at(1, 1)) {
		t.Error("an empty list has something")
	}
	if !stamp.Has([]api.Stamp{none}, none) {
		t.Error("the zero stamp is not found")
	}
}

// P1.5
func TestMergeIsAllThatAreInOneOfThem(t *testing.T) {
	a := []api.Stamp{at(1, 1), at(3, 1), at(5, 1)}
	b := []api.Stamp{at(1, 2), at(3, 1), at(6, 1)}
	c := []api.Stamp{at(1, 1), at(2, 7)}
	wantList(t, "nothing", stamp.Merge())
	wantList(t, "nil", stamp.Merge(nil))
	wantList(t, "nils", stamp.Merge(nil, []api.Stamp{}, nil))
	wantList(t, "one", stamp.Merge(a), a...)
	wantList(t, "twice", stamp.Merge(a, a), a...)
	wantList(t, "one and nil", stamp.Merge(nil, a, nil), a...)
	wantList(t, "two", stamp.Merge(a, b), at(1, 1), at(1, 2), at(3, 1), at(5, 1), at(6, 1))
	wantList(t, "three", stamp.Merge(b, c, a), at(1, 1), at(1, 2), at(2, 7), at(3, 1), at(5, 1), at(6, 1))
}

// P1.5
func TestBelowIsThoseThatAreLess(t *testing.T) {
	l := []api.Stamp{at(1, 2), at(3, 1), at(3, 4), at(9, 1)}
	wantList(t, "below nothing", stamp.Below(l, none))
	wantList(t, "below the first", stamp.Below(l, at(1, 2)))
	wantList(t, "behind the first", stamp.Below(l, at(1, 3)), l[:1]...)
	wantList(t, "below one of them", stamp.Below(l, at(3, 4)), l[:2]...)
	wantList(t, "between", stamp.Below(l, at(3, 5)), l[:3]...)
	wantList(t, "below the last", stamp.Below(l, at(9, 1)), l[:3]...)
	wantList(t, "behind all", stamp.Below(l, at(9, 2)), l...)
	wantList(t, "no list", stamp.Below(nil, at(9, 2)))
}

// Rule 3, of P1.5: what is handed in is not changed, its spare room neither.
func TestListsHandedInStayAsTheyWere(t *testing.T) {
	a, wholeA := roomy(at(5, 1), at(3, 2), at(5, 1), at(1, 1))
	b, wholeB := roomy(at(4, 1), at(2, 1))
	empty, wholeEmpty := roomy()
	oldA, oldB, oldEmpty := slices.Clone(wholeA), slices.Clone(wholeB), slices.Clone(wholeEmpty)
	calls := map[string]func(){
		"Max":   func() { stamp.Max(a...) },
		"After": func() { stamp.After(1, a...) },
		"Sort":  func() { stamp.Sort(a...) },
		"Has":   func() { stamp.Has(a, at(3, 2)) },
		"Merge": func() { stamp.Merge(a, b); stamp.Merge(empty, a, b); stamp.Merge(b) },
		"Below": func() { stamp.Below(a, at(4, 1)) },
		"See": func() {
			c, _ := stamp.New(1, 0)
			c.See(a...)
		},
	}
	for name, call := range calls {
		call()
		if !slices.Equal(wholeA, oldA) || !slices.Equal(wholeB, oldB) || !slices.Equal(wholeEmpty, oldEmpty) {
			t.Fatalf("%s changed what was handed in: %v %v %v", name, wholeA, wholeB, wholeEmpty)
		}
	}
}

// Rule 3, of P1.5: what is answered is new, its spare room too.
func TestListsAnsweredAreNew(t *testing.T) {
	l, whole := roomy(at(1, 1), at(2, 1), at(3, 1))
	empty, _ := roomy()
	old := slices.Clone(whole)
	calls := map[string]func() []api.Stamp{
		"Sort":           func() []api.Stamp { return stamp.Sort(l...) },
		"Merge of one":   func() []api.Stamp { return stamp.Merge(l) },
		"Merge with nil": func() []api.Stamp { return stamp.Merge(l, nil) },
		"Merge of two":   func() []api.Stamp { return stamp.Merge(l[:2], l[2:]) },
		"Below":          func() []api.Stamp { return stamp.Below(l, at(4, 1)) },
		"Below a part":   func() []api.Stamp { return stamp.Below(l, at(3, 1)) },
		"Sort of none":   func() []api.Stamp { return stamp.Sort(empty...) },
		"Merge of none":  func() []api.Stamp { return stamp.Merge(empty, empty) },
	}
	for name, call := range calls {
		first, second := call(), call()
		want := slices.Clone(second)
		spoil(first)
		if !slices.Equal(whole, old) {
			t.Fatalf("%s shares with its argument: %v", name, whole)
		}
		wantList(t, name, second, want...)
		spoil(second)
		wantList(t, name+" again", call(), want...)
	}
}

// spoil writes over all of a list, and over its spare room.
func spoil(l []api.Stamp) {
	l = l[:cap(l)]
	for i := range l {
		l[i] = at(-99, -99)
	}
}

// What Sort, Has, Merge and Below tell fits together, for all lists of a small kind.
func TestListsFitTogether(t *testing.T) {
	all := []api.Stamp{at(1, 1), at(1, 2), at(2, 1), at(2, 3)}
	for m := range 1 << len(all) {
		for n := range 1 << len(all) {
			a, b := pick(all, m), pick(all, n)
			wantList(t, "Merge", stamp.Merge(a, b), pick(all, m|n)...)
			mixed := append(slices.Clone(b), a...)
			wantList(t, "Sort", stamp.Sort(mixed...), pick(all, m|n)...)
		}
		for i, s := range all {
			wantList(t, "Below", stamp.Below(pick(all, m), s), pick(all, m&(1<<i-1))...)
			if got := stamp.Has(pick(all, m), s); got != (m>>i&1 == 1) {
				t.Errorf("Has(%v, %v): %v", pick(all, m), s, got)
			}
		}
	}
}

// pick is those of l whose bit is in mask.
func pick(l []api.Stamp, mask int) []api.Stamp {
	var picked []api.Stamp
	for i, s := range l {
		if mask>>i&1 == 1 {
			picked = append(picked, s)
		}
	}
	return picked
}
