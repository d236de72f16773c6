package journal_test

import (
	"fmt"
	"math"
	"slices"
	"testing"

	"folkmoot/api"
	"folkmoot/drum"
	"folkmoot/journal"
)

// wantRefused opens where that has an error.
func wantRefused(t *testing.T, d *drum.Drum, size int, wanted api.Errno) {
	t.Helper()
	j, base, records, err := journal.Open(d, size)
	if j != nil || base != nil || records != nil || err != wanted {
		t.Fatalf("Open(%d): %v, %q, %q, %d, want %d", size, j, base, records, err, wanted)
	}
}

func wrongSizes() []int {
	return []int{0, -1, -2, api.MaxRoom + 1, api.MaxRoom + 2, math.MaxInt, math.MinInt, 1 << 32, 1<<32 + 1}
}

func rightSizes() []int { return []int{1, 2, 100, api.MaxRoom - 1, api.MaxRoom} }

// P15.2: each size that may be.
func TestOpenSizes(t *testing.T) {
	for _, size := range rightSizes() {
		d := made(t, 1000)
		wantOpen(t, d, size, 1, "")
		lay(t, d, 7, bas("base"), rec("record"))
		wantOpen(t, d, size, 8, "base", "record")
	}
}

// P15.2: each error, and which comes first.
func TestOpenRefuses(t *testing.T) {
	for _, size := range append(wrongSizes(), rightSizes()...) {
		wantRefused(t, nil, size, api.ErrNone)
	}
	for _, last := range []int{0, 1, 999, api.MaxFiles} {
		for _, off := range []bool{false, true} {
			d := made(t, 1000)
			if last > 0 {
				lay(t, d, last, bas("base"), rec("record"))
			}
			if off {
				d.Arm(0)
				d.Sync(1)
			}
			for _, size := range wrongSizes() {
				wantRefused(t, d, size, api.ErrArg)
			}
			for _, size := range rightSizes() {
				switch {
				case off:
					wantRefused(t, d, size, api.ErrDead)
				case last == api.MaxFiles:
					wantRefused(t, d, size, api.ErrMany)
				case last > 0:
					wantOpen(t, d, size, last+1, "base", "record")
				}
			}
		}
	}
}

// P15.2: a file of the greatest number refuses Open whatever it has, and whatever stands ahead of it.
func TestOpenWithTheGreatestFile(t *testing.T) {
	for _, text := range []string{"", "torn", rec("a"), bas("b")} {
		for _, ahead := range [][]int{nil, {1}, {1, 2, 999}} {
			d := made(t, 1000)
			for _, file := range ahead {
				lay(t, d, file, bas("base"))
			}
			lay(t, d, api.MaxFiles, text)
			wantRefused(t, d, 10, api.ErrMany)
			if err := d.Delete(api.MaxFiles); err != api.OK {
				t.Fatal(err)
			}
			if len(ahead) > 0 {
				wantOpen(t, d, 10, ahead[len(ahead)-1]+1, "base")
			}
		}
	}
}

// P15.2: a power that will go off is on still.
func TestOpenIsNoOperation(t *testing.T) {
	d := made(t, 1000)
	lay(t, d, 1, bas("base"), rec("record"))
	d.Arm(0)
	for range 3 {
		wantOpen(t, d, 10, 2, "base", "record")
	}
	if d.Dead() {
		t.Fatal("the power is off")
	}
}

// P15.2: behind a crash the power is on again.
func TestOpenBehindACrash(t *testing.T) {
	d, j := begun(t, 1000, 10)
	d.Arm(0)
	want(t, j, api.ErrDead, appends, "a")
	wantRefused(t, d, 10, api.ErrDead)
	d.Crash()
	wantOpen(t, d, 10, 1, "")
}

// opening is files, and what is told of them.
type opening struct {
	files   []int
	l       []string
	file    int
	base    string
	records []string
}

func openings() []opening {
	torn := bas("torn")[:16]
	return []opening{
		{nil, nil, 1, "", nil},
		{[]int{1}, []string{""}, 2, "", nil},
		{[]int{77}, []string{""}, 78, "", nil},
		{[]int{1, 2, 3}, []string{"", "", ""}, 4, "", nil},
		{[]int{1}, []string{rec("a")}, 2, "", []string{"a"}},
		{[]int{1, 2, 5}, []string{rec("a") + rec("b"), rec("c"), rec("d") + rec("e")}, 6, "", []string{"a", "b", "c", "d", "e"}},
		{[]int{1, 2, 3}, []string{rec("a") + "torn", "", rec("b")}, 4, "", []string{"a", "b"}},
		{[]int{3, 10, 200}, []string{rec("a"), rec("b"), rec("c")}, 201, "", []string{"a", "b", "c"}},
		{[]int{1}, []string{bas("x")}, 2, "x", nil},
		{[]int{4, 5}, []string{bas("x") + rec("a"), rec("b")}, 6, "x", []string{"a", "b"}},
		{[]int{1, 2, 3}, []string{rec("a"), bas("x") + rec("b"), rec("c")}, 4, "x", []string{"b", "c"}},
		{[]int{1, 2, 3}, []string{bas("x") + rec("a"), bas("y") + rec("b"), rec("c")}, 4, "y", []string{"b", "c"}},
		{[]int{1, 2, 3}, []string{bas("x") + rec("a"), rec("b"), bas("y")}, 4, "y", nil},
		{[]int{1, 2, 3}, []string{bas("x"), bas("y"), bas("") + rec("c")}, 4, "", []string{"c"}},
		{[]int{1, 2, 3}, []string{rec("a"), bas(""), rec("b")}, 4, "", []string{"b"}},
		{[]int{1, 2}, []string{bas("x") + rec("a"), torn}, 3, "x", []string{"a"}},
		{[]int{1, 2}, []string{bas("x") + rec("a"), torn + rec("b")}, 3, "x", []string{"a"}},
		{[]int{1, 2, 3}, []string{bas("x") + rec("a"), torn, rec("b")}, 4, "x", []string{"a", "b"}},
		{[]int{1, 2, 3}, []string{bas("x") + rec("a"), bas("y") + rec("b"), torn}, 4, "y", []string{"b"}},
		{[]int{1, 2, 3}, []string{torn, rec("a"), rec("b")}, 4, "", []string{"a", "b"}},
		{[]int{1, 2}, []string{bas("x") + rec("a"), rec("b") + bas("y") + rec("c")}, 3, "x", []string{"a", "b"}},
		{[]int{1, 2}, []string{bas("x") + bas("y") + rec("a"), rec("b")}, 3, "x", []string{"b"}},
		{[]int{2, 9, 10, 11}, []string{bas("w"), rec("a"), bas("x") + rec("b") + "torn", rec("c")}, 12, "x", []string{"b", "c"}},
		{[]int{9, 10, 100, 999}, []string{rec("a"), rec("b"), bas("x"), rec("c")}, 1000, "x", []string{"c"}},
		{[]int{1, 2}, []string{rec("a"), laid(3, "x") + rec("b")}, 3, "", []string{"a"}},
	}
}

// P15.2: which files are the journal, what is told of them, and which file is the journal's.
func TestOpenings(t *testing.T) {
	for i, o := range openings() {
		t.Run(fmt.Sprint(i), func(t *testing.T) {
			d := made(t, 1000)
			for _, k := range backward(len(o.files)) {
				lay(t, d, o.files[k], o.l[k])
			}
			wantOpen(t, d, 10, o.file, o.base, o.records...)
			wantOpen(t, d, api.MaxRoom, o.file, o.base, o.records...)
		})
	}
}

func backward(n int) []int {
	var l []int
	for i := range n {
		l = append(l, n-1-i)
	}
	return l
}

// P15.2: Open writes nothing, and deletes nothing, as does a journal that is not used then.
func TestOpenChangesNothing(t *testing.T) {
	for _, o := range openings() {
		d := made(t, 1000)
		for k, file := range o.files {
			lay(t, d, file, o.l[k])
		}
		free, ops := d.Free(), d.Ops()
		for range 3 {
			j := wantOpen(t, d, 10, o.file, o.base, o.records...)
			want(t, j, api.OK, syncs, "")
		}
		if d.Free() != free || d.Ops() != ops {
			t.Fatalf("Free %d, Ops %d, were %d, %d", d.Free(), d.Ops(), free, ops)
		}
		wantDrum(t, d, o.files, o.l...)
		d.Crash()
		wantDrum(t, d, o.files, o.l...)
	}
}

// P15.2: Open makes nothing safe.
func TestOpenMakesNothingSafe(t *testing.T) {
	d, j := begun(t, 1000, 100)
	add(t, j, "a", "b")
	wantOpen(t, d, 100, 2, "", "a", "b")
	d.Crash()
	wantOpen(t, d, 100, 2, "")
}

// P15.2: what was there stays as it was, when a journal adds to its file.
func TestFilesAheadStay(t *testing.T) {
	for _, o := range openings() {
		d := made(t, 1000)
		for k, file := range o.files {
			lay(t, d, file, o.l[k])
		}
		j := wantOpen(t, d, 1000, o.file, o.base, o.records...)
		add(t, j, "new", "newer")
		want(t, j, api.OK, syncs, "")
		wantDrum(t, d, append(slices.Clone(o.files), o.file), append(slices.Clone(o.l), rec("new")+rec("newer"))...)
		if o.file < api.MaxFiles {
			wantOpen(t, d, 1000, o.file+1, o.base, append(slices.Clone(o.records), "new", "newer")...)
		}
	}
}
