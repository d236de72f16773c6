package journal_test

import (
	"strings"
	"testing"

	"folkmoot/api"
	"folkmoot/drum"
	"folkmoot/journal"
)

// wantBroken asks each call of a journal that is broken, which does nothing.
func wantBroken(t *testing.T, d *drum.Drum, j *journal.Journal, file int) {
	t.Helper()
	for range 2 {
		before, files := d.Ops(), len(d.Files())
		for _, payload := range []string{"", "a", strings.Repeat("x", api.MaxFlat), strings.Repeat("x", api.MaxFlat+1)} {
			for kind := appends; kind <= rewrites; kind++ {
				want(t, j, api.ErrJournal, kind, payload)
				wantFile(t, j, file, true)
			}
		}
		if d.Ops() != before || len(d.Files()) != files {
			t.Fatal("a journal that is broken does something")
		}
		// Power that is on again, and files that are there again, mend nothing.
		d.Crash()
		d.Append(file, []byte("x"))
	}
}

// P15.5: the power fails at each operation of each call; the journal's file is the one that the call has come to.
func TestBrokenByThePower(t *testing.T) {
	for _, c := range []struct{ kind, size, n, file int }{
		{appends, 100, 0, 1},
		{appends, 14, 0, 1}, // it was to be synced
		{appends, 14, 1, 2}, // it was synced, and left
		{syncs, 100, 0, 1},
		{rewrites, 100, 0, 1},
		{rewrites, 100, 1, 1},
		{rewrites, 100, 2, 1},
	} {
		d, j := begun(t, 1000, c.size)
		add(t, j, "a")
		before := d.Ops()
		d.Arm(c.n)
		wantFile(t, j, 1, false)
		want(t, j, api.ErrDead, c.kind, "b")
		if d.Ops() != before+c.n {
			t.Fatalf("%d operations", d.Ops()-before)
		}
		wantFile(t, j, c.file, true)
		wantBroken(t, d, j, c.file)
	}
}

// P15.5: the first Append, and the first Rewrite, of a journal.
func TestBrokenAtOnce(t *testing.T) {
	for _, c := range []struct{ kind, n int }{{appends, 0}, {rewrites, 0}, {rewrites, 1}} {
		d, j := begun(t, 1000, 100)
		d.Arm(c.n)
		want(t, j, api.ErrDead, c.kind, "b")
		wantFile(t, j, 1, true)
		wantBroken(t, d, j, 1)
	}
}

// P15.5: a file that somebody has taken away breaks the journal as the power does.
func TestBrokenByMissingFile(t *testing.T) {
	for _, c := range []struct{ kind, size int }{{appends, 14}, {syncs, 100}} {
		d, j := begun(t, 1000, c.size)
		add(t, j, "a")
		if err := d.Delete(1); err != api.OK {
			t.Fatal(err)
		}
		want(t, j, api.ErrNone, c.kind, "b")
		wantFile(t, j, 1, true)
		wantBroken(t, d, j, 1)
	}
}

// P15.5: a call that asks nothing of a drum whose power is off breaks nothing.
func TestNotBrokenByWhatIsNotAsked(t *testing.T) {
	d := made(t, 1000)
	lay(t, d, api.MaxFiles-1)
	j := wantOpen(t, d, 10, api.MaxFiles, "")
	long := strings.Repeat("x", api.MaxFlat+1)
	d.Arm(0)
	d.Sync(5)
	want(t, j, api.OK, syncs, "")
	want(t, j, api.ErrLong, appends, long)
	want(t, j, api.ErrLong, rewrites, long)
	wantFile(t, j, api.MaxFiles, false)
	d.Crash()
	add(t, j, "a")
	d.Arm(0)
	d.Sync(5)
	want(t, j, api.ErrMany, appends, "b")
	want(t, j, api.ErrMany, rewrites, "b")
	wantFile(t, j, api.MaxFiles, false)
	want(t, j, api.ErrDead, syncs, "")
	wantFile(t, j, api.MaxFiles, true)
	want(t, j, api.ErrJournal, appends, "b")
	want(t, j, api.ErrJournal, rewrites, "b")
	want(t, j, api.ErrJournal, appends, long)
}

// P15.5: ErrFull breaks nothing, and nothing was added.
func TestFullBreaksNothing(t *testing.T) {
	d, j := begun(t, 30, 100)
	want(t, j, api.ErrFull, appends, strings.Repeat("x", 18))
	want(t, j, api.ErrFull, rewrites, strings.Repeat("x", 18))
	wantFile(t, j, 1, false)
	wantDrum(t, d, nil)
	ok(t, d, j, 0, syncs, "")
	add(t, j, "a")
	for range 2 {
		want(t, j, api.ErrFull, appends, "bcde")
		want(t, j, api.ErrFull, rewrites, "bcde")
		wantFile(t, j, 1, false)
		wantDrum(t, d, []int{1}, rec("a"))
	}
	ok(t, d, j, 1, syncs, "")
	ok(t, d, j, 1, appends, "bcd")
	ok(t, d, j, 1, syncs, "")
	want(t, j, api.ErrFull, appends, "")
	wantOpen(t, d, 100, 2, "", "a", "bcd")
}

// P15.5: what was refused does not count for size.
func TestFullDoesNotCount(t *testing.T) {
	d, j := begun(t, 100, 28)
	add(t, j, "a")
	want(t, j, api.ErrFull, appends, strings.Repeat("x", 90))
	want(t, j, api.ErrFull, rewrites, strings.Repeat("x", 90))
	ok(t, d, j, 1, appends, "b")
	wantFile(t, j, 1, false)
	ok(t, d, j, 2, appends, "c")
	wantFile(t, j, 2, false)
}

// P15.5: an Append that is refused has gone on to the next file, if it had to: what is ahead is safe, the next file is not there.
func TestFullBehindGoingOn(t *testing.T) {
	d, j := begun(t, 40, 28)
	add(t, j, "a", "b")
	before := d.Ops()
	for range 3 {
		want(t, j, api.ErrFull, appends, "c")
		wantFile(t, j, 2, false)
		wantDrum(t, d, []int{1}, rec("a")+rec("b"))
	}
	if d.Ops() != before+1 {
		t.Fatalf("%d operations", d.Ops()-before)
	}
	ok(t, d, j, 0, syncs, "")
	d.Crash()
	wantDrum(t, d, []int{1}, rec("a")+rec("b"))
	want(t, j, api.ErrFull, rewrites, "")
	wantFile(t, j, 2, false)
	if err := d.Delete(1); err != api.OK {
		t.Fatal(err)
	}
	ok(t, d, j, 1, appends, "d")
	wantDrum(t, d, []int{2}, rec("d"))
	wantFile(t, j, 2, false)
}

// P15.5, P15.4: upon a file that was gone on to, and has nothing, a base is laid in that one.
func TestRewriteBehindGoingOn(t *testing.T) {
	d, j := begun(t, 42, 28)
	add(t, j, "a", "b")
	want(t, j, api.ErrFull, appends, "cc")
	wantFile(t, j, 2, false)
	ok(t, d, j, 3, rewrites, "x")
	wantFile(t, j, 2, false)
	wantDrum(t, d, []int{2}, bas("x"))
	ok(t, d, j, 1, appends, "d")
	ok(t, d, j, 2, appends, "")
	wantFile(t, j, 3, false)
}

// P15.5: where the next file is the last one, or would be one too many, and there is no room either.
func TestFullAtTheLastFile(t *testing.T) {
	d := made(t, 30)
	lay(t, d, api.MaxFiles-2)
	j := wantOpen(t, d, 14, api.MaxFiles-1, "")
	add(t, j, "a")
	for range 2 {
		want(t, j, api.ErrFull, appends, "bcde")
		wantFile(t, j, api.MaxFiles, false)
	}
	add(t, j, "b")
	want(t, j, api.ErrMany, appends, "bcde")
	want(t, j, api.ErrMany, rewrites, "bcde")
	wantFile(t, j, api.MaxFiles, false)
	wantOpenRefusedAtTheEnd(t, d)
}

func wantOpenRefusedAtTheEnd(t *testing.T, d *drum.Drum) {
	t.Helper()
	wantRefused(t, d, 14, api.ErrMany)
	wantDrum(t, d, []int{api.MaxFiles - 2, api.MaxFiles - 1, api.MaxFiles}, "", rec("a"), rec("b"))
}

// P15.5: a room of nothing.
func TestNoRoom(t *testing.T) {
	d, j := begun(t, 0, 1)
	for range 3 {
		want(t, j, api.ErrFull, appends, "")
		want(t, j, api.ErrFull, rewrites, "")
		want(t, j, api.OK, syncs, "")
		wantFile(t, j, 1, false)
	}
	wantDrum(t, d, nil)
	d.Arm(0)
	want(t, j, api.ErrDead, rewrites, "")
	wantFile(t, j, 1, true)
}

// P15.5: a drum on which a power that was off is on again is a drum like others to a journal that has not asked it meanwhile.
func TestCrashThatNobodySaw(t *testing.T) {
	d, j := begun(t, 1000, 100)
	add(t, j, "a")
	want(t, j, api.OK, syncs, "")
	d.Arm(0)
	d.Sync(9)
	d.Crash()
	wantFile(t, j, 1, false)
	add(t, j, "b")
	want(t, j, api.OK, syncs, "")
	d.Crash()
	wantOpen(t, d, 100, 2, "", "a", "b")
}
