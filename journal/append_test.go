package journal_test

import (
	"strings"
	"testing"

	"folkmoot/api"
)

// P15.3: frames lie one behind the other in one file, as long as it has fewer than size bytes.
func TestAppend(t *testing.T) {
	d, j := begun(t, 1000, 1000)
	for i, s := range []string{"a", "", "ccc", "a", "\x00"} {
		ok(t, d, j, 1, appends, s)
		wantFile(t, j, 1, false)
		if i == 1 {
			wantDrum(t, d, []int{1}, rec("a")+rec(""))
		}
	}
	wantDrum(t, d, []int{1}, rec("a")+rec("")+rec("ccc")+rec("a")+rec("\x00"))
	wantOpen(t, d, 1000, 2, "", "a", "", "ccc", "a", "\x00")
}

// P15.3: what was added is not safe.
func TestAppendIsNotSafe(t *testing.T) {
	d, j := begun(t, 1000, 1000)
	add(t, j, "a", "b")
	d.Crash()
	wantDrum(t, d, []int{1}, "")
	wantOpen(t, d, 1000, 2, "")
}

// P15.3: as many bytes as a record may have, and one more.
func TestAppendLong(t *testing.T) {
	full := strings.Repeat("x", api.MaxFlat)
	for _, size := range []int{1, api.MaxFlat, api.MaxRoom} {
		d, j := begun(t, api.MaxRoom, size)
		for range 2 {
			want(t, j, api.ErrLong, appends, full+"y")
			want(t, j, api.ErrLong, appends, full+full)
			wantFile(t, j, 1, false)
			wantDrum(t, d, nil)
		}
		ok(t, d, j, 1, appends, full)
		before := d.Ops()
		want(t, j, api.ErrLong, appends, full+"y")
		wantFile(t, j, 1, false)
		wantDrum(t, d, []int{1}, rec(full))
		if d.Ops() != before {
			t.Fatal("an Append that is refused has done something")
		}
		wantOpen(t, d, size, 2, "", full)
	}
}

// P15.3: a file with just fewer than size bytes, with just size, with more: the next one is the journal's, or not.
func TestAppendGoesOn(t *testing.T) {
	one := len(rec("one"))
	for size := 1; size <= 2*one+3; size++ {
		d, j := begun(t, 1000, size)
		file, in := 1, 0
		for i := range 9 {
			ops := 1
			if in >= size {
				file, in, ops = file+1, 0, 2
			}
			in += one
			ok(t, d, j, ops, appends, "one")
			wantFile(t, j, file, false)
			if i == 1 && size <= one {
				wantDrum(t, d, []int{1, 2}, rec("one"), rec("one"))
			}
		}
		wantOpen(t, d, size, file+1, "", "one", "one", "one", "one", "one", "one", "one", "one", "one")
	}
}

// P15.3: at the edge of size, with a frame that would fit, and with one that would not.
func TestAppendAtTheEdge(t *testing.T) {
	for _, more := range []string{"", strings.Repeat("y", 100)} {
		for _, c := range []struct{ size, file int }{{41, 2}, {42, 2}, {43, 1}, {44, 1}} {
			d, j := begun(t, 1000, c.size)
			add(t, j, "x", strings.Repeat("x", 15)) // 14 and 28 bytes
			wantFile(t, j, 1, false)
			add(t, j, more)
			wantFile(t, j, c.file, false)
			wantOpen(t, d, c.size, c.file+1, "", "x", strings.Repeat("x", 15), more)
		}
	}
}

// P15.3: the file ahead is synced when the next one is begun, and only then; the next one is not.
func TestFileAheadIsSynced(t *testing.T) {
	for n := 1; n <= 7; n++ {
		d, j := begun(t, 1000, 30) // three frames of 14 bytes a file
		var all, safe []string
		for i := range n {
			all = append(all, string(rune('a'+i)))
			add(t, j, all[i])
			if i%3 == 0 {
				safe = all[:i]
			}
		}
		d.Crash()
		wantOpen(t, d, 30, (n-1)/3+2, "", safe...)
	}
}

// P15.3: what counts is what this journal has added, to this file.
func TestSizeOfWhatWasAdded(t *testing.T) {
	d := made(t, 1000)
	lay(t, d, 1, rec(strings.Repeat("x", 100)))
	j := wantOpen(t, d, 30, 2, "", strings.Repeat("x", 100))
	lay(t, d, 2, strings.Repeat("y", 100))
	ok(t, d, j, 1, appends, "a")
	ok(t, d, j, 1, syncs, "")
	ok(t, d, j, 1, appends, "b")
	ok(t, d, j, 1, appends, "c")
	wantFile(t, j, 2, false)
	ok(t, d, j, 2, appends, "d")
	wantFile(t, j, 3, false)
	ok(t, d, j, 1, appends, "e")
	wantFile(t, j, 3, false)
}

// P15.3: syncing does not begin a file anew.
func TestSyncDoesNotGoOn(t *testing.T) {
	d, j := begun(t, 1000, 28)
	for i := range 7 {
		add(t, j, "a")
		ok(t, d, j, 1, syncs, "")
		ok(t, d, j, 1, syncs, "")
		wantFile(t, j, i/2+1, false)
	}
}

// P15.3: where a file above MaxFiles would have to be; nothing is synced then.
func TestAppendMany(t *testing.T) {
	d := made(t, 1000)
	lay(t, d, api.MaxFiles-2, rec("0"))
	j := wantOpen(t, d, 20, api.MaxFiles-1, "", "0")
	add(t, j, "a", "b", "c", "d")
	wantFile(t, j, api.MaxFiles, false)
	before := d.Ops()
	for range 3 {
		want(t, j, api.ErrMany, appends, "e")
		want(t, j, api.ErrMany, appends, "")
		want(t, j, api.ErrLong, appends, strings.Repeat("x", api.MaxFlat+1))
		wantFile(t, j, api.MaxFiles, false)
	}
	if d.Ops() != before {
		t.Fatal("an Append that is refused has done something")
	}
	d.Arm(0)
	want(t, j, api.ErrMany, appends, "e")
	if d.Dead() {
		t.Fatal("an Append that is refused has asked the drum")
	}
	d.Crash()
	wantDrum(t, d, []int{998, 999, 1000}, rec("0"), rec("a")+rec("b"), "")
	want(t, j, api.OK, syncs, "")
	wantFile(t, j, api.MaxFiles, false)
}

// P15.3: ErrMany comes ahead of what the drum would say, ErrLong ahead of both.
func TestAppendManyAheadOfFull(t *testing.T) {
	d := made(t, 14)
	lay(t, d, api.MaxFiles-1, "")
	j := wantOpen(t, d, 14, api.MaxFiles, "")
	add(t, j, "a")
	want(t, j, api.ErrMany, appends, "b")
	want(t, j, api.ErrLong, appends, strings.Repeat("x", api.MaxFlat+1))
	wantFile(t, j, api.MaxFiles, false)

	d, j = begun(t, 14, 100)
	add(t, j, "a")
	want(t, j, api.ErrFull, appends, "b")
	want(t, j, api.ErrFull, appends, strings.Repeat("x", api.MaxFlat))
	want(t, j, api.ErrLong, appends, strings.Repeat("x", api.MaxFlat+1))
	d.Arm(0)
	want(t, j, api.ErrLong, appends, strings.Repeat("x", api.MaxFlat+1))
	want(t, j, api.ErrLong, rewrites, strings.Repeat("x", api.MaxFlat+1))
	wantFile(t, j, 1, false)
	if d.Dead() {
		t.Fatal("a call that is refused has asked the drum")
	}
}

// P15.3: Sync with nothing added, with something, behind another Sync, in a file that was gone on to.
func TestSync(t *testing.T) {
	d := made(t, 1000)
	lay(t, d, 3, rec("0"))
	j := wantOpen(t, d, 28, 4, "", "0")
	ok(t, d, j, 0, syncs, "")
	ok(t, d, j, 0, syncs, "")
	wantDrum(t, d, []int{3}, rec("0"))
	add(t, j, "a")
	ok(t, d, j, 1, syncs, "")
	ok(t, d, j, 1, syncs, "")
	add(t, j, "b")
	ok(t, d, j, 1, syncs, "")
	add(t, j, "c")
	wantFile(t, j, 5, false)
	ok(t, d, j, 1, syncs, "")
	wantFile(t, j, 5, false)
	add(t, j, "d")
	d.Crash()
	wantOpen(t, d, 28, 6, "", "0", "a", "b", "c")
}

// P15.3: Sync syncs the journal's file, and no other one.
func TestSyncOfOneFile(t *testing.T) {
	d := made(t, 1000)
	j := wantOpen(t, d, 100, 1, "")
	add(t, j, "a")
	k := wantOpen(t, d, 100, 2, "", "a")
	add(t, k, "b")
	want(t, k, api.OK, syncs, "")
	d.Crash()
	wantDrum(t, d, []int{1, 2}, "", rec("b"))
}

// P15.3: with nothing added, not even the power is asked for.
func TestSyncOfNothingWithThePowerOff(t *testing.T) {
	d, j := begun(t, 1000, 100)
	d.Arm(0)
	want(t, j, api.OK, syncs, "")
	d.Sync(1)
	want(t, j, api.OK, syncs, "")
	wantFile(t, j, 1, false)
	want(t, j, api.ErrDead, appends, "a")
	want(t, j, api.ErrJournal, syncs, "")
}
