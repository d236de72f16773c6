package journal_test

import (
	"slices"
	"strings"
	"testing"

	"folkmoot/api"
	"folkmoot/drum"
	"folkmoot/journal"
)

// P15.4: upon a file to which something was added, the next one is the journal's; the base is safe.
func TestRewrite(t *testing.T) {
	d, j := begun(t, 1000, 100)
	add(t, j, "a", "b")
	ok(t, d, j, 3, rewrites, "base")
	wantFile(t, j, 2, false)
	wantDrum(t, d, []int{2}, bas("base"))
	d.Crash()
	wantDrum(t, d, []int{2}, bas("base"))
	wantOpen(t, d, 100, 3, "base")
}

// P15.4: upon a file to which nothing was added, that stays the journal's.
func TestRewriteOfNothing(t *testing.T) {
	d, j := begun(t, 1000, 100)
	ok(t, d, j, 2, rewrites, "base")
	wantFile(t, j, 1, false)
	wantDrum(t, d, []int{1}, bas("base"))
	d.Crash()
	j = wantOpen(t, d, 100, 2, "base")
	ok(t, d, j, 3, rewrites, "")
	wantFile(t, j, 2, false)
	wantDrum(t, d, []int{2}, bas(""))
}

// P15.4: a base is something that was added: to it the next records are, and upon it the next base is not laid.
func TestRewriteAgain(t *testing.T) {
	d, j := begun(t, 1000, 100)
	for i, base := range []string{"a", "b", "", "c"} {
		want(t, j, api.OK, rewrites, base)
		wantFile(t, j, i+1, false)
		wantDrum(t, d, []int{i + 1}, bas(base))
	}
	ok(t, d, j, 1, syncs, "")
	ok(t, d, j, 1, appends, "r")
	wantDrum(t, d, []int{4}, bas("c")+rec("r"))
	ok(t, d, j, 3, rewrites, "d")
	wantDrum(t, d, []int{5}, bas("d"))
}

// P15.4, P15.3: a base counts as bytes that were added to its file.
func TestBaseCounts(t *testing.T) {
	for size := 1; size < 50; size++ {
		d, j := begun(t, 1000, size)
		add(t, j, strings.Repeat("x", 60))
		want(t, j, api.OK, rewrites, "base") // 17 bytes
		add(t, j, "a")                       // 14
		file := 2
		if size <= 17 {
			file++
		}
		wantFile(t, j, file, false)
		add(t, j, "b")
		if size <= 14 || size > 17 && size <= 31 {
			file++
		}
		wantFile(t, j, file, false)
		wantOpen(t, d, size, file+1, "base", "a", "b")
	}
}

// P15.4: a file that is great enough is left by a Rewrite as one that is not, and not synced.
func TestRewriteOfGreatFile(t *testing.T) {
	d, j := begun(t, 1000, 1)
	add(t, j, "a", "b", "c")
	wantFile(t, j, 3, false)
	ok(t, d, j, 5, rewrites, "base")
	wantFile(t, j, 4, false)
	wantDrum(t, d, []int{4}, bas("base"))
}

// P15.4: as many bytes as a base may have, and one more.
func TestRewriteLong(t *testing.T) {
	full := strings.Repeat("x", api.MaxFlat)
	d, j := begun(t, api.MaxRoom, 10)
	add(t, j, "a")
	want(t, j, api.ErrLong, rewrites, full+"y")
	want(t, j, api.ErrLong, rewrites, full+full)
	wantFile(t, j, 1, false)
	wantDrum(t, d, []int{1}, rec("a"))
	want(t, j, api.OK, rewrites, full)
	wantFile(t, j, 2, false)
	wantDrum(t, d, []int{2}, bas(full))
	wantOpen(t, d, 10, 3, full)
}

// P15.4: where a file above MaxFiles would have to be; in the last one a base may lie.
func TestRewriteMany(t *testing.T) {
	d := made(t, 1000)
	lay(t, d, 3, rec("0"))
	lay(t, d, api.MaxFiles-1, rec("1"))
	j := wantOpen(t, d, 100, api.MaxFiles, "", "0", "1")
	want(t, j, api.OK, rewrites, "base")
	wantFile(t, j, api.MaxFiles, false)
	wantDrum(t, d, []int{api.MaxFiles}, bas("base"))
	add(t, j, "a")
	before := d.Ops()
	d.Arm(0)
	for range 2 {
		want(t, j, api.ErrMany, rewrites, "other")
		want(t, j, api.ErrMany, rewrites, "")
		want(t, j, api.ErrLong, rewrites, strings.Repeat("x", api.MaxFlat+1))
		wantFile(t, j, api.MaxFiles, false)
	}
	if d.Ops() != before || d.Dead() {
		t.Fatal("a Rewrite that is refused has asked the drum")
	}
	d.Arm(-1)
	add(t, j, "b")
	wantDrum(t, d, []int{api.MaxFiles}, bas("base")+rec("a")+rec("b"))
}

// P15.4: what is enough to go on: any byte that was added.
func TestRewriteManyOfOneRecord(t *testing.T) {
	d := made(t, 1000)
	lay(t, d, api.MaxFiles-1)
	j := wantOpen(t, d, api.MaxRoom, api.MaxFiles, "")
	add(t, j, "")
	want(t, j, api.ErrMany, rewrites, "base")
	wantDrum(t, d, []int{api.MaxFiles - 1, api.MaxFiles}, "", rec(""))
}

// rewritten is a drum with files 2, 3, 10 and 500, and a journal upon it, to which something was added, or nothing.
func rewritten(t *testing.T, added bool) (*drum.Drum, *journal.Journal, []int) {
	t.Helper()
	d := made(t, 1000)
	lay(t, d, 10, bas("old"), rec("a"))
	lay(t, d, 500, rec("b"))
	lay(t, d, 2, bas("older"))
	lay(t, d, 3)
	j := wantOpen(t, d, 100, 501, "old", "a", "b")
	files := []int{2, 3, 10, 500}
	if added {
		add(t, j, "c")
		files = append(files, 501)
	}
	return d, j, files
}

// P15.4: all files that were there are deleted, by rising numbers, when the base is safe.
func TestRewriteDeletes(t *testing.T) {
	for _, added := range []bool{false, true} {
		_, _, files := rewritten(t, added)
		next := files[len(files)-1] + 1
		for n := range len(files) + 3 {
			d, j, _ := rewritten(t, added)
			file, before := j.File(), d.Ops()
			d.Arm(n)
			if n == len(files)+2 {
				want(t, j, api.OK, rewrites, "base")
				wantFile(t, j, next, false)
				wantDrum(t, d, []int{next}, bas("base"))
				continue
			}
			want(t, j, api.ErrDead, rewrites, "base")
			wantFile(t, j, file, true)
			left := slices.Clone(files[max(n-2, 0):])
			if n > 0 {
				left = append(left, next)
			}
			if !slices.Equal(d.Files(), left) || d.Ops() != before+n {
				t.Fatalf("%d operations: %d, want %d", n, d.Files(), left)
			}
			d.Crash()
			base, records := "old", []string{"a", "b"}
			if n > 1 {
				base, records = "base", nil
			}
			wantOpen(t, d, 100, left[len(left)-1]+1, base, records...)
		}
	}
}

// P15.4: with an error the journal's file is the one that it was, also where the one behind it is there.
func TestRewriteWithAnErrorStays(t *testing.T) {
	d, j := begun(t, 40, 100)
	add(t, j, "a")
	want(t, j, api.ErrFull, rewrites, strings.Repeat("x", 14))
	wantFile(t, j, 1, false)
	wantDrum(t, d, []int{1}, rec("a"))
	add(t, j, "b")
	wantDrum(t, d, []int{1}, rec("a")+rec("b"))
	want(t, j, api.ErrFull, rewrites, "")
	wantFile(t, j, 1, false)
	ok(t, d, j, 1, syncs, "")
	wantDrum(t, d, []int{1}, rec("a")+rec("b"))
	d.Crash()
	wantOpen(t, d, 100, 2, "", "a", "b")
}

// P15.4: files that came by another hand are deleted too, also those of greater numbers: they were there ahead of it.
func TestRewriteDeletesFilesOfOthers(t *testing.T) {
	d, j := begun(t, 1000, 100)
	add(t, j, "a")
	lay(t, d, 7, bas("other"))
	lay(t, d, 900, rec("other"))
	ok(t, d, j, 5, rewrites, "base")
	wantDrum(t, d, []int{2}, bas("base"))
	wantOpen(t, d, 100, 3, "base")
}

// P15.4: the file in which the base lies stays, also where it came, without bytes, by another hand.
func TestRewriteKeepsItsFile(t *testing.T) {
	d, j := begun(t, 1000, 100)
	lay(t, d, 1)
	ok(t, d, j, 2, rewrites, "base")
	wantDrum(t, d, []int{1}, bas("base"))
	add(t, j, "a")
	lay(t, d, 2)
	ok(t, d, j, 3, rewrites, "new")
	wantFile(t, j, 2, false)
	wantDrum(t, d, []int{2}, bas("new"))
}

// P15.4: a Rewrite asks for room ahead of what it gives back.
func TestRewriteWithoutRoom(t *testing.T) {
	d, j := begun(t, 60, 100)
	add(t, j, "a", "b") // 28 bytes
	want(t, j, api.ErrFull, rewrites, strings.Repeat("x", 20))
	want(t, j, api.OK, rewrites, strings.Repeat("x", 19))
	wantDrum(t, d, []int{2}, bas(strings.Repeat("x", 19)))
	if d.Free() != 28 {
		t.Fatal(d.Free())
	}
}
