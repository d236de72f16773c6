package drum_test

import (
	"bytes"
	"math"
	"slices"
	"strings"
	"testing"

	"folkmoot/api"
	"folkmoot/drum"
)

// made is a drum of that room.
func made(t *testing.T, room int) *drum.Drum {
	t.Helper()
	d, err := drum.New(room)
	if d == nil || err != api.OK {
		t.Fatalf("New(%d): %v, %d", room, d, err)
	}
	return d
}

// lists is texts as lists of bytes.
func lists(l ...string) [][]byte {
	var b [][]byte
	for _, s := range l {
		b = append(b, []byte(s))
	}
	return b
}

// The calls of which one is asked with a file's number.
const (
	appends = iota
	syncs
	deletes
	reads
)

// call makes one of the calls; an Append has these texts.
func call(d *drum.Drum, kind, file int, l ...string) api.Errno {
	switch kind {
	case appends:
		return d.Append(file, lists(l...)...)
	case syncs:
		return d.Sync(file)
	case deletes:
		return d.Delete(file)
	}
	_, err := d.Read(file)
	return err
}

// want makes one of the calls, and holds what it answers against an error.
func want(t *testing.T, d *drum.Drum, wanted api.Errno, kind, file int, l ...string) {
	t.Helper()
	if err := call(d, kind, file, l...); err != wanted {
		t.Fatalf("call %d of file %d: %d, want %d", kind, file, err, wanted)
	}
}

// ok makes a call that is OK.
func ok(t *testing.T, d *drum.Drum, kind, file int, l ...string) {
	t.Helper()
	want(t, d, api.OK, kind, file, l...)
}

// wantRead reads a file that there is.
func wantRead(t *testing.T, d *drum.Drum, file int, text string) {
	t.Helper()
	if b, err := d.Read(file); string(b) != text || err != api.OK {
		t.Fatalf("Read(%d): %q, %d, want %q", file, b, err, text)
	}
}

// wantNone reads where that has an error.
func wantNone(t *testing.T, d *drum.Drum, file int, wanted api.Errno) {
	t.Helper()
	if b, err := d.Read(file); len(b) != 0 || err != wanted {
		t.Fatalf("Read(%d): %q, %d, want %d", file, b, err, wanted)
	}
}

// wantAll asks for the files' numbers, what is free, and how many operations were done.
func wantAll(t *testing.T, d *drum.Drum, free, ops int, files ...int) {
	t.Helper()
	if got := d.Files(); !slices.Equal(got, files) {
		t.Fatalf("Files: %d, want %d", got, files)
	}
	if d.Free() != free || d.Ops() != ops {
		t.Fatalf("Free %d, Ops %d, want %d, %d", d.Free(), d.Ops(), free, ops)
	}
}

func wantDead(t *testing.T, d *drum.Drum, dead bool) {
	t.Helper()
	if d.Dead() != dead {
		t.Fatalf("Dead: %v", !dead)
	}
}

// fails lets the power of a drum go off, which changes nothing else.
func fails(t *testing.T, d *drum.Drum) {
	t.Helper()
	d.Arm(0)
	want(t, d, api.ErrDead, appends, 1)
	wantDead(t, d, true)
}

// wrong is numbers that no file has.
func wrong() []int {
	return []int{0, -1, -2, api.MaxFiles + 1, api.MaxFiles + 2, 2 * api.MaxFiles, math.MaxInt, math.MinInt, 1<<32 + 1, 1<<16 + 1}
}

// P14.1
func TestNewIsEmpty(t *testing.T) {
	for _, room := range []int{0, 1, 2, 1000, api.MaxRoom - 1, api.MaxRoom} {
		d := made(t, room)
		wantAll(t, d, room, 0)
		wantDead(t, d, false)
		for range 3000 {
			ok(t, d, appends, 1)
		}
		wantDead(t, d, false)
	}
}

// P14.1
func TestNewRefusesWrongRooms(t *testing.T) {
	for _, room := range []int{-1, -2, api.MaxRoom + 1, math.MaxInt, math.MinInt, 1 << 32} {
		if d, err := drum.New(room); d != nil || err != api.ErrArg {
			t.Errorf("New(%d): %v, %d", room, d, err)
		}
	}
}

// P14.1, P14.2: all of a room may be filled, the greatest one too.
func TestEachRoomFits(t *testing.T) {
	for _, room := range []int{0, 1, 7, api.MaxRoom} {
		d := made(t, room)
		ok(t, d, appends, 5, strings.Repeat("x", room))
		wantAll(t, d, 0, 1, 5)
		want(t, d, api.ErrFull, appends, 5, "y")
		ok(t, d, appends, 5)
		wantRead(t, d, 5, strings.Repeat("x", room))
	}
}

// P14.2: Append
func TestAppendLaysBehind(t *testing.T) {
	d := made(t, 100)
	ok(t, d, appends, 3, "ab", "", "c", "def")
	wantRead(t, d, 3, "abcdef")
	ok(t, d, appends, 3, "g")
	ok(t, d, appends, 3)
	ok(t, d, appends, 3, "", "")
	ok(t, d, appends, 3, "\x00\xff", "hi")
	wantRead(t, d, 3, "abcdefg\x00\xffhi")
	ok(t, d, appends, 1, "other")
	wantRead(t, d, 3, "abcdefg\x00\xffhi")
	wantRead(t, d, 1, "other")
	wantAll(t, d, 100-16, 6, 1, 3)
}

// P14.2: Append makes a file, also without bytes, and without room.
func TestAppendMakesFiles(t *testing.T) {
	d := made(t, 0)
	ok(t, d, appends, 4)
	ok(t, d, appends, 2, "")
	ok(t, d, appends, 9, "", "", "")
	if err := d.Append(7, nil, []byte{}, nil); err != api.OK {
		t.Fatal(err)
	}
	if err := d.Append(6, [][]byte(nil)...); err != api.OK {
		t.Fatal(err)
	}
	wantAll(t, d, 0, 5, 2, 4, 6, 7, 9)
	for _, file := range d.Files() {
		wantRead(t, d, file, "")
		ok(t, d, syncs, file)
	}
}

// P14.2: what was added is not safe yet, also behind what is safe.
func TestAppendIsNotSafe(t *testing.T) {
	d := made(t, 100)
	ok(t, d, appends, 1, "ab")
	ok(t, d, syncs, 1)
	ok(t, d, appends, 1, "cd")
	ok(t, d, appends, 2, "ef")
	d.Crash()
	wantRead(t, d, 1, "ab")
	wantRead(t, d, 2, "")
}

// P14.2: what fits is asked of all files, and of all lists.
func TestAppendIsFull(t *testing.T) {
	d := made(t, 10)
	ok(t, d, appends, 1, "abcd")
	ok(t, d, appends, 2, "efg")
	for _, l := range [][]string{{"hijk"}, {"h", "i", "j", "k"}, {"hij", "", "k"}, {strings.Repeat("x", 5000)}} {
		want(t, d, api.ErrFull, appends, 2, l...)
		want(t, d, api.ErrFull, appends, 1, l...)
		want(t, d, api.ErrFull, appends, 3, l...)
		wantNone(t, d, 3, api.ErrNone)
		wantAll(t, d, 3, 2, 1, 2)
	}
	wantRead(t, d, 1, "abcd")
	wantRead(t, d, 2, "efg")
	ok(t, d, appends, 3, "h", "ij")
	wantAll(t, d, 0, 3, 1, 2, 3)
	want(t, d, api.ErrFull, appends, 4, "k")
	want(t, d, api.ErrFull, appends, 3, "", "k")
	ok(t, d, appends, 4)
	wantAll(t, d, 0, 4, 1, 2, 3, 4)
}

// P14.2: an Append that is refused leaves also what is safe as it was.
func TestRefusedOperationsChangeNothing(t *testing.T) {
	d := made(t, 6)
	ok(t, d, appends, 1, "ab")
	ok(t, d, syncs, 1)
	ok(t, d, appends, 1, "cd")
	want(t, d, api.ErrFull, appends, 1, "ef", "g")
	want(t, d, api.ErrNone, syncs, 2)
	want(t, d, api.ErrNone, deletes, 2)
	wantAll(t, d, 2, 3, 1)
	wantRead(t, d, 1, "abcd")
	d.Arm(0)
	for kind := range reads {
		want(t, d, api.ErrDead, kind, 1, "e")
		wantAll(t, d, 2, 3, 1)
	}
	d.Crash()
	wantRead(t, d, 1, "ab")
	wantAll(t, d, 4, 3, 1)
}

// P14.2: Sync
func TestSyncMakesSafe(t *testing.T) {
	d := made(t, 100)
	ok(t, d, appends, 1, "ab")
	ok(t, d, appends, 2, "cd")
	ok(t, d, appends, 1, "ef")
	ok(t, d, syncs, 1)
	ok(t, d, syncs, 1)
	wantAll(t, d, 94, 5, 1, 2)
	wantRead(t, d, 1, "abef")
	d.Crash()
	wantRead(t, d, 1, "abef")
	wantRead(t, d, 2, "")
}

// P14.2: Delete gives room back; a file that is laid again is another one, of which nothing is safe.
func TestDeleteIsForGood(t *testing.T) {
	d := made(t, 10)
	ok(t, d, appends, 1, "abcdef")
	ok(t, d, appends, 2, "gh")
	ok(t, d, syncs, 1)
	ok(t, d, appends, 1, "ij")
	ok(t, d, deletes, 1)
	wantAll(t, d, 8, 5, 2)
	wantNone(t, d, 1, api.ErrNone)
	want(t, d, api.ErrNone, syncs, 1)
	want(t, d, api.ErrNone, deletes, 1)
	d.Crash(api.Tail{File: 1, Keep: 4, Turn: 1}, api.Tail{File: 2, Keep: 9})
	wantAll(t, d, 8, 5, 2)
	ok(t, d, appends, 1, "klmnopqr")
	wantRead(t, d, 1, "klmnopqr")
	want(t, d, api.ErrFull, appends, 1, "s")
	d.Crash()
	wantRead(t, d, 1, "")
	wantRead(t, d, 2, "gh")
	wantAll(t, d, 8, 6, 1, 2)
}

// P14.2, P14.3: numbers that no file has are refused ahead of all else, and do nothing.
func TestWrongFiles(t *testing.T) {
	d := made(t, 4)
	ok(t, d, appends, 1, "ab")
	for _, off := range []bool{false, true} {
		for _, file := range wrong() {
			for kind := appends; kind <= reads; kind++ {
				want(t, d, api.ErrArg, kind, file)
				want(t, d, api.ErrArg, kind, file, "longer than all room")
			}
			wantNone(t, d, file, api.ErrArg)
		}
		wantAll(t, d, 2, 1, 1)
		wantDead(t, d, off)
		fails(t, d)
	}
}

// P14.2, P14.3: the first and the last file's number are numbers like others.
func TestFirstAndLastFile(t *testing.T) {
	for _, file := range []int{1, 2, api.MaxFiles - 1, api.MaxFiles} {
		d := made(t, 4)
		wantNone(t, d, file, api.ErrNone)
		want(t, d, api.ErrNone, syncs, file)
		want(t, d, api.ErrNone, deletes, file)
		want(t, d, api.ErrFull, appends, file, "abcde")
		ok(t, d, appends, file, "abc")
		want(t, d, api.ErrFull, appends, file, "de")
		ok(t, d, syncs, file)
		wantAll(t, d, 1, 2, file)
		fails(t, d)
		for kind := appends; kind <= reads; kind++ {
			want(t, d, api.ErrDead, kind, file, "de")
			want(t, d, api.ErrDead, kind, api.MaxFiles+1-file, "abcde")
		}
		wantNone(t, d, file, api.ErrDead)
		wantAll(t, d, 1, 2, file)
		d.Crash()
		wantRead(t, d, file, "abc")
		ok(t, d, deletes, file)
		wantAll(t, d, 4, 3)
	}
}

// P14.3: Read tells what is safe, and what is not.
func TestRead(t *testing.T) {
	d := made(t, 20)
	ok(t, d, appends, 8, "ab")
	wantRead(t, d, 8, "ab")
	ok(t, d, syncs, 8)
	wantRead(t, d, 8, "ab")
	ok(t, d, appends, 8, "cd")
	wantRead(t, d, 8, "abcd")
	wantRead(t, d, 8, "abcd")
	wantAll(t, d, 16, 3, 8)
	ok(t, d, deletes, 8)
	wantNone(t, d, 8, api.ErrNone)
}

// P14.3: Files rise, whatever the order in which they came, also with the power off.
func TestFilesRise(t *testing.T) {
	d := made(t, 0)
	for _, file := range []int{500, 3, api.MaxFiles, 77, 1, 999, 4, 2} {
		ok(t, d, appends, file)
	}
	all := []int{1, 2, 3, 4, 77, 500, 999, api.MaxFiles}
	wantAll(t, d, 0, 8, all...)
	fails(t, d)
	wantAll(t, d, 0, 8, all...)
	d.Crash()
	ok(t, d, deletes, 77)
	wantAll(t, d, 0, 9, slices.Delete(all, 4, 5)...)
}

// P14.3: there may be a file of each number.
func TestAllFiles(t *testing.T) {
	d := made(t, 3*api.MaxFiles)
	var all []int
	for file := api.MaxFiles; file >= 1; file-- {
		ok(t, d, appends, file, string(rune('a'+file%26)), "xy")
		all = append(all, file)
	}
	slices.Reverse(all)
	wantAll(t, d, 0, api.MaxFiles, all...)
	for _, file := range all {
		wantRead(t, d, file, string(rune('a'+file%26))+"xy")
		if file%2 == 0 {
			ok(t, d, syncs, file)
		}
	}
	d.Crash(api.Tail{File: 1, Keep: 2}, api.Tail{File: 2, Keep: 2, Turn: 255})
	for _, file := range all[2:] {
		wantRead(t, d, file, strings.Repeat(string(rune('a'+file%26))+"xy", 1-file%2))
	}
	wantRead(t, d, 1, "bx")
	wantRead(t, d, 2, "cxy")
	wantAll(t, d, 3*api.MaxFiles/2-2, 3*api.MaxFiles/2, all...)
}

// P14.3: Free counts what is safe, and what is not, also with the power off.
func TestFree(t *testing.T) {
	d := made(t, 10)
	ok(t, d, appends, 1, "abc")
	ok(t, d, syncs, 1)
	ok(t, d, appends, 1, "de")
	ok(t, d, appends, 2, "f")
	wantAll(t, d, 4, 4, 1, 2)
	fails(t, d)
	wantAll(t, d, 4, 4, 1, 2)
	d.Crash(api.Tail{File: 1, Keep: 1})
	wantAll(t, d, 6, 4, 1, 2)
	ok(t, d, deletes, 1)
	wantAll(t, d, 10, 5, 2)
}

// P14.2 to P14.4: every call upon a nil drum, whatever the file.
func TestNilDrum(t *testing.T) {
	var d *drum.Drum
	d.Arm(0)
	d.Arm(-1)
	d.Crash()
	d.Crash(api.Tail{File: 1, Keep: 1, Turn: 1})
	for _, file := range append(wrong(), 1, 2, api.MaxFiles) {
		for kind := appends; kind <= reads; kind++ {
			want(t, d, api.ErrNone, kind, file)
			want(t, d, api.ErrNone, kind, file, "ab", "c")
		}
		wantNone(t, d, file, api.ErrNone)
	}
	wantAll(t, d, 0, 0)
	wantDead(t, d, false)
}

// Rule 4: a drum hangs on the calls on it alone.
func TestDrumsLieApart(t *testing.T) {
	a, b := made(t, 10), made(t, 10)
	ok(t, a, appends, 1, "abc")
	ok(t, b, appends, 1, "de")
	a.Arm(0)
	ok(t, b, syncs, 1)
	want(t, a, api.ErrDead, syncs, 1)
	b.Crash()
	wantDead(t, a, true)
	wantDead(t, b, false)
	wantRead(t, b, 1, "de")
	a.Crash()
	wantRead(t, a, 1, "")
	wantAll(t, a, 10, 1, 1)
	wantAll(t, b, 8, 2, 1)
}

// The chapter's example.
func TestExampleOfTheChapter(t *testing.T) {
	d := made(t, 10)
	ok(t, d, appends, 1, "ab")
	ok(t, d, syncs, 1)
	ok(t, d, appends, 1, "cd")
	d.Crash(api.Tail{File: 1, Keep: 1, Turn: 0})
	wantRead(t, d, 1, "abc")
}

// P14.2: bytes of every kind, in lists of every length, come back as they were laid.
func TestEachByte(t *testing.T) {
	d := made(t, api.MaxRoom)
	var all []byte
	for n := range 256 {
		l := bytes.Repeat([]byte{byte(n)}, n)
		if err := d.Append(9, l, []byte{byte(n)}); err != api.OK {
			t.Fatal(err)
		}
		all = append(append(all, l...), byte(n))
	}
	ok(t, d, syncs, 9)
	d.Crash()
	wantRead(t, d, 9, string(all))
}
