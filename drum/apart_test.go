package drum_test

import (
	"bytes"
	"slices"
	"testing"

	"folkmoot/api"
	"folkmoot/drum"
)

// roomy is a copy of a list with spare elements behind it.
func roomy[T any](l []T, spare T) []T { return append(slices.Clone(l), spare, spare, spare)[:len(l)] }

// whole is a list, and its spare room.
func whole[T any](l []T) []T { return l[:cap(l)] }

// spoil writes over all of a list, and over its spare room.
func spoil[T any](l []T, with T) {
	for i := range whole(l) {
		whole(l)[i] = with
	}
}

// useAll makes each call of a drum, some of them with an error.
func useAll(d *drum.Drum, b [][]byte, tails []api.Tail) {
	d.Append(1, b...)
	d.Append(1, b...)
	d.Append(0, b...)
	d.Append(2, b...)
	d.Sync(1)
	d.Append(1, b...)
	d.Delete(2)
	d.Append(2, b...)
	d.Crash(tails...)
	d.Append(2, b...)
	d.Arm(0)
	d.Append(1, b...)
	d.Crash(tails...)
	d.Append(1, b...)
}

// Rule 3: what is handed in is not changed, its spare room neither, whatever is answered.
func TestWhatIsHandedInStays(t *testing.T) {
	for _, room := range []int{0, 4, 12, 100} {
		b := roomy([][]byte{roomy([]byte("ab"), '.'), nil, roomy([]byte("c"), '.'), roomy([]byte(""), '.')}, []byte("spare"))
		tails := roomy([]api.Tail{tail(2, 1, 255), tail(1, 2, 255), tail(9, 1, 1), tail(1, -1, 1)}, tail(7, 7, 7))
		var old [][]byte
		for _, l := range whole(b) {
			old = append(old, bytes.Clone(whole(l)))
		}
		oldTails := slices.Clone(whole(tails))

		useAll(made(t, room), b, tails)

		if !slices.EqualFunc(whole(b), old, func(x, y []byte) bool { return bytes.Equal(whole(x), y) }) {
			t.Errorf("room %d: lists: %q, were %q", room, b, old)
		}
		if !slices.Equal(whole(tails), oldTails) {
			t.Errorf("room %d: tails: %v, were %v", room, tails, oldTails)
		}
	}
}

// Rule 3: lists that came in stay the caller's.
func TestListsAreNotKept(t *testing.T) {
	d := made(t, 100)
	for _, text := range []string{"abcdef", "x", "a longer text than the others"} {
		b := roomy([][]byte{roomy([]byte(text), '.'), roomy([]byte("z"), '.')}, []byte("spare"))
		if err := d.Append(1, b...); err != api.OK {
			t.Fatal(err)
		}
		spoil(b[0], '!')
		spoil(b[1], '!')
		spoil(b, []byte("other"))
		wantRead(t, d, 1, text+"z")
		ok(t, d, appends, 1, "q")
		if !bytes.Equal(b[0], []byte("other")) {
			t.Fatalf("%q", b[0])
		}
		wantRead(t, d, 1, text+"zq")
		ok(t, d, syncs, 1)
		d.Crash()
		wantRead(t, d, 1, text+"zq")
		ok(t, d, deletes, 1)
	}
}

// Rule 3: one list for two files, and twice in one: each has bytes of its own.
func TestOneListInTwoFiles(t *testing.T) {
	d := made(t, 100)
	l := []byte("ab")
	if d.Append(1, l, l) != api.OK || d.Append(2, l) != api.OK {
		t.Fatal("no room")
	}
	d.Crash(tail(1, 4, 1), tail(2, 2, 3))
	wantRead(t, d, 1, "abac")
	wantRead(t, d, 2, "aa")
	if string(l) != "ab" {
		t.Fatalf("%q", l)
	}
}

// Rule 3: bytes that are answered are new each time, and may be written over, safe or not, ahead of a crash and behind it.
func TestAnswersLieApart(t *testing.T) {
	d := made(t, 100)
	ok(t, d, appends, 1, "abcd")
	checkApart(t, d, 1, "abcd")
	ok(t, d, syncs, 1)
	checkApart(t, d, 1, "abcd")
	ok(t, d, appends, 1, "efg")
	checkApart(t, d, 1, "abcdefg")
	d.Crash(tail(1, 2, 0))
	checkApart(t, d, 1, "abcdef")
	ok(t, d, appends, 1)
	d.Crash()
	checkApart(t, d, 1, "abcdef")
	ok(t, d, appends, 2)
	checkApart(t, d, 2, "")
}

// checkApart writes over what is read of a file, and over its spare room, and goes on.
func checkApart(t *testing.T, d *drum.Drum, file int, text string) {
	t.Helper()
	a, _ := d.Read(file)
	b, _ := d.Read(file)
	spoil(a, '!')
	if string(b) != text {
		t.Fatalf("the other answer: %q, was %q", b, text)
	}
	wantRead(t, d, file, text)
	_ = append(b, "spoilt"...)
	wantRead(t, d, file, text)
	files, again := d.Files(), d.Files()
	spoil(files, 77)
	if !slices.Contains(again, file) || slices.Contains(again, 77) || slices.Contains(d.Files(), 77) {
		t.Fatalf("Files: %d", d.Files())
	}
}

// Rule 3: an answer stays as it was told, whatever comes behind it.
func TestAnswersStay(t *testing.T) {
	d := made(t, 100)
	ok(t, d, appends, 1, "abcd")
	loose, _ := d.Read(1)
	ok(t, d, appends, 1, "efgh")
	more, _ := d.Read(1)
	files := d.Files()
	d.Crash(tail(1, 4, 255))
	ok(t, d, appends, 1, "ijkl")
	ok(t, d, deletes, 1)
	ok(t, d, appends, 2, "mnop")
	if string(loose) != "abcd" || string(more) != "abcdefgh" || !slices.Equal(files, []int{1}) {
		t.Errorf("%q, %q, %d", loose, more, files)
	}
}
