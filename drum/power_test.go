package drum_test

import (
	"math"
	"runtime"
	"strings"
	"testing"

	"folkmoot/api"
	"folkmoot/drum"
)

// tail is how much of a file is kept, and what its last byte is turned by.
func tail(file, keep int, turn byte) api.Tail { return api.Tail{File: file, Keep: keep, Turn: turn} }

// halves is a drum with a safe "ab" and a loose "cde" in file 1, a loose "fg" in file 2, a safe "h" in file 3.
func halves(t *testing.T) *drum.Drum {
	t.Helper()
	d := made(t, 20)
	ok(t, d, appends, 1, "ab")
	ok(t, d, syncs, 1)
	ok(t, d, appends, 1, "cde")
	ok(t, d, appends, 2, "fg")
	ok(t, d, appends, 3, "h")
	ok(t, d, syncs, 3)
	wantAll(t, d, 12, 6, 1, 2, 3)
	return d
}

// wantHalves reads the three files.
func wantHalves(t *testing.T, d *drum.Drum, first, second, third string) {
	t.Helper()
	wantRead(t, d, 1, first)
	wantRead(t, d, 2, second)
	wantRead(t, d, 3, third)
	wantAll(t, d, 20-len(first+second+third), 6, 1, 2, 3)
	wantDead(t, d, false)
}

// P14.4: each n lets so many operations be done; the next one, and all behind it, are not.
func TestArmCounts(t *testing.T) {
	for n := range 12 {
		d := made(t, 100)
		ok(t, d, appends, 1, "ab")
		d.Arm(n)
		for i := range n {
			wantDead(t, d, false)
			ok(t, d, []int{appends, syncs}[i%2], 1, "c")
		}
		wantDead(t, d, false)
		wantRead(t, d, 1, "ab"+strings.Repeat("c", (n+1)/2))
		for range 3 {
			want(t, d, api.ErrDead, appends, 1, "d")
			wantDead(t, d, true)
			wantNone(t, d, 1, api.ErrDead)
			wantAll(t, d, 98-(n+1)/2, 1+n, 1)
		}
	}
}

// P14.4: below 0 the power does not go off, however many operations there are.
func TestArmBelowNought(t *testing.T) {
	for _, n := range []int{-1, -2, -1000, math.MinInt, math.MinInt + 1} {
		for _, ahead := range []int{-1, 0, 5, math.MinInt} {
			d := made(t, 0)
			d.Arm(ahead)
			d.Arm(n)
			for range 1100 {
				ok(t, d, appends, 1)
			}
			wantDead(t, d, false)
			wantAll(t, d, 0, 1100, 1)
		}
	}
}

// P14.4: a very great n is not reached.
func TestArmFarOff(t *testing.T) {
	d := made(t, 0)
	d.Arm(math.MaxInt)
	for range 2000 {
		ok(t, d, appends, 1)
	}
	wantDead(t, d, false)
}

// P14.4: each kind of operation counts, whatever it answers, but for ErrArg; other calls don't.
func TestWhatCounts(t *testing.T) {
	each := []struct {
		kind, file int
		text       string
		err        api.Errno
	}{
		{appends, 1, "x", api.OK}, {appends, 5, "", api.OK}, {appends, 1, "xx", api.ErrFull}, {appends, 6, "xx", api.ErrFull},
		{syncs, 1, "", api.OK}, {syncs, 7, "", api.ErrNone}, {deletes, 1, "", api.OK}, {deletes, 7, "", api.ErrNone},
	}
	for _, a := range each {
		for _, b := range each {
			d := made(t, 3)
			ok(t, d, appends, 1, "ab")
			d.Arm(1)
			notCounted(t, d)
			want(t, d, a.err, a.kind, a.file, a.text)
			notCounted(t, d)
			wantDead(t, d, false)
			want(t, d, api.ErrDead, b.kind, b.file, b.text)
			wantDead(t, d, true)
		}
	}
}

// notCounted makes calls that are no operations, and operations that answer ErrArg.
func notCounted(t *testing.T, d *drum.Drum) {
	t.Helper()
	for _, file := range wrong() {
		for kind := appends; kind <= reads; kind++ {
			want(t, d, api.ErrArg, kind, file, "x")
		}
	}
	for _, file := range []int{1, 2, api.MaxFiles} {
		call(d, reads, file)
	}
	d.Files()
	d.Free()
	d.Dead()
	d.Ops()
}

// P14.4: all of them in one row.
func TestArmThroughAllKinds(t *testing.T) {
	d := made(t, 3)
	d.Arm(8)
	ok(t, d, appends, 1, "ab")
	want(t, d, api.ErrFull, appends, 1, "cd")
	want(t, d, api.ErrFull, appends, 2, "cd")
	notCounted(t, d)
	ok(t, d, syncs, 1)
	want(t, d, api.ErrNone, syncs, 2)
	ok(t, d, deletes, 1)
	want(t, d, api.ErrNone, deletes, 1)
	ok(t, d, appends, 2)
	notCounted(t, d)
	wantDead(t, d, false)
	want(t, d, api.ErrDead, syncs, 9)
	wantDead(t, d, true)
	wantAll(t, d, 3, 4, 2)
	notCounted(t, d)
	d.Crash()
	wantAll(t, d, 3, 4, 2)
}

// P14.4: what Arm says last is what holds.
func TestArmAgain(t *testing.T) {
	d := made(t, 100)
	d.Arm(1)
	d.Arm(3)
	ok(t, d, appends, 1)
	ok(t, d, appends, 1)
	d.Arm(2)
	ok(t, d, appends, 1)
	ok(t, d, appends, 1)
	d.Arm(1)
	ok(t, d, appends, 1)
	d.Arm(7)
	d.Arm(0)
	want(t, d, api.ErrDead, appends, 1)
	wantDead(t, d, true)
	wantAll(t, d, 100, 5, 1)
}

// P14.4: power that is off stays off until a Crash, whatever is armed; behind that nothing is armed.
func TestArmWithThePowerOff(t *testing.T) {
	for _, n := range []int{-1, 0, 1, 5, math.MaxInt, math.MinInt} {
		d := made(t, 100)
		ok(t, d, appends, 1, "a")
		ok(t, d, syncs, 1)
		fails(t, d)
		d.Arm(n)
		for kind := appends; kind <= reads; kind++ {
			want(t, d, api.ErrDead, kind, 1, "b")
			want(t, d, api.ErrDead, kind, 2, "b")
		}
		wantDead(t, d, true)
		wantAll(t, d, 99, 2, 1)
		d.Crash()
		wantDead(t, d, false)
		for range 20 {
			ok(t, d, appends, 1, "c")
		}
		wantRead(t, d, 1, "a"+strings.Repeat("c", 20))
	}
}

// P14.4: Crash without tails: what is safe stays, and nothing else.
func TestCrashKeepsWhatIsSafe(t *testing.T) {
	d := halves(t)
	d.Crash()
	wantHalves(t, d, "ab", "", "h")
	d.Crash()
	wantHalves(t, d, "ab", "", "h")
	d.Crash([]api.Tail{}...)
	wantHalves(t, d, "ab", "", "h")
}

// P14.4: each Keep of each file, and each kind of Turn.
func TestTails(t *testing.T) {
	for _, c := range []struct {
		l                    []api.Tail
		first, second, third string
	}{
		{[]api.Tail{tail(1, 0, 0)}, "ab", "", "h"},
		{[]api.Tail{tail(1, 1, 0)}, "abc", "", "h"},
		{[]api.Tail{tail(1, 2, 0)}, "abcd", "", "h"},
		{[]api.Tail{tail(1, 3, 0)}, "abcde", "", "h"},
		{[]api.Tail{tail(1, 4, 0)}, "abcde", "", "h"},
		{[]api.Tail{tail(1, 5, 0)}, "abcde", "", "h"},
		{[]api.Tail{tail(1, math.MaxInt, 0)}, "abcde", "", "h"},
		{[]api.Tail{tail(1, -1, 0)}, "ab", "", "h"},
		{[]api.Tail{tail(1, -2, 1)}, "ab", "", "h"},
		{[]api.Tail{tail(1, math.MinInt, 255)}, "ab", "", "h"},
		{[]api.Tail{tail(1, 0, 1)}, "ab", "", "h"},
		{[]api.Tail{tail(1, 1, 1)}, "abb", "", "h"},
		{[]api.Tail{tail(1, 2, 0x20)}, "abcD", "", "h"},
		{[]api.Tail{tail(1, 3, 0xff)}, "abcd\x9a", "", "h"},
		{[]api.Tail{tail(1, 9, 0x80)}, "abcd\xe5", "", "h"},
		{[]api.Tail{tail(2, 0, 7)}, "ab", "", "h"},
		{[]api.Tail{tail(2, 1, 'f')}, "ab", "\x00", "h"},
		{[]api.Tail{tail(2, 2, 1)}, "ab", "ff", "h"},
		{[]api.Tail{tail(3, 0, 1)}, "ab", "", "h"},
		{[]api.Tail{tail(3, 1, 1)}, "ab", "", "h"},
		{[]api.Tail{tail(3, math.MaxInt, 255)}, "ab", "", "h"},
		{[]api.Tail{tail(2, 1, 0), tail(1, 1, 0)}, "abc", "f", "h"},
		{[]api.Tail{tail(3, 1, 9), tail(2, 2, 0), tail(1, 3, 1)}, "abcdd", "fg", "h"},
	} {
		d := halves(t)
		d.Crash(c.l...)
		wantHalves(t, d, c.first, c.second, c.third)
	}
}

// P14.4: of several tails of a file the first one alone is heard.
func TestFirstTailIsHeard(t *testing.T) {
	for _, c := range []struct {
		l             []api.Tail
		first, second string
	}{
		{[]api.Tail{tail(1, 1, 0), tail(1, 3, 1)}, "abc", ""},
		{[]api.Tail{tail(1, 3, 1), tail(1, 1, 0)}, "abcdd", ""},
		{[]api.Tail{tail(1, 0, 0), tail(1, 3, 0)}, "ab", ""},
		{[]api.Tail{tail(1, -5, 3), tail(1, 3, 0), tail(1, 2, 0)}, "ab", ""},
		{[]api.Tail{tail(1, 2, 0), tail(2, 1, 0), tail(1, 1, 1), tail(2, 2, 1), tail(1, 3, 0)}, "abcd", "f"},
		{[]api.Tail{tail(9, 1, 1), tail(2, 2, 0), tail(1, 1, 0), tail(9, 2, 0), tail(2, 2, 1)}, "abc", "fg"},
		{[]api.Tail{tail(2, 1, 1), tail(2, 1, 1)}, "ab", "g"},
	} {
		d := halves(t)
		d.Crash(c.l...)
		wantHalves(t, d, c.first, c.second, "h")
	}
}

// P14.4: tails of files that there are not make none, and have no part.
func TestTailsOfNoFile(t *testing.T) {
	d := halves(t)
	var l []api.Tail
	for _, file := range append(wrong(), 4, 5, api.MaxFiles) {
		l = append(l, tail(file, 3, 1))
	}
	d.Crash(append(l, tail(1, 1, 0))...)
	wantHalves(t, d, "abc", "", "h")
	wantNone(t, d, 4, api.ErrNone)
	wantNone(t, d, api.MaxFiles, api.ErrNone)

	empty := made(t, 3)
	empty.Crash(l...)
	wantAll(t, empty, 3, 0)
}

// P14.4: a file of which nothing stays is there still, as is one that never had bytes.
func TestEmptyFilesStay(t *testing.T) {
	d := made(t, 10)
	ok(t, d, appends, 1, "abc")
	ok(t, d, appends, 2)
	ok(t, d, appends, 3)
	ok(t, d, syncs, 3)
	for range 2 {
		d.Crash(tail(2, 5, 1), tail(3, 5, 1))
		for file := 1; file <= 3; file++ {
			wantRead(t, d, file, "")
		}
		wantAll(t, d, 10, 4, 1, 2, 3)
	}
	ok(t, d, syncs, 1)
	ok(t, d, deletes, 1)
	ok(t, d, appends, 2, "de")
	wantRead(t, d, 2, "de")
}

// P14.4: all that stays is safe then: a second Crash takes nothing, and turns nothing.
func TestSecondCrash(t *testing.T) {
	d := halves(t)
	d.Crash(tail(1, 2, 1), tail(2, 1, 0))
	wantHalves(t, d, "abce", "f", "h")
	d.Crash()
	wantHalves(t, d, "abce", "f", "h")
	d.Crash(tail(1, 1, 1), tail(2, 9, 255), tail(3, 1, 1))
	wantHalves(t, d, "abce", "f", "h")
}

// P14.4: what is added behind a Crash lies behind what stayed, and is loose again.
func TestAppendBehindCrash(t *testing.T) {
	d := halves(t)
	d.Crash(tail(1, 1, 0))
	for range 3 {
		if err := d.Append(1, []byte("xy"), []byte("z")); err != api.OK {
			t.Fatal(err)
		}
		wantRead(t, d, 1, "abcxyz")
		d.Crash()
		wantRead(t, d, 1, "abc")
	}
	ok(t, d, appends, 1, "pq")
	ok(t, d, syncs, 1)
	ok(t, d, appends, 1, "r")
	d.Crash(tail(1, 1, 2))
	wantRead(t, d, 1, "abcpqp")
	wantAll(t, d, 13, 12, 1, 2, 3)
}

// P14.4: a drum whose power is off crashes as one whose power is on, and is on again.
func TestCrashWithThePowerOff(t *testing.T) {
	d := halves(t)
	fails(t, d)
	d.Crash(tail(1, 2, 1), tail(2, 1, 0))
	wantHalves(t, d, "abce", "f", "h")
	ok(t, d, appends, 1, "i")
	wantRead(t, d, 1, "abcei")
}

// P14.4: behind a Crash nothing is armed.
func TestCrashDisarms(t *testing.T) {
	for _, n := range []int{0, 1, 2, 9} {
		d := halves(t)
		d.Arm(n)
		d.Crash(tail(1, 1, 0))
		wantHalves(t, d, "abc", "", "h")
		for range 30 {
			ok(t, d, syncs, 1)
		}
		wantDead(t, d, false)
		d.Arm(1)
		ok(t, d, appends, 1, "i")
		want(t, d, api.ErrDead, appends, 1, "j")
		d.Crash()
		wantRead(t, d, 1, "abc")
	}
}

// P14.4: Ops counts what answered OK, through crashes too.
func TestOps(t *testing.T) {
	d, done := made(t, 4), 0
	for range 3 {
		for _, s := range []struct {
			kind, file int
			text       string
			err        api.Errno
			done       int
		}{
			{appends, 1, "ab", api.OK, 1}, {appends, 1, "abc", api.ErrFull, 0}, {appends, 0, "a", api.ErrArg, 0},
			{syncs, 1, "", api.OK, 1}, {syncs, 1, "", api.OK, 1}, {syncs, 3, "", api.ErrNone, 0}, {syncs, 1001, "", api.ErrArg, 0},
			{reads, 1, "", api.OK, 0}, {reads, 3, "", api.ErrNone, 0}, {reads, 0, "", api.ErrArg, 0},
			{deletes, 3, "", api.ErrNone, 0}, {appends, 2, "", api.OK, 1}, {deletes, 1, "", api.OK, 1},
			{deletes, 1, "", api.ErrNone, 0}, {deletes, -1, "", api.ErrArg, 0},
		} {
			want(t, d, s.err, s.kind, s.file, s.text)
			done += s.done
			wantOps(t, d, done)
		}
		d.Arm(0)
		for kind := appends; kind <= reads; kind++ {
			want(t, d, api.ErrDead, kind, 2)
			wantOps(t, d, done)
		}
		d.Crash()
		wantOps(t, d, done)
	}
	wantOps(t, d, 15)
}

func wantOps(t *testing.T, d *drum.Drum, done int) {
	t.Helper()
	if d.Ops() != done {
		t.Fatalf("Ops: %d, want %d", d.Ops(), done)
	}
}

// P14.1: bytes that are lost take no memory that the room has not.
func TestLostBytesTakeNoMemory(t *testing.T) {
	d := made(t, api.MaxRoom)
	all := make([]byte, api.MaxRoom)
	before := memory()
	for file := 1; file <= 40; file++ {
		if err := d.Append(file, all); err != api.OK {
			t.Fatal(err)
		}
		d.Crash()
	}
	if now := memory(); now > before+10*api.MaxRoom {
		t.Errorf("%d bytes, and %d ahead of it", now, before)
	}
	wantAll(t, d, api.MaxRoom, 40, d.Files()...)
	runtime.KeepAlive(all)
}

// memory is how many bytes are in use.
func memory() uint64 {
	runtime.GC()
	var m runtime.MemStats
	runtime.ReadMemStats(&m)
	return m.HeapAlloc
}
