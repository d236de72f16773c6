package journal_test

import (
	"bytes"
	"encoding/binary"
	"hash/fnv"
	"slices"
	"strings"
	"testing"

	"folkmoot/api"
	"folkmoot/drum"
	"folkmoot/journal"
)

// made is a drum of that room.
func made(t *testing.T, room int) *drum.Drum {
	t.Helper()
	d, err := drum.New(room)
	if d == nil || err != api.OK {
		t.Fatalf("New(%d): %v, %d", room, d, err)
	}
	return d
}

// lay puts texts into a file of a drum, and makes them safe.
func lay(t *testing.T, d *drum.Drum, file int, l ...string) {
	t.Helper()
	if err := d.Append(file, []byte(strings.Join(l, ""))); err != api.OK {
		t.Fatal(err)
	}
	if err := d.Sync(file); err != api.OK {
		t.Fatal(err)
	}
}

// laid is a frame, laid a second way, whatever its first byte.
func laid(first byte, payload string) string {
	b := binary.LittleEndian.AppendUint32([]byte{first}, uint32(len(payload)))
	b = append(b, payload...)
	sum := fnv.New64a()
	sum.Write(b)
	return string(binary.LittleEndian.AppendUint64(b, sum.Sum64()))
}

func rec(payload string) string { return laid(0, payload) }
func bas(payload string) string { return laid(1, payload) }

// texts is lists of bytes as texts.
func texts(l [][]byte) []string {
	var all []string
	for _, b := range l {
		all = append(all, string(b))
	}
	return all
}

// brief is texts, cut short where they are long.
func brief(l []string) []string {
	var all []string
	for _, s := range l {
		all = append(all, s[:min(len(s), 40)])
	}
	return all
}

// wantOpen opens a journal, which is to tell a base and records.
func wantOpen(t *testing.T, d *drum.Drum, size, file int, base string, records ...string) *journal.Journal {
	t.Helper()
	j, b, l, err := journal.Open(d, size)
	if j == nil || err != api.OK {
		t.Fatalf("Open: %v, %d", j, err)
	}
	if string(b) != base || !slices.Equal(texts(l), records) {
		t.Fatalf("Open: %q, %q, want %q, %q", brief([]string{string(b)}), brief(texts(l)), brief([]string{base}), brief(records))
	}
	wantFile(t, j, file, false)
	return j
}

// begun is a journal upon a drum without files.
func begun(t *testing.T, room, size int) (*drum.Drum, *journal.Journal) {
	t.Helper()
	d := made(t, room)
	return d, wantOpen(t, d, size, 1, "")
}

// wantFile asks for the journal's file, and whether it is broken.
func wantFile(t *testing.T, j *journal.Journal, file int, broken bool) {
	t.Helper()
	if j.File() != file || j.Broken() != broken {
		t.Fatalf("File %d, Broken %v, want %d, %v", j.File(), j.Broken(), file, broken)
	}
}

// wantDrum asks for all that lies on a drum: of each file, by rising numbers, the number and the text.
func wantDrum(t *testing.T, d *drum.Drum, files []int, l ...string) {
	t.Helper()
	if !slices.Equal(d.Files(), files) {
		t.Fatalf("Files: %d, want %d", d.Files(), files)
	}
	for i, file := range files {
		if b, err := d.Read(file); string(b) != l[i] || err != api.OK {
			t.Fatalf("file %d: %q, %d, want %q", file, brief([]string{string(b)}), err, brief(l[i:i+1]))
		}
	}
}

// The calls that add, sync or rewrite.
const (
	appends = iota
	syncs
	rewrites
)

// call makes one of these calls.
func call(j *journal.Journal, kind int, payload string) api.Errno {
	switch kind {
	case appends:
		return j.Append([]byte(payload))
	case syncs:
		return j.Sync()
	}
	return j.Rewrite([]byte(payload))
}

// want makes one of these calls, and holds what it answers against an error.
func want(t *testing.T, j *journal.Journal, wanted api.Errno, kind int, payload string) {
	t.Helper()
	if err := call(j, kind, payload); err != wanted {
		t.Fatalf("call %d: %d, want %d", kind, err, wanted)
	}
}

// ok makes a call that is OK, and asks how many operations it has done.
func ok(t *testing.T, d *drum.Drum, j *journal.Journal, ops, kind int, payload string) {
	t.Helper()
	before := d.Ops()
	want(t, j, api.OK, kind, payload)
	if d.Ops() != before+ops {
		t.Fatalf("call %d: %d operations, want %d", kind, d.Ops()-before, ops)
	}
}

// add appends records.
func add(t *testing.T, j *journal.Journal, l ...string) {
	t.Helper()
	for _, s := range l {
		want(t, j, api.OK, appends, s)
	}
}

// The chapter's example.
func TestExampleOfTheChapter(t *testing.T) {
	d, j := begun(t, 1000, 100)
	add(t, j, "a")
	want(t, j, api.OK, syncs, "")
	add(t, j, "b")
	d.Crash()
	j = wantOpen(t, d, 100, 2, "", "a")
	want(t, j, api.OK, rewrites, "x")
	add(t, j, "c")
	want(t, j, api.OK, syncs, "")
	d.Crash()
	wantOpen(t, d, 100, 3, "x", "c")
}

// P15.5: every call upon a nil Journal.
func TestNilJournal(t *testing.T) {
	var j *journal.Journal
	long := strings.Repeat("x", api.MaxFlat+1)
	for _, payload := range []string{"", "a", long[1:], long} {
		for kind := appends; kind <= rewrites; kind++ {
			want(t, j, api.ErrNone, kind, payload)
			wantFile(t, j, 0, false)
		}
	}
	if err := j.Append(nil); err != api.ErrNone {
		t.Error(err)
	}
	if err := j.Rewrite(nil); err != api.ErrNone {
		t.Error(err)
	}
}

// P15.3, P15.4: nil is a payload like the empty one.
func TestNilPayloads(t *testing.T) {
	d, j := begun(t, 1000, 100)
	if err := j.Append(nil); err != api.OK {
		t.Fatal(err)
	}
	wantDrum(t, d, []int{1}, rec(""))
	if err := j.Rewrite(nil); err != api.OK {
		t.Fatal(err)
	}
	wantDrum(t, d, []int{2}, bas(""))
}

// Rule 4: a journal hangs on the calls on it, and on its drum, alone.
func TestJournalsLieApart(t *testing.T) {
	d, j := begun(t, 1000, 1)
	e, k := begun(t, 1000, 100)
	add(t, j, "a", "b", "c")
	add(t, k, "d", "e")
	wantFile(t, j, 3, false)
	wantFile(t, k, 1, false)
	d.Arm(0)
	want(t, j, api.ErrDead, syncs, "")
	want(t, k, api.OK, syncs, "")
	wantFile(t, j, 3, true)
	wantFile(t, k, 1, false)
	wantDrum(t, e, []int{1}, rec("d")+rec("e"))
}

// Rule 3: what is handed in is not changed, its spare room neither, whatever is answered.
func TestWhatIsHandedInStays(t *testing.T) {
	for _, room := range []int{0, 14, 20, 40, 1000} {
		for _, size := range []int{1, 15, 1000} {
			d, j := begun(t, room, size)
			b := append([]byte("payload"), "spare room"...)[:7]
			old := bytes.Clone(b[:cap(b)])
			for i := range 12 {
				d.Arm(1 - i%6)
				j.Append(b)
				j.Sync()
				j.Rewrite(b)
				if j.Broken() {
					d.Crash()
					j, _, _, _ = journal.Open(d, size)
				}
				if !bytes.Equal(b[:cap(b)], old) {
					t.Fatalf("room %d, size %d: %q", room, size, b[:cap(b)])
				}
			}
		}
	}
}

// Rule 3: bytes that came in stay the caller's.
func TestPayloadsAreNotKept(t *testing.T) {
	d, j := begun(t, 1000, 100)
	b := []byte("abc")
	if err := j.Append(b); err != api.OK {
		t.Fatal(err)
	}
	copy(b, "xyz")
	wantDrum(t, d, []int{1}, rec("abc"))
	if err := j.Rewrite(b); err != api.OK {
		t.Fatal(err)
	}
	copy(b, "pqr")
	add(t, j, "more")
	wantDrum(t, d, []int{2}, bas("xyz")+rec("more"))
	wantOpen(t, d, 100, 3, "xyz", "more")
}

// Rule 3: what is answered may be written over, spare room too: the journal, another answer and the rest of this one stay.
func TestAnswersLieApart(t *testing.T) {
	d := made(t, 1000)
	lay(t, d, 1, bas("base"), rec(""), rec("one"), rec("a longer record"), rec("one"))
	lay(t, d, 2, rec("two"))
	_, base, records, _ := journal.Open(d, 100)
	all := append(slices.Clone(records), base)
	for i, b := range all {
		old := texts(all)
		for k := range b[:cap(b)] {
			b[:cap(b)][k] = '!'
		}
		old[i] = string(b)
		if !slices.Equal(texts(all), old) {
			t.Fatalf("list %d: %q, were %q", i, texts(all), old)
		}
	}
	clear(records[:cap(records)])
	j := wantOpen(t, d, 100, 3, "base", "", "one", "a longer record", "one", "two")
	want(t, j, api.OK, rewrites, "new")
	wantOpen(t, d, 100, 4, "new")
}
