package journal_test

import (
	"strings"
	"testing"

	"folkmoot/api"
)

// P15.1: frames, byte by byte.
func TestFrames(t *testing.T) {
	d, j := begun(t, 1000, 1000)
	add(t, j, "ab", "", "\x00\xff")
	wantDrum(t, d, []int{1}, "\x00\x02\x00\x00\x00ab\xf2\x99\xfd\xda\xae\xcd\xc7\xbe"+
		"\x00\x00\x00\x00\x00\x4f\xe9\x2b\x25\xd9\x4f\xbc\xe4"+
		"\x00\x02\x00\x00\x00\x00\xff\x18\xfb\xa3\xda\xae\x62\x5e\xbe")
	want(t, j, api.OK, rewrites, "ab")
	wantDrum(t, d, []int{2}, "\x01\x02\x00\x00\x00ab\x4d\xdd\xaf\x41\xf0\x6e\xaf\x6c")
	want(t, j, api.OK, rewrites, "")
	wantDrum(t, d, []int{3}, "\x01\x00\x00\x00\x00\xec\x7e\xdc\xa7\xae\x6c\x0d\xd8")
}

// P15.1: payloads of each length up to 300, and of the edges, are laid and told.
func TestFramesOfEachLength(t *testing.T) {
	lengths := []int{65535, 65536, api.MaxFlat - 1, api.MaxFlat}
	for n := range 300 {
		lengths = append(lengths, n)
	}
	for _, n := range lengths {
		payload := strings.Repeat("\x01\x00\xfe", n/3+1)[:n]
		d, j := begun(t, api.MaxRoom, 1)
		add(t, j, payload)
		wantDrum(t, d, []int{1}, rec(payload))
		wantOpen(t, d, 1, 2, "", payload)
		want(t, j, api.OK, rewrites, payload)
		wantDrum(t, d, []int{2}, bas(payload))
		wantOpen(t, d, 1, 3, payload)
	}
}

// row is a file's frames, and what Open tells of as many of them as are whole.
type row struct {
	frames  []string
	base    string
	records []string
}

func rows() []row {
	return []row{
		{[]string{rec("one"), rec(""), rec("three"), rec("\x00\x00")}, "", []string{"one", "", "three", "\x00\x00"}},
		{[]string{bas("base"), rec("one"), rec(""), rec("three")}, "base", []string{"one", "", "three"}},
		{[]string{bas(""), rec("\x01\x00\x00\x00\x00"), rec(rec("in")), rec("end")}, "", []string{"\x01\x00\x00\x00\x00", rec("in"), "end"}},
	}
}

// told is what is told of a row's first n frames.
func (r row) told(n int) (string, []string) {
	if n == 0 {
		return "", nil
	}
	if r.frames[0][0] == 1 {
		return r.base, r.records[:n-1]
	}
	return "", r.records[:n]
}

// wantRow opens a journal where a file has these bytes, and asks for what is told of a row's first n frames.
func wantRow(t *testing.T, r row, b string, n int) {
	t.Helper()
	d := made(t, 10000)
	lay(t, d, 5, b)
	base, records := r.told(n)
	wantOpen(t, d, 9, 6, base, records...)
	wantDrum(t, d, []int{5}, b)
}

// starts is where each of a row's frames begins, and where the last one ends.
func (r row) starts() []int {
	at := []int{0}
	for i, f := range r.frames {
		at = append(at, at[i]+len(f))
	}
	return at
}

// P15.1: frames that are cut at each byte.
func TestFramesCutAtEachByte(t *testing.T) {
	for _, r := range rows() {
		all, starts, whole := strings.Join(r.frames, ""), r.starts(), 0
		for n := range len(all) + 1 {
			for whole < len(r.frames) && starts[whole+1] <= n {
				whole++
			}
			wantRow(t, r, all[:n], whole)
		}
		if whole != len(r.frames) {
			t.Fatal(whole)
		}
	}
}

// P15.1: each byte turned in each way: the frame that has it is not whole, and nothing behind it is a frame.
func TestFramesWithAnotherByte(t *testing.T) {
	for _, r := range rows() {
		all, starts, whole := strings.Join(r.frames, ""), r.starts(), 0
		for i := range all {
			if starts[whole+1] <= i {
				whole++
			}
			for turn := 1; turn < 256; turn++ {
				b := []byte(all)
				b[i] ^= byte(turn)
				wantRow(t, r, string(b), whole)
			}
		}
	}
}

// P15.1: each other first byte, also with the sum that belongs to it.
func TestFramesWithAnotherFirstByte(t *testing.T) {
	for first := 2; first < 256; first++ {
		for _, r := range rows() {
			for i, f := range r.frames {
				ahead, behind := strings.Join(r.frames[:i], ""), strings.Join(r.frames[i+1:], "")
				wantRow(t, r, ahead+laid(byte(first), f[5:len(f)-8])+behind, i)
				wantRow(t, r, ahead+string([]byte{byte(first)})+f[1:]+behind, i)
			}
		}
	}
}

// P15.1: another sum, which belongs to other bytes.
func TestFramesWithAnotherSum(t *testing.T) {
	for _, r := range rows() {
		for i, f := range r.frames {
			ahead, behind := strings.Join(r.frames[:i], ""), strings.Join(r.frames[i+1:], "")
			front := f[:len(f)-8]
			for _, other := range []string{rec("other"), bas(f[5 : len(f)-8]), laid(2, f[5:len(f)-8]), rec(front)} {
				if sum := other[len(other)-8:]; sum != f[len(f)-8:] {
					wantRow(t, r, ahead+front+sum+behind, i)
				}
			}
			wantRow(t, r, ahead+front+strings.Repeat("\x00", 8)+behind, i)
			wantRow(t, r, ahead+front+reversed(f[len(f)-8:])+behind, i)
		}
	}
}

func reversed(s string) string {
	var b []byte
	for i := len(s) - 1; i >= 0; i-- {
		b = append(b, s[i])
	}
	return string(b)
}

// P15.1: a base that is not its file's first frame is not whole, and nothing behind it is a frame.
func TestBaseThatIsNotFirst(t *testing.T) {
	for _, r := range rows() {
		for i := 1; i <= len(r.frames); i++ {
			ahead, behind := strings.Join(r.frames[:i], ""), strings.Join(r.frames[i:], "")
			for _, base := range []string{"", "late"} {
				wantRow(t, r, ahead+bas(base)+behind, i)
				wantRow(t, r, ahead+bas(base)+bas("x")+rec("y")+behind, i)
			}
		}
	}
}

// P15.1: bytes that are no frame, behind some frames or behind none, and a frame that is whole behind them.
func TestBytesThatAreNoFrame(t *testing.T) {
	for _, r := range rows() {
		for n := range len(r.frames) + 1 {
			ahead := strings.Join(r.frames[:n], "")
			for _, junk := range []string{
				"\x00", "\x01", "\x02", "\xff", strings.Repeat("\x00", 13), strings.Repeat("\x00", 400),
				strings.Repeat("\x01", 400), strings.Repeat("\xff", 400), "\x00\x01\x00\x00\x00", "\x00\x00\x00\x00\x80",
				"\x00\xff\xff\xff\xff" + rec("long"), "\x00\x00\x00\x00\x80" + rec("long"), "\x00\x01\x00\x10\x00" + rec("long"),
				"\x00\x10\x27\x00\x00" + rec("long"),
			} {
				wantRow(t, r, ahead+junk, n)
				wantRow(t, r, ahead+junk+rec("behind"), n)
			}
		}
	}
}

// P15.1: a payload is a text, so it has at most MaxFlat bytes, whatever its sum.
func TestFrameOfTooLongPayload(t *testing.T) {
	full := strings.Repeat("x", api.MaxFlat)
	for _, first := range []byte{0, 1} {
		d := made(t, api.MaxRoom)
		lay(t, d, 1, rec("front"))
		lay(t, d, 2, laid(first, full+"y"), rec("behind"))
		lay(t, d, 3, rec("end"))
		wantOpen(t, d, 1, 4, "", "front", "end")
	}
	d := made(t, api.MaxRoom)
	lay(t, d, 1, bas(full), rec(full), rec("behind"), rec(full+"y"), rec("lost"))
	wantOpen(t, d, 1, 2, full, full, "behind")
}

// P15.1: a file's frames are told by it alone: a frame does not go on in the next file.
func TestFramesDoNotGoOnInTheNextFile(t *testing.T) {
	f := rec("parted")
	for n := 1; n < len(f); n++ {
		d := made(t, 1000)
		lay(t, d, 1, rec("a"), f[:n])
		lay(t, d, 2, f[n:], rec("lost"))
		lay(t, d, 3, rec("b"))
		wantOpen(t, d, 1, 4, "", "a", "b")
	}
}

// P15.1, P15.2: a drum full of the shortest frames is told soon.
func TestManyFrames(t *testing.T) {
	n := api.MaxRoom / 13
	d := made(t, api.MaxRoom)
	lay(t, d, 1, strings.Repeat(rec(""), n))
	wantOpen(t, d, 1, 2, "", make([]string, n)...)
}
