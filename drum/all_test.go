package drum_test

import (
	"slices"
	"strings"
	"testing"

	"folkmoot/api"
	"folkmoot/drum"
)

// dice answers numbers from 0 on and below n, the same ones in every run.
func dice(seed uint64) func(n int) int {
	return func(n int) int {
		seed = seed*6364136223846793005 + 1442695040888963407
		return int(seed >> 33 % uint64(n))
	}
}

// one is one of these.
func one[T any](dice func(int) int, l ...T) T { return l[dice(len(l))] }

// cell is one byte of a file that is told a second time.
type cell struct {
	b    byte
	safe bool
}

// second is a drum told a second time: each byte by itself, sums reckoned anew, operations counted upwards.
type second struct {
	room       int
	there      [api.MaxFiles + 1]bool
	cells      [api.MaxFiles + 1][]cell
	armed, off bool
	plan, seen int // how many operations are to be done, and how many there were since
	done       int
}

func (s *second) used() int {
	n := 0
	for _, l := range s.cells {
		n += len(l)
	}
	return n
}

// begin is what each operation asks first.
func (s *second) begin(file int) api.Errno {
	if file <= 0 || file >= 1001 {
		return api.ErrArg
	}
	s.seen++
	if s.armed && s.seen > s.plan {
		s.off = true
	}
	if s.off {
		return api.ErrDead
	}
	return api.OK
}

func (s *second) append(file int, text string) api.Errno {
	if err := s.begin(file); err != api.OK {
		return err
	}
	if s.used()+len(text) > s.room {
		return api.ErrFull
	}
	s.there[file] = true
	for _, b := range []byte(text) {
		s.cells[file] = append(s.cells[file], cell{b: b})
	}
	s.done++
	return api.OK
}

func (s *second) sync(file int) api.Errno {
	if err := s.begin(file); err != api.OK {
		return err
	}
	if !s.there[file] {
		return api.ErrNone
	}
	for i := range s.cells[file] {
		s.cells[file][i].safe = true
	}
	s.done++
	return api.OK
}

func (s *second) delete(file int) api.Errno {
	if err := s.begin(file); err != api.OK {
		return err
	}
	if !s.there[file] {
		return api.ErrNone
	}
	s.there[file], s.cells[file] = false, nil
	s.done++
	return api.OK
}

func (s *second) read(file int) (string, api.Errno) {
	switch {
	case file <= 0 || file >= 1001:
		return "", api.ErrArg
	case s.off:
		return "", api.ErrDead
	case !s.there[file]:
		return "", api.ErrNone
	}
	var text strings.Builder
	for _, c := range s.cells[file] {
		text.WriteByte(c.b)
	}
	return text.String(), api.OK
}

func (s *second) files() []int {
	var l []int
	for file, there := range s.there {
		if there {
			l = append(l, file)
		}
	}
	return l
}

func (s *second) arm(n int) { s.armed, s.plan, s.seen = n >= 0, n, 0 }

// crash goes through each file's loose bytes, one by one, as long as its tail lets them stay.
func (s *second) crash(l []api.Tail) {
	s.off, s.armed = false, false
	for file := range s.cells {
		var keep int
		var turn byte
		if i := slices.IndexFunc(l, func(x api.Tail) bool { return x.File == file }); i >= 0 {
			keep, turn = l[i].Keep, l[i].Turn
		}
		var stay []cell
		loose := 0
		for _, c := range s.cells[file] {
			if !c.safe && loose >= keep {
				break
			}
			if !c.safe {
				loose++
			}
			stay = append(stay, cell{b: c.b, safe: true})
		}
		if loose > 0 {
			stay[len(stay)-1].b ^= turn
		}
		s.cells[file] = stay
	}
}

// same holds all that a drum tells against its second telling.
func same(t *testing.T, d *drum.Drum, s *second) {
	t.Helper()
	wantAll(t, d, s.room-s.used(), s.done, s.files()...)
	wantDead(t, d, s.off)
	for _, file := range []int{0, 1, 2, 3, 7, api.MaxFiles, api.MaxFiles + 1} {
		text, wanted := s.read(file)
		if b, err := d.Read(file); string(b) != text || err != wanted {
			t.Fatalf("Read(%d): %q, %d, want %q, %d", file, b, err, text, wanted)
		}
	}
}

func anyFile(dice func(int) int) int {
	return one(dice, 1, 1, 1, 2, 2, 3, 7, api.MaxFiles, 0, api.MaxFiles+1, -1)
}

// anyTexts is few lists, some without bytes.
func anyTexts(dice func(int) int) []string {
	var l []string
	for range dice(4) {
		text := ""
		for range dice(5) {
			text += string(rune('a' + dice(26)))
		}
		l = append(l, text)
	}
	return l
}

func anyTails(dice func(int) int) []api.Tail {
	var l []api.Tail
	for range dice(6) {
		l = append(l, tail(anyFile(dice), dice(12)-2, byte(one(dice, 0, 0, 1, 255, dice(256)))))
	}
	return l
}

// step makes any call of a drum, and tells it a second time.
func step(t *testing.T, dice func(int) int, d *drum.Drum, s *second) {
	t.Helper()
	file := anyFile(dice)
	var got, wanted api.Errno
	switch dice(13) {
	case 0, 1, 2, 3, 4:
		l := anyTexts(dice)
		got, wanted = d.Append(file, lists(l...)...), s.append(file, strings.Join(l, ""))
	case 5, 6, 7:
		got, wanted = d.Sync(file), s.sync(file)
	case 8, 9:
		got, wanted = d.Delete(file), s.delete(file)
	case 10, 11:
		l := anyTails(dice)
		d.Crash(l...)
		s.crash(l)
	default:
		n := dice(14) - 3
		d.Arm(n)
		s.arm(n)
	}
	if got != wanted {
		t.Fatalf("file %d: %d, want %d", file, got, wanted)
	}
}

// P14.1 to P14.4: any calls, held against the second telling behind each of them.
func TestAnyCalls(t *testing.T) {
	dice := dice(5)
	for range 600 {
		room := one(dice, 0, 1, 8, 20, 60, 1000)
		d, s := made(t, room), &second{room: room}
		for range 60 {
			step(t, dice, d, s)
			same(t, d, s)
		}
	}
}

// P14.4: each length of what is safe and of what is not, each Keep, some Turns.
func TestEachCrash(t *testing.T) {
	const text = "abcdefgh"
	for safe := range 5 {
		for loose := range 5 {
			for keep := -2; keep <= 7; keep++ {
				for _, turn := range []byte{0, 1, 0x40, 255} {
					d := made(t, 9)
					ok(t, d, appends, 6, text[:safe])
					ok(t, d, syncs, 6)
					ok(t, d, appends, 6, text[safe:safe+loose])
					d.Crash(tail(6, keep, turn))
					stays := []byte(text[:safe+min(loose, max(keep, 0))])
					if len(stays) > safe {
						stays[len(stays)-1] ^= turn
					}
					wantRead(t, d, 6, string(stays))
					wantAll(t, d, 9-len(stays), 3, 6)
				}
			}
		}
	}
}

// P14.5: what was synced is there behind every Crash, at the front of its file, until that is deleted.
func TestWhatIsSafeStays(t *testing.T) {
	dice := dice(23)
	for range 1500 {
		d := made(t, one(dice, 10, 40, 400))
		synced := map[int]string{}
		for range 50 {
			file := 1 + dice(3)
			switch dice(8) {
			case 0, 1, 2:
				d.Append(file, lists(anyTexts(dice)...)...)
			case 3, 4:
				before, _ := d.Read(file)
				if d.Sync(file) == api.OK {
					synced[file] = string(before)
				}
			case 5:
				if dice(3) == 0 && d.Delete(file) == api.OK {
					delete(synced, file)
				}
			case 6:
				d.Arm(dice(9) - 1)
			default:
				d.Crash(anyTails(dice)...)
				wantSynced(t, d, synced)
				for _, file := range d.Files() {
					b, _ := d.Read(file)
					synced[file] = string(b)
				}
			}
		}
		d.Crash()
		wantSynced(t, d, synced)
	}
}

// wantSynced asks whether each file begins with what was synced.
func wantSynced(t *testing.T, d *drum.Drum, synced map[int]string) {
	t.Helper()
	for file, text := range synced {
		if b, err := d.Read(file); err != api.OK || !strings.HasPrefix(string(b), text) {
			t.Fatalf("file %d: %q, %d, where %q was synced", file, b, err, text)
		}
	}
}

// Rule 4: the same calls are answered likewise, however a map is gone through.
func TestTheSameAgain(t *testing.T) {
	for seed := range 40 {
		a, b := made(t, 50), made(t, 50)
		first, next := dice(uint64(seed)), dice(uint64(seed))
		x, y := &second{room: 50}, &second{room: 50}
		for range 80 {
			step(t, first, a, x)
			step(t, next, b, y)
		}
		same(t, a, y)
		same(t, b, x)
	}
}
