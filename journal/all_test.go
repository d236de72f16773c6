package journal_test

import (
	"encoding/binary"
	"slices"
	"strings"
	"testing"

	"folkmoot/api"
	"folkmoot/drum"
	"folkmoot/journal"
)

// dice answers numbers from 0 on and below n, the same ones in every run.
func dice(seed uint64) func(n int) int {
	return func(n int) int {
		seed = seed*6364136223846793005 + 1442695040888963407
		return int(seed >> 33 % uint64(n))
	}
}

// one is one of these.
func one[T any](dice func(int) int, l ...T) T { return l[dice(len(l))] }

// second is a journal told a second time, upon a drum of its own: each call is a plan of operations, made ahead of all of them.
type second struct {
	d      *drum.Drum
	size   int
	file   int
	frames []string // that this journal has added to its file
	broken bool
}

// step is an operation of a plan, and what has become of the journal when it was OK.
type step struct {
	do   func() api.Errno
	then func()
}

func (s *second) run(plan []step) api.Errno {
	for _, x := range plan {
		if err := x.do(); err != api.OK {
			s.broken = err != api.ErrFull
			return err
		}
		x.then()
	}
	return api.OK
}

func nothing() {}

func (s *second) bytes() int { return len(strings.Join(s.frames, "")) }

// added is the step that adds a frame to a file.
func (s *second) added(file int, frame string, then func()) step {
	return step{func() api.Errno { return s.d.Append(file, []byte(frame)) }, then}
}

func (s *second) call(kind int, payload string) api.Errno {
	if s.broken {
		return api.ErrJournal
	}
	if kind != syncs && len(payload) > 1<<20 {
		return api.ErrLong
	}
	switch kind {
	case appends:
		return s.append(payload)
	case syncs:
		if len(s.frames) == 0 {
			return api.OK
		}
		return s.run([]step{{func() api.Errno { return s.d.Sync(s.file) }, nothing}})
	}
	return s.rewrite(payload)
}

func (s *second) append(payload string) api.Errno {
	keep := func() { s.frames = append(s.frames, rec(payload)) }
	if s.bytes() < s.size {
		return s.run([]step{s.added(s.file, rec(payload), keep)})
	}
	if s.file == 1000 {
		return api.ErrMany
	}
	return s.run([]step{
		{func() api.Errno { return s.d.Sync(s.file) }, func() { s.file, s.frames = s.file+1, nil }},
		s.added(s.file+1, rec(payload), keep),
	})
}

func (s *second) rewrite(payload string) api.Errno {
	next := s.file
	if len(s.frames) > 0 {
		next = s.file + 1
	}
	if next == 1001 {
		return api.ErrMany
	}
	plan := []step{s.added(next, bas(payload), nothing), {func() api.Errno { return s.d.Sync(next) }, nothing}}
	for _, file := range s.d.Files() {
		if file < next {
			plan = append(plan, step{func() api.Errno { return s.d.Delete(file) }, nothing})
		}
	}
	plan[len(plan)-1].then = func() { s.file, s.frames = next, []string{bas(payload)} }
	return s.run(plan)
}

// split is a file's frames, read a second way.
func split(text string) []string {
	var l []string
	for len(text) >= 13 {
		n := int(binary.LittleEndian.Uint32([]byte(text[1:5])))
		if n > 1<<20 || 13+n > len(text) {
			break
		}
		payload := text[5 : 5+n]
		if text[:13+n] != rec(payload) && (len(l) > 0 || text[:13+n] != bas(payload)) {
			break
		}
		l, text = append(l, text[:13+n]), text[13+n:]
	}
	return l
}

// open is what Open tells, told file by file, the last one first; the second telling goes on from there.
func (s *second) open(size int) (string, []string) {
	files, base, records := s.d.Files(), "", []string(nil)
	s.size, s.file, s.frames, s.broken = size, 1, nil, false
	if len(files) > 0 {
		s.file = files[len(files)-1] + 1
	}
	for _, file := range slices.Backward(files) {
		b, _ := s.d.Read(file)
		var of []string
		for _, f := range split(string(b)) {
			of = append(of, f[5:len(f)-8])
		}
		if len(of) > 0 && b[0] == 1 {
			base, records = of[0], append(of[1:], records...)
			break
		}
		records = append(of, records...)
	}
	return base, records
}

// pair is a journal and its second telling.
type pair struct {
	t    *testing.T
	dice func(int) int
	d    *drum.Drum
	j    *journal.Journal
	s    *second
}

// anyPair is a journal upon a drum that may have files already.
func anyPair(t *testing.T, dice func(int) int) *pair {
	t.Helper()
	room := one(dice, 0, 20, 60, 100, 200, 1000)
	p := &pair{t: t, dice: dice, d: made(t, room), s: &second{d: made(t, room)}}
	file := one(dice, 0, 0, 1, 5, 900, 985, 993, 997)
	for range dice(4) {
		text := p.anyFile()
		file += 1 + dice(2)
		if p.d.Append(file, []byte(text)) == api.OK && p.s.d.Append(file, []byte(text)) == api.OK {
			p.d.Sync(file)
			p.s.d.Sync(file)
		}
	}
	p.open()
	return p
}

// anyFile is a file's bytes: frames, some of them spoilt, or cut.
func (p *pair) anyFile() string {
	text := ""
	for i := range p.dice(4) {
		f := laid(byte(one(p.dice, 0, 0, 0, max(1-i, 0), p.dice(3))), p.payload())
		switch p.dice(12) {
		case 0:
			f = f[:p.dice(len(f))]
		case 1:
			b := []byte(f)
			b[p.dice(len(b))] ^= byte(p.dice(256))
			f = string(b)
		}
		text += f
	}
	return text
}

func (p *pair) payload() string {
	return strings.Repeat(one(p.dice, "a", "b", "\x00", "\x01", "xyz"), one(p.dice, 0, 1, 2, 3, 4, p.dice(30)))
}

func (p *pair) open() {
	p.t.Helper()
	base, records := p.s.open(one(p.dice, 1, 13, 14, 15, 20, 30, 60, 200, api.MaxRoom))
	if p.s.file > 1000 {
		wantRefused(p.t, p.d, p.s.size, api.ErrMany)
		p.j = nil
		return
	}
	p.j = wantOpen(p.t, p.d, p.s.size, p.s.file, base, records...)
}

// crash lets the power fail on both drums, and opens both journals, or goes on with them.
func (p *pair) crash() {
	var tails []api.Tail
	for range p.dice(6) {
		file := p.s.file - 1 + p.dice(3)
		tails = append(tails, api.Tail{File: file, Keep: p.dice(60) - 5, Turn: byte(one(p.dice, 0, 0, 1, 128))})
	}
	p.d.Crash(tails...)
	p.s.d.Crash(tails...)
	if p.s.broken || p.dice(3) > 0 {
		p.open()
	}
}

// step makes any call of a journal, or lets something happen to its drum.
func (p *pair) step() {
	p.t.Helper()
	kind, payload := one(p.dice, appends, appends, appends, syncs, rewrites), p.payload()
	switch p.dice(16) {
	case 0:
		n := p.dice(9) - 1
		p.d.Arm(n)
		p.s.d.Arm(n)
		return
	case 1:
		p.crash()
		return
	case 2:
		if p.dice(6) == 0 {
			p.d.Delete(p.s.file)
			p.s.d.Delete(p.s.file)
		}
		return
	case 3:
		if p.dice(10) == 0 {
			payload = strings.Repeat("x", api.MaxFlat+1)
		}
	}
	if wanted := p.s.call(kind, payload); wanted != call(p.j, kind, payload) {
		p.t.Fatalf("call %d: not %d", kind, wanted)
	}
}

// same holds all that there is against the second telling.
func (p *pair) same() {
	p.t.Helper()
	wantFile(p.t, p.j, p.s.file, p.s.broken)
	if p.d.Ops() != p.s.d.Ops() || p.d.Dead() != p.s.d.Dead() || p.d.Free() != p.s.d.Free() {
		p.t.Fatalf("Ops %d, Dead %v, want %d, %v", p.d.Ops(), p.d.Dead(), p.s.d.Ops(), p.s.d.Dead())
	}
	if p.d.Dead() {
		return
	}
	var l []string
	for _, file := range p.s.d.Files() {
		b, _ := p.s.d.Read(file)
		l = append(l, string(b))
	}
	wantDrum(p.t, p.d, p.s.d.Files(), l...)
}

// P15.1 to P15.5: any calls, held against the second telling behind each of them.
func TestAnyCalls(t *testing.T) {
	dice := dice(5)
	for range 1500 {
		p := anyPair(t, dice)
		for range 60 {
			if p.j == nil {
				break
			}
			p.same()
			p.step()
		}
	}
}

// P15.6: whenever the power fails, Open tells what was safe, and perhaps the first ones of what was added since.
func TestWhatIsSafe(t *testing.T) {
	dice := dice(17)
	for range 700 {
		d := made(t, one(dice, 100, 300, 2000))
		x := &life{d: d, dice: dice, size: one(dice, 1, 14, 30, 80, 1000)}
		x.open(t)
		for range 80 {
			x.step(t)
		}
	}
}

// life is a journal, and what is known to be safe of it.
type life struct {
	d       *drum.Drum
	dice    func(int) int
	size    int
	j       *journal.Journal
	count   int
	base    string
	records []string
	safe    int  // of the records
	under   bool // a Rewrite was under way
	next    string
}

// open asks for what is safe, and takes what is told for what is safe from now on.
func (x *life) open(t *testing.T) {
	t.Helper()
	j, b, l, err := journal.Open(x.d, x.size)
	if err != api.OK {
		t.Fatal(err)
	}
	base, records := string(b), texts(l)
	whole := x.under && base == x.next && len(records) == 0
	prefix := base == x.base && len(records) >= x.safe && len(records) <= len(x.records) && slices.Equal(records, x.records[:len(records)])
	if !whole && !prefix {
		t.Fatalf("%q, %q, where %d of %q, %q were safe, and %q was under way: %v", base, records, x.safe, x.base, x.records, x.next, x.under)
	}
	x.j, x.base, x.records, x.safe, x.under = j, base, records, len(records), false
}

func (x *life) crash(t *testing.T) {
	t.Helper()
	var tails []api.Tail
	for _, file := range x.d.Files() {
		tails = append(tails, api.Tail{File: file, Keep: x.dice(70) - 10, Turn: byte(one(x.dice, 0, 0, 0, 1, 255))})
	}
	x.d.Crash(tails...)
	x.open(t)
}

func (x *life) step(t *testing.T) {
	t.Helper()
	x.count++
	payload := strings.Repeat("p", x.dice(12)) + string(rune('A'+x.count))
	switch x.dice(12) {
	case 0:
		x.crash(t)
		return
	case 1:
		x.d.Arm(x.dice(8) - 1)
		return
	case 2:
		if err := x.j.Rewrite([]byte(payload)); err == api.OK {
			x.base, x.records, x.safe = payload, nil, 0
		} else if x.j.Broken() {
			x.under, x.next = true, payload
		}
	case 3, 4, 5:
		if x.j.Sync() == api.OK {
			x.safe = len(x.records)
		}
	default:
		if x.j.Append([]byte(payload)) == api.OK {
			x.records = append(slices.Clone(x.records), payload)
		}
	}
	if x.j.Broken() {
		x.crash(t)
	}
}

// Rule 4: the same calls are answered likewise.
func TestTheSameAgain(t *testing.T) {
	for seed := range 40 {
		p, q := anyPair(t, dice(uint64(seed))), anyPair(t, dice(uint64(seed)))
		for range 60 {
			if p.j == nil {
				break
			}
			p.step()
			q.step()
		}
		if p.d.Ops() != q.d.Ops() || p.j.File() != q.j.File() || !slices.Equal(p.d.Files(), q.d.Files()) {
			t.Fatal("not the same again")
		}
	}
}
