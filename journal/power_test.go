package journal_test

import (
	"slices"
	"strings"
	"testing"

	"folkmoot/api"
	"folkmoot/drum"
	"folkmoot/journal"
)

// A fall is a journal that did something ahead, and then a call with which the power goes off.
type fall struct {
	size  int
	ahead func(t *testing.T, j *journal.Journal)
	kind  int
	n     int   // operations that the call does still
	files []int // whose bytes may be loose
	// what is told, where so many whole frames stay of what is loose in each of these files
	told func(whole []int) (base string, records []string)
}

// begins is a base and two safe records in file 1, and loose ones behind them.
func begins(loose ...string) func(t *testing.T, j *journal.Journal) {
	return func(t *testing.T, j *journal.Journal) {
		t.Helper()
		want(t, j, api.OK, rewrites, "base")
		add(t, j, "s1", "s2")
		want(t, j, api.OK, syncs, "")
		add(t, j, loose...)
	}
}

// firsts is the two safe records, and the first ones of others.
func firsts(n int, l ...string) []string { return append([]string{"s1", "s2"}, l[:n]...) }

func falls() []fall {
	kept := func(whole []int) (string, []string) { return "base", firsts(whole[0], "l1", "", "l3") }
	gone := func(whole []int) (string, []string) {
		if whole[1] == 1 {
			return "new base", nil
		}
		return kept(whole)
	}
	all := func([]int) (string, []string) { return "base", firsts(3, "l1", "", "l3") }
	anew := func([]int) (string, []string) { return "new base", nil }
	return []fall{
		{1000, begins("l1", "", "l3"), appends, 0, []int{1}, kept},
		{90, begins("l1", "", "l3"), appends, 0, []int{1}, kept},
		{90, begins("l1", "", "l3"), appends, 1, []int{1}, all},
		{90, begins("l1", "", "l3", "m1", ""), appends, 0, []int{2}, func(whole []int) (string, []string) {
			return "base", firsts(3+whole[0], "l1", "", "l3", "m1", "")
		}},
		{1000, begins("l1", "", "l3"), syncs, 0, []int{1}, kept},
		{1000, begins("l1", "", "l3"), rewrites, 0, []int{1}, kept},
		{1000, begins("l1", "", "l3"), rewrites, 1, []int{1, 2}, gone},
		{1000, begins("l1", "", "l3"), rewrites, 2, []int{1}, anew},
		{90, begins("l1", "", "l3", "m1", ""), rewrites, 0, []int{2}, func(whole []int) (string, []string) {
			return "base", firsts(3+whole[0], "l1", "", "l3", "m1", "")
		}},
		{90, begins("l1", "", "l3", "m1", ""), rewrites, 1, []int{2, 3}, func(whole []int) (string, []string) {
			if whole[1] == 1 {
				return "new base", nil
			}
			return "base", firsts(3+whole[0], "l1", "", "l3", "m1", "")
		}},
		{90, begins("l1", "", "l3", "m1", ""), rewrites, 2, []int{2}, anew},
		{90, begins("l1", "", "l3", "m1", ""), rewrites, 3, []int{2}, anew},
		{1000, func(t *testing.T, j *journal.Journal) {}, appends, 0, nil, func([]int) (string, []string) { return "", nil }},
		{1000, func(t *testing.T, j *journal.Journal) {}, rewrites, 0, nil, func([]int) (string, []string) { return "", nil }},
		{1000, func(t *testing.T, j *journal.Journal) {}, rewrites, 1, []int{1}, func(whole []int) (string, []string) {
			return strings.Repeat("new base", whole[0]), nil
		}},
		{1000, func(t *testing.T, j *journal.Journal) { add(t, j, "l1", "") }, rewrites, 1, []int{1, 2}, func(whole []int) (string, []string) {
			if whole[1] == 1 {
				return "new base", nil
			}
			return "", []string{"l1", ""}[:whole[0]]
		}},
	}
}

// at is a drum on which the power has gone off with the fall's call.
func (f fall) at(t *testing.T) *drum.Drum {
	t.Helper()
	d, j := begun(t, 2000, f.size)
	f.ahead(t, j)
	d.Arm(f.n)
	want(t, j, api.ErrDead, f.kind, "new base")
	return d
}

// lost is what the fall's files have, and how much of each a crash without tails leaves.
func (f fall) lost(t *testing.T) (all []string, safe []int) {
	t.Helper()
	d, j := begun(t, 2000, f.size)
	f.ahead(t, j)
	d.Arm(f.n)
	call(j, f.kind, "new base")
	// The bytes that there are: a crash that keeps all of them.
	full := f.at(t)
	var tails []api.Tail
	for _, file := range f.files {
		tails = append(tails, api.Tail{File: file, Keep: 2000})
	}
	full.Crash(tails...)
	d.Crash()
	for _, file := range f.files {
		b, _ := full.Read(file)
		left, _ := d.Read(file)
		all, safe = append(all, string(b)), append(safe, len(left))
	}
	return all, safe
}

// wholes is how many frames behind what is safe are whole, if so much of what is loose stays, and its last byte is turned or not.
func wholes(text string, safe, keep int, turned bool) int {
	n := 0
	for at := safe; at < len(text); n++ {
		at += 13 + int(text[at+1])
		if at > safe+keep || at == safe+keep && turned {
			break
		}
	}
	return n
}

// each goes through all that may stay of the loose bytes of some files.
func each(all []string, safe []int, do func(keeps []int)) {
	if len(all) == 0 {
		do(nil)
		return
	}
	for keep := range len(all[0]) - safe[0] + 1 {
		each(all[1:], safe[1:], func(keeps []int) { do(append([]int{keep}, keeps...)) })
	}
}

// P15.6: the power fails at each operation, and of each file stays each length, its last byte turned or not.
func TestPowerFails(t *testing.T) {
	for i, f := range falls() {
		all, safe := f.lost(t)
		count := 0
		each(all, safe, func(keeps []int) {
			for _, turn := range []byte{0, 1, 0x80} {
				d := f.at(t)
				var tails []api.Tail
				var whole []int
				for k, file := range f.files {
					tails = append(tails, api.Tail{File: file, Keep: keeps[k], Turn: turn})
					whole = append(whole, wholes(all[k], safe[k], keeps[k], turn != 0))
				}
				d.Crash(tails...)
				files := append(d.Files(), 0)
				base, records := f.told(whole)
				j := wantOpen(t, d, f.size, slices.Max(files)+1, base, records...)
				goesOn(t, d, j, base, records)
				count++
			}
		})
		if least := 1 + len(strings.Join(all, "")) - sum(safe); count < 3*least {
			t.Errorf("fall %d: %d crashes", i, count)
		}
	}
}

func sum(l []int) int {
	n := 0
	for _, x := range l {
		n += x
	}
	return n
}

// goesOn adds records to a journal that was opened, behind what it has told, and crashes again.
func goesOn(t *testing.T, d *drum.Drum, j *journal.Journal, base string, records []string) {
	t.Helper()
	add(t, j, "behind")
	want(t, j, api.OK, syncs, "")
	add(t, j, "never")
	d.Crash()
	wantOpen(t, d, 100, j.File()+1, base, append(slices.Clone(records), "behind")...)
}
