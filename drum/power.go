package drum

import (
	"slices"

	"folkmoot/api"
)

// Arm lets the power go off behind n more operations; n below 0: it does not go off.
func (d *Drum) Arm(n int) {
	if d == nil {
		return
	}
	d.left = n
}

// Crash puts the power off and on again: of each file stays what is safe, and as much of the rest as its first Tail says.
func (d *Drum) Crash(l ...api.Tail) {
	if d == nil {
		return
	}
	tails := firsts(l)
	for file, t := range d.files {
		d.free += t.cut(tails[file])
	}
	d.dead, d.left = false, -1
}

// Dead tells whether the power is off.
func (d *Drum) Dead() bool { return d != nil && d.dead }

// power counts an operation, and tells whether there is power for it.
func (d *Drum) power() bool {
	if d.left == 0 {
		d.dead = true
	}
	if d.left > 0 {
		d.left--
	}
	return !d.dead
}

// firsts is the first tail of each file that has one.
func firsts(l []api.Tail) map[int]api.Tail {
	tails := map[int]api.Tail{}
	for _, t := range slices.Backward(l) {
		tails[t.File] = t
	}
	return tails
}
