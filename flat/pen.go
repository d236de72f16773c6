package flat

import (
	"bytes"

	"folkmoot/api"
)

// Pen lays things flat into bytes, one behind the other; the zero Pen has laid nothing. One goroutine at a time uses it.
type Pen struct {
	laid []byte
}

// Int lays numbers.
func (p *Pen) Int(l ...int64) {
	for _, n := range l {
		p.number(uint64(n), numberSize)
	}
}

// Text lays texts; of one that is too long the first MaxFlat bytes.
func (p *Pen) Text(l ...string) {
	for _, s := range l {
		s = s[:min(len(s), api.MaxFlat)]
		p.number(uint64(len(s)), lengthSize)
		p.letters(s)
	}
}

// Bool lays a truth.
func (p *Pen) Bool(b bool) {
	if b {
		p.number(1, 1)
	} else {
		p.number(0, 1)
	}
}

// Stamp lays stamps, without how many there are.
func (p *Pen) Stamp(l ...api.Stamp) {
	for _, s := range l {
		p.Int(s.Time, int64(s.Node))
	}
}

// Stamps lays a list of stamps.
func (p *Pen) Stamps(l []api.Stamp) {
	p.Int(int64(len(l)))
	p.Stamp(l...)
}

// Bytes is all that is laid.
func (p *Pen) Bytes() []byte {
	if p == nil {
		return nil
	}
	return bytes.Clone(p.laid)
}

// number lays that many of a number's bytes, the lowest first.
func (p *Pen) number(n uint64, size int) {
	if p == nil {
		return
	}
	for i := range size {
		p.laid = append(p.laid, byte(n>>(8*i)))
	}
}

// letters lays the bytes of a text, without how many there are.
func (p *Pen) letters(s string) {
	if p == nil {
		return
	}
	p.laid = append(p.laid, s...)
}
