// Package sheet lays what several layers have alike flat into bytes, and reads it again: ops, dependencies, values, writes, pairs.
package sheet

import (
	"folkmoot/api"
	"folkmoot/flat"
)

// Pen is a pen of package flat that lays these, too; of each list how many there are, and each.
type Pen struct {
	flat.Pen
}

// Ops lays the ops of a transaction.
func (p *Pen) Ops(l []api.Op) {
	p.Int(int64(len(l)))
	for _, op := range l {
		p.Int(int64(op.Kind))
		p.Text(op.Key, op.To)
		p.num(op.Num)
	}
}

// Deps lays dependencies.
func (p *Pen) Deps(d []api.Dep) {
	p.Int(int64(len(d)))
	for _, x := range d {
		p.Int(int64(x.Shard))
		p.Stamps(x.Ids)
	}
}

// Value lays a value.
func (p *Pen) Value(v api.Value) {
	p.Bool(v.Gone)
	p.Stamp(v.At)
	p.Deps(v.Deps)
}

// Writes lays a list of writes.
func (p *Pen) Writes(l []api.Write) {
	p.Int(int64(len(l)))
	for _, w := range l {
		p.Text(w.Key)
		p.num(w.Num)
		p.Bool(w.Gone)
	}
}

// Pairs lays data.
func (p *Pen) Pairs(l []api.Pair) {
	p.Int(int64(len(l)))
	for _, x := range l {
		p.Text(x.Key)
		p.num(x.Num)
	}
}

// num lays a num's bits.
func (p *Pen) num(n api.Num) { p.Int(int64(n)) }
