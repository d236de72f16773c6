package txn

import (
	"folkmoot/api"
	"folkmoot/flat"
)

// Put is the bytes of ops.
func Put(l []api.Op) []byte {
	p := &flat.Pen{}
	p.Int(int64(len(l)))
	for _, op := range l {
		p.Int(int64(op.Kind))
		p.Text(op.Key, op.To)
		p.Int(int64(op.Num))
	}
	return p.Bytes()
}

// Parse is the transaction whose bytes b is.
func Parse(b []byte) ([]api.Op, api.Errno) {
	e := flat.Open(b)
	count := e.Int()
	// A count that lies is not gone through: a blind eye would go on to answer, as often as it is asked.
	if count < 0 || count > api.MaxOps {
		return nil, api.ErrTxn
	}
	var l []api.Op
	for range count {
		l = append(l, parseOp(e))
	}
	if e.Done() != api.OK || Check(l) != api.OK {
		return nil, api.ErrTxn
	}
	return l, api.OK
}

// parseOp is the op that stands there; the parts stand in the order in which they are laid.
func parseOp(e *flat.Eye) api.Op {
	kind := int(e.Int())
	key := e.Text()
	to := e.Text()
	return api.Op{Kind: kind, Key: key, To: to, Num: api.Num(e.Int())}
}
