package txn

import (
	"folkmoot/api"
	"folkmoot/sheet"
)

// Put is the bytes of ops.
func Put(l []api.Op) []byte {
	p := &sheet.Pen{}
	p.Ops(l)
	return p.Bytes()
}

// Parse is the transaction whose bytes b is.
func Parse(b []byte) ([]api.Op, api.Errno) {
	e := sheet.Open(b)
	l := e.Ops()
	if e.Done() != api.OK || Check(l) != api.OK {
		return nil, api.ErrTxn
	}
	return l, api.OK
}
