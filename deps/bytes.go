package deps

import (
	"folkmoot/api"
	"folkmoot/flat"
)

// Put is the bytes of dependencies.
func Put(d []api.Dep) []byte {
	p := &flat.Pen{}
	p.Int(int64(len(d)))
	for _, x := range d {
		p.Int(int64(x.Shard))
		p.Stamps(x.Ids)
	}
	return p.Bytes()
}

// Parse is the dependencies whose bytes b is.
func Parse(b []byte) ([]api.Dep, api.Errno) {
	e := flat.Open(b)
	count := e.Int()
	// A count that lies is not gone through: a blind eye would go on to answer, as often as it is asked.
	if count < 0 || count > api.MaxShards {
		return nil, api.ErrDeps
	}
	var d []api.Dep
	for range count {
		shard := int(e.Int())
		d = append(d, api.Dep{Shard: shard, Ids: e.Stamps()})
	}
	if e.Done() != api.OK || Check(d) != api.OK {
		return nil, api.ErrDeps
	}
	return d, api.OK
}
