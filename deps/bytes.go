package deps

import (
	"folkmoot/api"
	"folkmoot/sheet"
)

// Put is the bytes of dependencies.
func Put(d []api.Dep) []byte {
	p := &sheet.Pen{}
	p.Deps(d)
	return p.Bytes()
}

// Parse is the dependencies whose bytes b is.
func Parse(b []byte) ([]api.Dep, api.Errno) {
	e := sheet.Open(b)
	d := e.Deps()
	if e.Done() != api.OK || Check(d) != api.OK {
		return nil, api.ErrDeps
	}
	return d, api.OK
}
