package cmd

import (
	"folkmoot/api"
	"folkmoot/sheet"
)

// Put is the bytes of a command.
func Put(c api.Cmd) []byte {
	p := &sheet.Pen{}
	p.Stamp(c.Id)
	p.Ops(c.Ops)
	p.Int(int64(c.Phase))
	p.Stamp(c.Promise, c.Vote)
	p.Bool(c.Fast)
	p.Deps(c.Seen)
	p.Stamp(c.Bound)
	p.Bool(c.Has)
	p.Stamp(c.Ballot)
	p.Value(c.Value)
	p.Bool(c.Ready)
	p.Writes(c.Writes)
	p.Pairs(c.Pairs)
	return p.Bytes()
}

// Parse is the command whose bytes b is.
func Parse(b []byte) (api.Cmd, api.Errno) {
	e := sheet.Open(b)
	c := read(e)
	if e.Done() != api.OK || Check(c) != api.OK {
		return api.Cmd{}, api.ErrCmd
	}
	return c, api.OK
}

// read is the command that stands there; its parts stand in the order in which they are laid.
func read(e *sheet.Eye) api.Cmd {
	var c api.Cmd
	c.Id = e.Stamp()
	c.Ops = e.Ops()
	c.Phase = int(e.Int())
	c.Promise = e.Stamp()
	c.Vote = e.Stamp()
	c.Fast = e.Bool()
	c.Seen = e.Deps()
	c.Bound = e.Stamp()
	c.Has = e.Bool()
	c.Ballot = e.Stamp()
	c.Value = e.Value()
	c.Ready = e.Bool()
	c.Writes = e.Writes()
	c.Pairs = e.Pairs()
	return c
}
