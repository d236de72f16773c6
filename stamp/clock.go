package stamp

import "folkmoot/api"

// Clock tells stamps of one node, which rise; one goroutine at a time uses it.
type Clock struct {
	node int
	last int64
}

// New is a clock of a node whose last time is last.
func New(node int, last int64) (*Clock, api.Errno) {
	if !isNode(node) || last < 0 || last > api.MaxTime {
		return nil, api.ErrArg
	}
	return &Clock{node: node, last: last}, api.OK
}

// Now is a stamp one time behind the last one, which is the last one then.
func (c *Clock) Now() (api.Stamp, api.Errno) {
	if c == nil {
		return api.Stamp{}, api.ErrNone
	}
	s, err := next(c.node, c.last)
	if err == api.OK {
		c.last = s.Time
	}
	return s, err
}

// See sets the clock forward to the Time of each.
func (c *Clock) See(l ...api.Stamp) {
	for _, s := range l {
		c.Tick(s.Time)
	}
}

// Tick sets the clock forward to a time, if that is later, and may be.
func (c *Clock) Tick(to int64) {
	if c == nil || to <= c.last || to > api.MaxTime {
		return
	}
	c.last = to
}

// Last is the last time.
func (c *Clock) Last() int64 {
	if c == nil {
		return 0
	}
	return c.last
}
