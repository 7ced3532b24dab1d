package stamp

import "cachette/api"

// Clock: of a member. The zero one is that of member 0, at 0.
type Clock struct {
	w   int
	now int64 // from 0 to api.MaxTime
}

// New answers a clock of member w, at 0.
func New(w int) (*Clock, api.Kind) {
	if !writer(w) {
		return nil, api.BadArg
	}
	return &Clock{w: w}, api.OK
}

// Now answers where the clock is.
func (c *Clock) Now() int64 {
	if c == nil {
		return 0
	}
	return c.now
}

// Tick goes on by 1, and answers the stamp of that.
func (c *Clock) Tick() (api.Stamp, api.Kind) {
	if c == nil {
		return api.Stamp{}, api.Nil
	}
	if c.now >= api.MaxTime {
		return api.Stamp{}, api.Range
	}
	c.now++
	return api.Stamp{T: c.now, W: c.w}, api.OK
}

// See goes on to s, unless the clock is there or beyond, so that what it ticks is behind s.
func (c *Clock) See(s api.Stamp) api.Kind {
	if c == nil {
		return api.Nil
	}
	if !Right(s) {
		return api.BadArg
	}
	c.now = max(c.now, s.T)
	return api.OK
}
