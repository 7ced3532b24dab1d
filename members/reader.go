package members

import (
	"cachette/api"
	"cachette/wire"
)

// reader takes changes as wire's reader, which it embeds, takes what they are made of; that one tells what is wrong.
type reader struct {
	*wire.Reader
}

// Read answers the change whose Bytes b is.
func Read(b []byte) (Change, api.Kind) {
	r := reader{wire.Read(b)}
	c := r.change()
	// Whether the change is right is asked only once all is taken: what wire's reader says comes first.
	if k := r.Done(); k != api.OK {
		return Change{}, k
	}
	if !Right(c) {
		return Change{}, api.Malformed
	}
	return c, api.OK
}

// change takes a change, which need not be right.
func (r reader) change() Change {
	c := Change{Kind: r.Count(begins)}
	switch c.Kind {
	case invites:
		c.Who, c.Public = r.who(), r.Num()
	case revokes:
		c.Who, c.Limit = r.who(), r.Count(api.MaxLog)
	case begins:
		c.Wraps, c.Old = r.wraps(), r.Bytes(oldSize)
	}
	return c
}

// wraps takes how many there are, and they.
func (r reader) wraps() []Wrap {
	var l []Wrap
	for range r.Count(api.MaxMembers) {
		l = append(l, Wrap{Who: r.who(), B: r.Bytes(wrapSize)})
	}
	return l
}

// who takes a member's number.
func (r reader) who() int {
	return r.Count(lastWho)
}
