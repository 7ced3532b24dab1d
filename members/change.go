package members

import (
	"cachette/api"
	"cachette/wire"
)

// The kinds of changes; 0 is none.
const (
	_ = iota
	invites
	revokes
	begins
)

const (
	wrapSize = 16 // bytes of a key, wrapped
	oldSize  = 24 // bytes of a key, sealed
)

// Wrap: of an epoch's key, for a member.
type Wrap struct {
	Who int
	B   []byte
}

// Change: what an entry of the admin's says: Kind 1: Who is invited; 2: Who is revoked; 3: an epoch begins.
type Change struct {
	Kind   int
	Who    int
	Public uint64
	Limit  int
	Wraps  []Wrap
	Old    []byte
}

// Right tells whether c has what its kind asks for, and nothing else.
func Right(c Change) bool {
	switch c.Kind {
	case invites:
		return isWho(c.Who) && c.Public != 0 && c.Limit == 0 && keyless(c)
	case revokes:
		return isWho(c.Who) && c.Who != api.Admin && c.Public == 0 && within(c.Limit, 0, api.MaxLog) && keyless(c)
	case begins:
		return c.Who == 0 && c.Public == 0 && c.Limit == 0 && rightWraps(c.Wraps) && rightOld(c.Old)
	}
	return false
}

// Bytes answers the form of c: its kind, and what that has.
func Bytes(c Change) ([]byte, api.Kind) {
	if !Right(c) {
		return nil, api.BadArg
	}
	b := putCount(nil, c.Kind)
	switch c.Kind {
	case invites:
		b = wire.Num(putCount(b, c.Who), c.Public)
	case revokes:
		b = putCount(putCount(b, c.Who), c.Limit)
	case begins:
		b = wire.Bytes(putWraps(b, c.Wraps), c.Old)
	}
	return b, api.OK
}

// keyless: has it nothing that only an epoch has?
func keyless(c Change) bool {
	return len(c.Wraps) == 0 && len(c.Old) == 0
}

// rightWraps: is there one, and does none come twice?
func rightWraps(l []Wrap) bool {
	for i, w := range l {
		if !isWho(w.Who) || len(w.B) != wrapSize || i > 0 && l[i-1].Who >= w.Who {
			return false
		}
	}
	return len(l) > 0
}

// rightOld: is it a sealed key, or nothing?
func rightOld(b []byte) bool {
	return len(b) == 0 || len(b) == oldSize
}

// putWraps answers b, and how many wraps there are, and they, behind it.
func putWraps(b []byte, l []Wrap) []byte {
	b = putCount(b, len(l))
	for _, w := range l {
		b = wire.Bytes(putCount(b, w.Who), w.B)
	}
	return b
}

// putCount answers b, and a number that is not below 0 behind it.
func putCount(b []byte, n int) []byte {
	return wire.Num(b, uint64(n))
}

// isWho: may a member have that number?
func isWho(n int) bool {
	return within(n, 0, lastWho)
}

// within tells whether n is from least to most.
func within(n, least, most int) bool {
	return n >= least && n <= most
}
