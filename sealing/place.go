package sealing

import (
	"cachette/api"
	"cachette/entry"
)

// place is where a body stands: what it is bound to.
type place struct {
	writer, index, epoch int
}

// keyOf tells an epoch's key, or why it is not known.
type keyOf func(epoch int) (uint64, api.Kind)

// turn makes bytes of others: a text sealed, or opened again.
type turn func(key uint64, bound, b []byte) ([]byte, api.Kind)

// under answers what turn makes of b with the key of the place's epoch.
func (p place) under(key keyOf, do turn, b []byte) ([]byte, api.Kind) {
	n, k := key(p.epoch)
	if k != api.OK {
		return nil, k
	}
	return do(n, entry.Bound(p.writer, p.index, p.epoch), b)
}

// sealable tells whether a sealed entry may stand there.
func (p place) sealable() bool {
	return p.epoch != plainEpoch && entry.Right(p.sample())
}

// sample answers an entry that is right just if the place is, so that the limits of places stand in one package alone.
func (p place) sample() api.Entry {
	e := api.Entry{Writer: p.writer, Index: p.index, At: api.Stamp{T: 1, W: p.writer}, Epoch: p.epoch}
	if p.index != 0 {
		e.Prev = 1
	}
	return e
}
