package epochs

import (
	"cachette/api"
	"cachette/members"
	"cachette/oracle"
	"cachette/wire"
)

const (
	begins   = 3  // the Kind of a change by which an epoch begins
	noEpoch  = -1 // the last epoch of a state ahead of all
	keyBytes = 8  // of a key in an Old
)

// Begin answers the change by which the epoch behind s begins, with a fresh key for all members of s, and that key; last is the key of the epoch ahead, if there is one.
func Begin(o *oracle.Oracle, s members.State, last uint64) (members.Change, uint64, api.Kind) {
	if o == nil {
		return members.Change{}, 0, api.Nil
	}
	key := o.Key()
	wraps, k := wrapFor(o, members.Now(s), key)
	if k != api.OK {
		return members.Change{}, 0, k
	}
	old, k := oldFor(o, s.Epoch, key, last)
	if k != api.OK {
		return members.Change{}, 0, k
	}
	return members.Change{Kind: begins, Wraps: wraps, Old: old}, key, api.OK
}

// wrapFor answers a wrap of key for each of these, in order.
func wrapFor(o *oracle.Oracle, now []members.Member, key uint64) ([]members.Wrap, api.Kind) {
	if len(now) == 0 {
		return nil, api.Unauthorized
	}
	var out []members.Wrap
	for _, m := range now {
		b, k := o.Wrap(m.Public, key)
		if k != api.OK {
			return nil, k
		}
		out = append(out, members.Wrap{Who: m.Who, B: b})
	}
	return out, api.OK
}

// oldFor answers the Old of the epoch behind that one, whose key is last; nothing, if there is no epoch ahead.
func oldFor(o *oracle.Oracle, epoch int, key, last uint64) ([]byte, api.Kind) {
	if epoch == noEpoch {
		return nil, api.OK
	}
	// The sum is one of 64 bits without a sign: the epoch behind the greatest int has a number, too.
	return o.Seal(key, bound(uint64(epoch)+1), bytesOf(last))
}

// bound answers what an epoch's Old is bound to, so that it is none of another epoch.
func bound(epoch uint64) []byte {
	return wire.Num(nil, epoch)
}

// bytesOf answers a key in eight bytes, the highest first.
func bytesOf(key uint64) []byte {
	out := make([]byte, keyBytes)
	for i := range keyBytes {
		out[keyBytes-1-i] = byte(key >> (8 * i))
	}
	return out
}

// keyOf answers the key whose bytes b is.
func keyOf(b []byte) uint64 {
	key := uint64(0)
	for _, x := range b {
		key = key<<8 | uint64(x)
	}
	return key
}
