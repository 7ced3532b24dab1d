package epochs

import (
	"bytes"
	"slices"

	"cachette/api"
	"cachette/members"
)

// Learn takes the change by which the next epoch begins: that epoch counts, also where its key stays unknown.
func (r *Ring) Learn(c members.Change) api.Kind {
	if r == nil {
		return api.Nil
	}
	if c.Kind != begins || !members.Right(c) {
		return api.BadArg
	}
	if len(r.keys) >= api.MaxEpochs {
		return api.TooLarge
	}
	key, k := r.unwrap(c.Wraps)
	r.keys = append(r.keys, key)
	r.olds = append(r.olds, bytes.Clone(c.Old))
	r.goBack()
	return k
}

// unwrap answers the key in the wrap that is for this ring's owner.
func (r *Ring) unwrap(l []members.Wrap) (uint64, api.Kind) {
	i := slices.IndexFunc(l, func(w members.Wrap) bool { return w.Who == r.who })
	if i < 0 {
		return noKey, api.NoKey
	}
	return r.oracle.Unwrap(r.secret, l[i].B)
}

// goBack finds keys of epochs ahead of the last one, if that one's is known.
func (r *Ring) goBack() {
	e := len(r.keys) - 1
	if r.keys[e] == noKey {
		return
	}
	for ; e > 0 && r.keys[e] != noKey && r.keys[e-1] == noKey; e-- {
		r.keys[e-1] = r.ahead(e)
	}
	// Later ways back end at this epoch, whose key is known: none of these is asked again.
	clear(r.olds)
}

// ahead answers the key of the epoch ahead of e, which e's Old has; noKey, if it can't be told.
func (r *Ring) ahead(e int) uint64 {
	plain, k := r.oracle.Open(r.keys[e], bound(uint64(e)), r.olds[e])
	if k != api.OK || len(plain) != keyBytes {
		return noKey
	}
	return keyOf(plain)
}
