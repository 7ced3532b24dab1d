package members

import (
	"math"
	"slices"

	"cachette/api"
)

// Apply answers the state behind c.
func Apply(s State, c Change) (State, api.Kind) {
	if !Right(c) {
		return State{}, api.BadArg
	}
	t := &turn{State: State{L: slices.Clone(s.L), Epoch: s.Epoch}, change: c}
	does := [...]func() api.Kind{invites: t.invite, revokes: t.revoke, begins: t.begin}
	if k := does[c.Kind](); k != api.OK {
		return State{}, k
	}
	return t.State, api.OK
}

// Behind answers the state behind a log of changes, or behind those that Apply takes ahead of the first that it refuses; how many it is behind, and why no more.
func Behind(l []Change, public uint64) (State, int, api.Kind) {
	s := New(public)
	for i, c := range l {
		next, k := Apply(s, c)
		if k != api.OK {
			return s, i, k
		}
		s = next
	}
	return s, len(l), api.OK
}

// turn is a state, nobody else's, that a right change is done to. What a change does says what is wrong ahead of changing anything.
type turn struct {
	State
	change Change
}

// invite: Who is a member from the next epoch on, since no earlier key is wrapped for it.
func (t *turn) invite() api.Kind {
	who := t.change.Who
	if place(t.L, who) >= 0 {
		return api.Exists
	}
	if t.Epoch == math.MaxInt {
		return api.Range // no number tells the epoch behind it; no log of changes leads there
	}
	t.L = slices.Insert(t.L, t.room(who), Member{Who: who, Public: t.change.Public, From: t.Epoch + 1, To: forever})
	return api.OK
}

// room answers where a new member stands, so that all are in order.
func (t *turn) room(who int) int {
	i := slices.IndexFunc(t.L, func(m Member) bool { return m.Who > who })
	if i < 0 {
		return len(t.L)
	}
	return i
}

// revoke: Who is a member up to this epoch.
func (t *turn) revoke() api.Kind {
	i := place(t.L, t.change.Who)
	if i < 0 {
		return api.Unknown
	}
	m := &t.L[i]
	if m.revoked() {
		return api.Unauthorized
	}
	m.To, m.Limit = t.Epoch, t.change.Limit
	if t.first() {
		m.To = never
	}
	return api.OK
}

// begin: the next epoch is the last one now.
func (t *turn) begin() api.Kind {
	if t.Epoch >= api.MaxEpochs-1 {
		return api.Range
	}
	// Behind the first epoch there is a key ahead, which its members must get by Old.
	old := len(t.change.Old) > 0
	if !wrapped(t.change.Wraps, Now(t.State)) || old == t.first() {
		return api.Unauthorized
	}
	t.Epoch++
	return api.OK
}

// first: is the next epoch the first one?
func (t *turn) first() bool {
	return t.Epoch == noEpoch
}

// wrapped: is there a wrap for each of these, and for nobody else?
func wrapped(l []Wrap, now []Member) bool {
	none := func(w Wrap) bool { return place(now, w.Who) < 0 }
	left := func(m Member) bool {
		return !slices.ContainsFunc(l, func(w Wrap) bool { return w.Who == m.Who })
	}
	return !slices.ContainsFunc(l, none) && !slices.ContainsFunc(now, left)
}
