package chain

import (
	"cachette/api"
	"cachette/entry"
	"cachette/stamp"
)

// Check answers what is wrong with e as the next entry of the log.
func (l *Log) Check(e api.Entry) api.Kind {
	if l == nil {
		return api.Nil
	}
	c := candidate{l, e}
	asks := [...]func() api.Kind{c.right, c.own, c.signed, c.unmet, c.next, c.linked, c.later}
	return firstWrong(asks[:])
}

// Odds answers two entries of one place that the writer signed: the one that is there, and e; false, if e is no such one.
func (l *Log) Odds(e api.Entry) (api.Entry, api.Entry, bool) {
	if l.Check(e) != api.Fork {
		return api.Entry{}, api.Entry{}, false
	}
	return copied(l.entries[e.Index]), copied(e), true
}

// firstWrong asks one behind the other, till one says what is wrong.
func firstWrong(asks []func() api.Kind) api.Kind {
	for _, ask := range asks {
		if k := ask(); k != api.OK {
			return k
		}
	}
	return api.OK
}

// candidate is an entry that may come into a log.
type candidate struct {
	log *Log
	e   api.Entry
}

// right: may it stand in any log?
func (c candidate) right() api.Kind {
	return unless(entry.Right(c.e), api.BadArg)
}

// own: is it of the log's writer?
func (c candidate) own() api.Kind {
	return unless(c.e.Writer == c.log.writer, api.Unknown)
}

// signed: did that writer sign it?
func (c candidate) signed() api.Kind {
	return unless(entry.Holds(c.log.oracle, c.log.public, c.e), api.BadSig)
}

// unmet: is nothing at its place? It must be right, so that its place is not below 0.
func (c candidate) unmet() api.Kind {
	if c.e.Index >= len(c.log.entries) {
		return api.OK
	}
	if entry.Same(c.e, c.log.entries[c.e.Index]) {
		return api.Replay
	}
	return api.Fork
}

// next: is it the one that comes now?
func (c candidate) next() api.Kind {
	return unless(c.e.Index == len(c.log.entries), api.Gap)
}

// linked: does it name the one ahead?
func (c candidate) linked() api.Kind {
	return unless(c.e.Prev == c.log.sum, api.BadSum)
}

// later: was it stamped behind the one ahead?
func (c candidate) later() api.Kind {
	n := len(c.log.entries)
	return unless(n == 0 || stamp.Less(c.log.entries[n-1].At, c.e.At), api.Range)
}

// unless answers k, but OK if all is well.
func unless(well bool, k api.Kind) api.Kind {
	if well {
		return api.OK
	}
	return k
}
