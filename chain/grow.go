package chain

import (
	"cachette/api"
	"cachette/entry"
	"cachette/oracle"
)

// Accept puts e behind the last entry, if Check has nothing against it.
func (l *Log) Accept(e api.Entry) api.Kind {
	if k := l.Check(e); k != api.OK {
		return k
	}
	return l.add(e)
}

// Issue puts an entry of these, signed by secret, behind the last one, and answers it.
func (l *Log) Issue(secret uint64, at api.Stamp, epoch int, body []byte) (api.Entry, api.Kind) {
	if l == nil {
		return api.Entry{}, api.Nil
	}
	if len(l.entries) >= api.MaxLog {
		return api.Entry{}, api.TooLarge
	}
	e := api.Entry{Writer: l.writer, Index: len(l.entries), Prev: l.sum, At: at, Epoch: epoch, Body: body}
	c := candidate{l, e}
	asks := [...]func() api.Kind{c.right, c.later}
	if k := firstWrong(asks[:]); k != api.OK {
		return api.Entry{}, k
	}
	e, k := entry.Sign(l.oracle, secret, e)
	if k != api.OK {
		return api.Entry{}, k
	}
	if k := l.add(e); k != api.OK {
		return api.Entry{}, k
	}
	return e, api.OK
}

// Whole answers how many of l, from the first on, are the begin of a log, and what is wrong with the next one.
func Whole(o *oracle.Oracle, public uint64, l []api.Entry) (int, api.Kind) {
	if len(l) == 0 {
		return 0, api.OK
	}
	begin, k := New(o, l[0].Writer, public)
	if k != api.OK {
		return 0, k
	}
	for i, e := range l {
		if k := begin.Accept(e); k != api.OK {
			return i, k
		}
	}
	return len(l), api.OK
}

// add puts e, which was checked, behind the last one; its sum is made now, so that looks at the log need no handle.
func (l *Log) add(e api.Entry) api.Kind {
	sum, k := entry.Sum(l.oracle, e)
	if k != api.OK {
		return k
	}
	l.entries, l.sum = append(l.entries, copied(e)), sum
	return api.OK
}
