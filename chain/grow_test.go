package chain

import (
	"math"
	"testing"

	"cachette/api"
	"cachette/entry"
	"cachette/oracle"
)

// P703: the chapter's example.
func TestExample(t *testing.T) {
	o := oracle.New(nil)
	secret, public := o.Pair()
	_, all := filled(t, o, 1, secret, public, 2)
	if all[0].Prev != 0 || all[1].Prev != sumOf(t, o, all[:1]) {
		t.Errorf("Prevs %d, %d", all[0].Prev, all[1].Prev)
	}
}

// P703: the entry of what is given, at the next place, signed; it is the last one then. Handles: Sign's, then Hash's.
func TestIssue(t *testing.T) {
	o := oracle.New([]uint64{51, 52, 61, 62, 71, 72, 81, 82})
	secret, public := o.Pair()
	l := newLog(t, o, 7, public)
	var all []api.Entry
	for _, want := range []api.Entry{
		{Writer: 7, Index: 0, Prev: 0, At: at(1, 7), Epoch: -1, Body: make([]byte, 1100), Sig: 61},
		{Writer: 7, Index: 1, Prev: 62, At: at(2, 7), Epoch: 19, Body: nil, Sig: 71},
		{Writer: 7, Index: 2, Prev: 72, At: at(api.MaxTime, 7), Epoch: 0, Body: []byte("x"), Sig: 81},
	} {
		got, k := l.Issue(secret, want.At, want.Epoch, want.Body)
		if k != api.OK || !entry.Same(got, want) {
			t.Errorf("Issue: %v, %d, not %v", got, k, want)
		}
		if !entry.Holds(o, public, got) || l.Check(got) != api.Replay {
			t.Errorf("%v does not hold, or is not there", got)
		}
		all = append(all, got)
		has(t, o, l, 7, all)
	}
	if l.Head().Sum != 82 || o.Used() != 8 {
		t.Errorf("Head %v, %d handles", l.Head(), o.Used())
	}
}

// issuesNothing: Issue answers that kind and the zero entry, takes no handle, and changes nothing.
func (s scene) issuesNothing(t *testing.T, secret uint64, when api.Stamp, epoch int, body []byte, want api.Kind) {
	t.Helper()
	used := s.o.Used()
	if e, k := s.l.Issue(secret, when, epoch, body); k != want || !isZero(e) {
		t.Errorf("Issue at %v, %d, %d bytes: %v, %d, not %d", when, epoch, len(body), e, k, want)
	}
	if s.o.Used() != used {
		t.Errorf("Issue took %d handles", s.o.Used()-used)
	}
	has(t, s.o, s.l, 1, s.all)
}

// P703: BadArg: not right, also where the time is not behind, or the secret is none; then Range; then NoKey.
func TestIssueWrong(t *testing.T) {
	s := newScene(t)
	for _, secret := range []uint64{s.secret, s.public, 0} {
		for _, when := range []api.Stamp{{}, at(0, 1), at(-1, 1), at(math.MinInt64, 1), at(api.MaxTime+1, 1), at(math.MaxInt64, 1), at(30, 0), at(30, 2), at(30, -1), at(30, 8), at(10, 2)} {
			s.issuesNothing(t, secret, when, 0, nil, api.BadArg)
		}
		for _, when := range []api.Stamp{at(30, 1), at(20, 1)} {
			for _, epoch := range []int{-2, 20, math.MinInt, math.MaxInt} {
				s.issuesNothing(t, secret, when, epoch, nil, api.BadArg)
			}
			s.issuesNothing(t, secret, when, 0, make([]byte, 1101), api.BadArg)
		}
		for _, n := range []int64{20, 19, 10, 1} {
			s.issuesNothing(t, secret, at(n, 1), 0, nil, api.Range)
		}
	}
	for _, secret := range []uint64{s.public, s.o.Key(), s.all[0].Sig, 0, math.MaxUint64} {
		s.issuesNothing(t, secret, at(21, 1), 0, nil, api.NoKey)
	}
	issued(t, s.l, s.secret, 21, "next")
}

// P703: the MaxLog-th entry is issued, one more is TooLarge, whatever else is wrong.
func TestIssueFull(t *testing.T) {
	s := newScene(t)
	for n := int64(21); s.l.Len() < api.MaxLog; n++ {
		s.all = append(s.all, issued(t, s.l, s.secret, n, "more"))
	}
	if len(s.all) != 200 || s.all[199].Index != 199 {
		t.Errorf("%d entries, the last one %v", len(s.all), s.all[199])
	}
	s.issuesNothing(t, s.secret, at(999, 1), 0, nil, api.TooLarge)
	s.issuesNothing(t, 0, at(1, 1), 0, nil, api.TooLarge)
	s.issuesNothing(t, s.secret, at(0, 9), 99, make([]byte, 2000), api.TooLarge)
}

// P703: it is not looked whether the secret is that of the log's public one.
func TestIssueByAnother(t *testing.T) {
	s := newScene(t)
	e := issued(t, s.l, s.other, 30, "by another")
	s.all = append(s.all, e)
	has(t, s.o, s.l, 1, s.all)
	s.refuses(t, "what another one signed", e, api.BadSig)
	if n, k := Whole(s.o, s.public, s.all); n != 2 || k != api.BadSig {
		t.Errorf("Whole: %d, %d", n, k)
	}
}

// P703: a time of MaxTime has none behind it.
func TestIssueAtTheLastTime(t *testing.T) {
	s := newScene(t)
	s.all = append(s.all, issued(t, s.l, s.secret, api.MaxTime, "last"))
	s.issuesNothing(t, s.secret, at(api.MaxTime, 1), 0, nil, api.Range)
}

// isWhole: Whole's answer.
func isWhole(t *testing.T, what string, o *oracle.Oracle, public uint64, l []api.Entry, want int, kind api.Kind) {
	t.Helper()
	if n, k := Whole(o, public, l); n != want || k != kind {
		t.Errorf("Whole of %s: %d, %d, not %d, %d", what, n, k, want, kind)
	}
}

// P705: all of a log, and of each begin of it; none of no entry.
func TestWhole(t *testing.T) {
	o := oracle.New(nil)
	secret, public := o.Pair()
	for _, w := range []int{0, 7} {
		l, all := filled(t, o, w, secret, public, api.MaxLog)
		for n := range len(all) + 1 {
			isWhole(t, "a begin", o, public, all[:n], n, api.OK)
		}
		has(t, o, l, w, all)
	}
	isWhole(t, "nothing", o, public, nil, 0, api.OK)
	isWhole(t, "an empty list", o, public, []api.Entry{}, 0, api.OK)
	isWhole(t, "nothing, without an oracle", nil, public, nil, 0, api.OK)
}

// P705: how many come ahead of the first that is refused, and its kind, whatever comes behind it.
func TestWholeNot(t *testing.T) {
	s := newScene(t)
	for _, n := range []int64{30, 40, 50} {
		s.all = append(s.all, issued(t, s.l, s.secret, n, "more"))
	}
	a := s.all
	put := func(i int, e api.Entry) []api.Entry {
		l := clones(a)
		l[i] = e
		return l
	}
	sign := func(i int, do func(e *api.Entry)) api.Entry {
		return signed(t, s.o, s.secret, with(a[i], do))
	}
	for i := range a {
		isWhole(t, "one that is not right", s.o, s.public, put(i, with(a[i], func(e *api.Entry) { e.Epoch = 20 })), i, api.BadArg)
		isWhole(t, "one without a signature", s.o, s.public, put(i, with(a[i], func(e *api.Entry) { e.Sig = 0 })), i, api.BadSig)
		if i > 0 {
			isWhole(t, "another writer's", s.o, s.public, put(i, sign(i, func(e *api.Entry) { e.Writer, e.At.W = 2, 2 })), i, api.Unknown)
			isWhole(t, "one twice", s.o, s.public, put(i, a[i-1]), i, api.Replay)
			isWhole(t, "a twin", s.o, s.public, put(i, sign(i-1, func(e *api.Entry) { e.Epoch = 9 })), i, api.Fork)
			isWhole(t, "another Prev", s.o, s.public, put(i, sign(i, func(e *api.Entry) { e.Prev = 1 })), i, api.BadSum)
			isWhole(t, "no later time", s.o, s.public, put(i, sign(i, func(e *api.Entry) { e.At.T = a[i-1].At.T })), i, api.Range)
			isWhole(t, "an end", s.o, s.public, a[i:], 0, api.Gap)
			isWhole(t, "a log with another entry", s.o, s.public, put(i-1, sign(i-1, func(e *api.Entry) { e.Epoch = 9 })), i, api.BadSum)
		}
	}
	isWhole(t, "a log with a hole", s.o, s.public, append(clones(a[:2]), a[3:]...), 2, api.Gap)
	has(t, s.o, s.l, 1, a)
}

// P705: what New says, where there can be no log of the first one's writer; another public one; another oracle.
func TestWholeWithoutLog(t *testing.T) {
	s := newScene(t)
	for _, w := range []int{-1, 8, math.MinInt, math.MaxInt} {
		l := clones(s.all)
		l[0].Writer, l[0].At.W = w, w
		isWhole(t, "no member's", s.o, s.public, l, 0, api.BadArg)
		isWhole(t, "no member's, without an oracle", nil, s.public, l, 0, api.BadArg)
	}
	isWhole(t, "a log, without an oracle", nil, s.public, s.all, 0, api.Nil)
	isWhole(t, "a log by its secret", s.o, s.secret, s.all, 0, api.BadSig)
	isWhole(t, "a log by 0", s.o, 0, s.all, 0, api.BadSig)
	isWhole(t, "a log of another oracle", oracle.New(nil), s.public, s.all, 0, api.BadSig)
}
