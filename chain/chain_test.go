package chain

import (
	"bytes"
	"fmt"
	"math"
	"slices"
	"testing"

	"cachette/api"
	"cachette/entry"
	"cachette/oracle"
)

// at: that stamp.
func at(t int64, w int) api.Stamp {
	return api.Stamp{T: t, W: w}
}

// newLog: an empty log of w.
func newLog(t *testing.T, o *oracle.Oracle, w int, public uint64) *Log {
	t.Helper()
	l, k := New(o, w, public)
	if k != api.OK || l == nil {
		t.Fatalf("New of %d: %v, %d", w, l, k)
	}
	return l
}

// issued: what l issues, stamped by its writer.
func issued(t *testing.T, l *Log, secret uint64, time int64, body string) api.Entry {
	t.Helper()
	e, k := l.Issue(secret, at(time, l.Writer()), 0, []byte(body))
	if k != api.OK {
		t.Fatalf("Issue of %q at %d: %d", body, time, k)
	}
	return e
}

// filled: a log of w with n entries, and these; the i-th is stamped 10*(i+1).
func filled(t *testing.T, o *oracle.Oracle, w int, secret, public uint64, n int) (*Log, []api.Entry) {
	t.Helper()
	l := newLog(t, o, w, public)
	var all []api.Entry
	for i := range n {
		all = append(all, issued(t, l, secret, int64(10*(i+1)), fmt.Sprint("body ", i)))
	}
	return l, all
}

// signed: e, signed by secret.
func signed(t *testing.T, o *oracle.Oracle, secret uint64, e api.Entry) api.Entry {
	t.Helper()
	e, k := entry.Sign(o, secret, e)
	if k != api.OK {
		t.Fatalf("Sign of %v: %d", e, k)
	}
	return e
}

// with: e, changed by do.
func with(e api.Entry, do func(e *api.Entry)) api.Entry {
	do(&e)
	return e
}

// sumOf: the Sum of the last of l; 0, if there is none.
func sumOf(t *testing.T, o *oracle.Oracle, l []api.Entry) uint64 {
	t.Helper()
	if len(l) == 0 {
		return 0
	}
	n, k := entry.Sum(o, l[len(l)-1])
	if k != api.OK {
		t.Fatalf("Sum of %v: %d", l[len(l)-1], k)
	}
	return n
}

// isZero: e is the zero entry.
func isZero(e api.Entry) bool {
	return entry.Same(e, api.Entry{})
}

// has: l is a log of w with just those entries, by whatever it is asked.
func has(t *testing.T, o *oracle.Oracle, l *Log, w int, want []api.Entry) {
	t.Helper()
	if got := l.All(); !slices.EqualFunc(got, want, entry.Same) {
		t.Errorf("All: %v, not %v", got, want)
	}
	if l.Writer() != w || l.Len() != len(want) {
		t.Errorf("Writer %d, Len %d, not %d, %d", l.Writer(), l.Len(), w, len(want))
	}
	if got, head := l.Head(), (api.Head{Writer: w, Len: len(want), Sum: sumOf(t, o, want)}); got != head {
		t.Errorf("Head: %v, not %v", got, head)
	}
	for i, e := range want {
		if got, k := l.At(i); k != api.OK || !entry.Same(got, e) {
			t.Errorf("At(%d): %v, %d, not %v", i, got, k, e)
		}
	}
	for _, i := range []int{math.MinInt, -200, -1, len(want), len(want) + 1, api.MaxLog, math.MaxInt} {
		if got, k := l.At(i); k != api.Range || !isZero(got) {
			t.Errorf("At(%d) of %d: %v, %d", i, len(want), got, k)
		}
	}
}

// P701: of each member an empty log, whatever its public one is; it takes no handle.
func TestNew(t *testing.T) {
	o := oracle.New(nil)
	for w := range api.MaxMembers {
		for _, public := range []uint64{0, 1, math.MaxUint64} {
			has(t, o, newLog(t, o, w, public), w, nil)
		}
	}
	if o.Used() != 0 {
		t.Errorf("%d handles were handed out", o.Used())
	}
}

// P701: BadArg: no member, also without an oracle; Nil: no oracle; no log with either.
func TestNewWrong(t *testing.T) {
	o := oracle.New(nil)
	for _, w := range []int{-1, 8, 1 << 32, math.MinInt, math.MaxInt} {
		for _, with := range []*oracle.Oracle{o, nil} {
			if l, k := New(with, w, 1); l != nil || k != api.BadArg {
				t.Errorf("New of %d: %v, %d", w, l, k)
			}
		}
	}
	for w := range api.MaxMembers {
		if l, k := New(nil, w, 1); l != nil || k != api.Nil {
			t.Errorf("New of %d without an oracle: %v, %d", w, l, k)
		}
	}
}

// P701: Writer, Len, Head, At and All at each length, up to the longest.
func TestLooks(t *testing.T) {
	o := oracle.New(nil)
	secret, public := o.Pair()
	l := newLog(t, o, 3, public)
	var all []api.Entry
	for i := range api.MaxLog {
		has(t, o, l, 3, all)
		all = append(all, issued(t, l, secret, int64(i+1), fmt.Sprint(i)))
	}
	has(t, o, l, 3, all)
}

// P701: looks take no handle, and change nothing.
func TestLooksTakeNothing(t *testing.T) {
	o := oracle.New(nil)
	secret, public := o.Pair()
	l, all := filled(t, o, 1, secret, public, 3)
	used := o.Used()
	for range 3 {
		l.Writer()
		l.Len()
		l.Head()
		l.At(1)
		l.All()
	}
	if o.Used() != used {
		t.Errorf("%d handles were handed out", o.Used()-used)
	}
	has(t, o, l, 1, all)
}

// The sentence ahead of the promises: what a nil log answers.
func TestNilLog(t *testing.T) {
	o := oracle.New(nil)
	secret, public := o.Pair()
	_, all := filled(t, o, 1, secret, public, 1)
	used := o.Used()
	var l *Log
	if l.Writer() != -1 || l.Len() != 0 || l.Head() != (api.Head{}) || len(l.All()) != 0 {
		t.Errorf("nil: %d, %d, %v, %v", l.Writer(), l.Len(), l.Head(), l.All())
	}
	for _, i := range []int{-1, 0, 1, math.MinInt, math.MaxInt} {
		if e, k := l.At(i); k != api.Nil || !isZero(e) {
			t.Errorf("At(%d) of nil: %v, %d", i, e, k)
		}
		if got := l.Cut(i); len(got) != 0 {
			t.Errorf("Cut(%d) of nil: %v", i, got)
		}
	}
	for _, e := range []api.Entry{all[0], {}, {Writer: -1}} {
		if k, j := l.Check(e), l.Accept(e); k != api.Nil || j != api.Nil {
			t.Errorf("Check, Accept of nil: %d, %d", k, j)
		}
		if a, b, odd := l.Odds(e); odd || !isZero(a) || !isZero(b) {
			t.Errorf("Odds of nil: %v, %v, %t", a, b, odd)
		}
	}
	for _, s := range []api.Stamp{at(1, 1), {}, at(-1, 9)} {
		if e, k := l.Issue(secret, s, 0, nil); k != api.Nil || !isZero(e) {
			t.Errorf("Issue of nil: %v, %d", e, k)
		}
	}
	if o.Used() != used {
		t.Errorf("%d handles were handed out", o.Used()-used)
	}
}

// Rule 1: a log that nobody made panics nowhere, and nothing comes into it.
func TestZeroLog(t *testing.T) {
	o := oracle.New(nil)
	secret, public := o.Pair()
	_, all := filled(t, o, 0, secret, public, 1)
	l := &Log{}
	if k := l.Accept(all[0]); k != api.BadSig {
		t.Errorf("Accept of the zero log: %d", k)
	}
	if e, k := l.Issue(secret, at(1, 0), 0, nil); k != api.Nil || !isZero(e) {
		t.Errorf("Issue of the zero log: %v, %d", e, k)
	}
	has(t, o, l, 0, nil)
}

// P706: the entries from the n-th on are handed out, and gone; the log is what it was ahead of them.
func TestCut(t *testing.T) {
	o := oracle.New(nil)
	secret, public := o.Pair()
	for size := range 6 {
		for _, n := range []int{math.MinInt, -200, -1, 0, 1, 2, 3, 4, 5, 6, 200, math.MaxInt} {
			l, all := filled(t, o, 2, secret, public, size)
			used := o.Used()
			keep := min(max(n, 0), size)
			if got := l.Cut(n); !slices.EqualFunc(got, all[keep:], entry.Same) {
				t.Errorf("Cut(%d) of %d: %v, not %v", n, size, got, all[keep:])
			}
			if o.Used() != used {
				t.Errorf("Cut(%d) of %d took %d handles", n, size, o.Used()-used)
			}
			has(t, o, l, 2, all[:keep])
		}
	}
}

// P706: what was cut is not there: neither Replay nor Fork, and it, or another one, may come again.
func TestCutComesAgain(t *testing.T) {
	o := oracle.New(nil)
	secret, public := o.Pair()
	l, all := filled(t, o, 2, secret, public, 4)
	l.Cut(2)
	if k := l.Check(all[3]); k != api.Gap {
		t.Errorf("Check of the second that was cut: %d", k)
	}
	for _, e := range all[2:] {
		if k := l.Accept(e); k != api.OK {
			t.Errorf("Accept of what was cut: %d", k)
		}
	}
	has(t, o, l, 2, all)
	l.Cut(1)
	other := issued(t, l, secret, 11, "another one")
	if other.Index != 1 || other.Prev != sumOf(t, o, all[:1]) {
		t.Errorf("behind a cut: %v", other)
	}
	has(t, o, l, 2, []api.Entry{all[0], other})
	if k := l.Check(all[1]); k != api.Fork {
		t.Errorf("Check of what was cut, at a place that is taken: %d", k)
	}
	l.Cut(0)
	first := issued(t, l, secret, 1, "first")
	if first.Index != 0 || first.Prev != 0 {
		t.Errorf("behind a cut of all: %v", first)
	}
	has(t, o, l, 2, []api.Entry{first})
}

// P706: a second cut finds what the first one left, and a full log has room again.
func TestCutTwice(t *testing.T) {
	o := oracle.New(nil)
	secret, public := o.Pair()
	l, all := filled(t, o, 0, secret, public, api.MaxLog)
	if got := l.Cut(199); !slices.EqualFunc(got, all[199:], entry.Same) {
		t.Errorf("Cut(199): %v", got)
	}
	if got := l.Cut(199); len(got) != 0 {
		t.Errorf("Cut(199) again: %v", got)
	}
	if got := l.Cut(150); !slices.EqualFunc(got, all[150:199], entry.Same) {
		t.Errorf("Cut(150): %d entries", len(got))
	}
	has(t, o, l, 0, all[:150])
	issued(t, l, secret, 1600, "again")
}

// spare: a copy of b whose spare room has something in it.
func spare(b []byte) []byte {
	return append(bytes.Clone(b), 0xEE, 0xEE, 0xEE)[:len(b)]
}

// scribble writes over entries, their bodies, and the spare room of all of these.
func scribble(l ...api.Entry) {
	l = l[:cap(l)]
	for i := range l {
		b := l[i].Body[:cap(l[i].Body)]
		for j := range b {
			b[j] = 0x55
		}
		l[i] = api.Entry{Writer: 5, Index: 5}
	}
}

// clones: l, with bodies of their own.
func clones(l []api.Entry) []api.Entry {
	var out []api.Entry
	for _, e := range l {
		e.Body = bytes.Clone(e.Body)
		out = append(out, e)
	}
	return out
}

// Rule 4: what is handed in is not changed, its spare room neither, and not kept.
func TestKeepsNothingOfTheCaller(t *testing.T) {
	o := oracle.New(nil)
	secret, public := o.Pair()
	l := newLog(t, o, 1, public)
	body := spare([]byte("body"))
	e, _ := l.Issue(secret, at(1, 1), 0, body)
	next := signed(t, o, secret, api.Entry{Writer: 1, Index: 1, Prev: l.Head().Sum, At: at(2, 1), Body: []byte("next")})
	in := with(next, func(e *api.Entry) { e.Body = spare(e.Body) })
	list := append(clones([]api.Entry{e}), in, api.Entry{Index: 77})[:2]
	l.Check(in)
	l.Accept(in)
	l.Odds(in)
	Whole(o, public, list)
	if string(body[:7]) != "body\xEE\xEE\xEE" || string(in.Body[:7]) != "next\xEE\xEE\xEE" || list[:3][2].Index != 77 {
		t.Errorf("what was handed in became %q, %q, %v", body[:7], in.Body[:7], list[:3])
	}
	want := clones([]api.Entry{e, next})
	scribble(api.Entry{Body: body}, in)
	scribble(list...)
	has(t, o, l, 1, want)
}

// Rule 4: what is handed out is new memory, its spare room too, and no two of it share any.
func TestHandsOutNewMemory(t *testing.T) {
	o := oracle.New(nil)
	secret, public := o.Pair()
	l, all := filled(t, o, 1, secret, public, 3)
	want := clones(all)
	scribble(all...)
	has(t, o, l, 1, want)
	scribble(l.All()...)
	one, _ := l.At(1)
	scribble(one)
	has(t, o, l, 1, want)
	twin := signed(t, o, secret, with(want[1], func(e *api.Entry) { e.Body = []byte("twin") }))
	a, b, _ := l.Odds(twin)
	scribble(a)
	if string(b.Body) != "twin" {
		t.Errorf("both of Odds share a body: %q", b.Body)
	}
	scribble(b)
	if string(twin.Body) != "twin" {
		t.Errorf("Odds hands out the caller's body: %q", twin.Body)
	}
	has(t, o, l, 1, want)
	gone := l.Cut(1)
	kept := clones(gone)
	issued(t, l, secret, 90, "other")
	if !slices.EqualFunc(gone, kept, entry.Same) {
		t.Errorf("what was cut became %v", gone)
	}
	now := clones(l.All())
	scribble(gone...)
	has(t, o, l, 1, now)
}
