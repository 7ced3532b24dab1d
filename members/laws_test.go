package members

import (
	"bytes"
	"math/rand"
	"slices"
	"testing"

	"cachette/api"
)

// tale: the log of changes that were taken, by which the chapter's words are asked again, plainly.
type tale []Change

// epochs: how many have begun in the first n changes.
func (l tale) epochs(n int) int {
	count := 0
	for _, c := range l[:n] {
		if c.Kind == 3 {
			count++
		}
	}
	return count
}

// when: the place of the change of that kind that names who; -1: none.
func (l tale) when(kind, who int) int {
	return slices.IndexFunc(l, func(c Change) bool { return c.Kind == kind && c.Who == who })
}

// known: is who a member, or was it one?
func (l tale) known(who int) bool {
	return who == 0 || l.when(1, who) >= 0
}

// now: who is a member and was not revoked, rising.
func (l tale) now() []int {
	var out []int
	for who := range 8 {
		if l.known(who) && l.when(2, who) < 0 {
			out = append(out, who)
		}
	}
	return out
}

// takes: the kind of a further change, by P1202's words.
func (l tale) takes(c Change) api.Kind {
	switch {
	case !Right(c):
		return api.BadArg
	case c.Kind == 1 && l.known(c.Who):
		return api.Exists
	case c.Kind == 2 && !l.known(c.Who):
		return api.Unknown
	case c.Kind == 2 && l.when(2, c.Who) >= 0:
		return api.Unauthorized
	case c.Kind == 3 && l.epochs(len(l)) >= 20:
		return api.Range
	case c.Kind == 3 && !slices.EqualFunc(c.Wraps, l.now(), func(w Wrap, who int) bool { return w.Who == who }):
		return api.Unauthorized
	case c.Kind == 3 && (len(c.Old) > 0) != (l.epochs(len(l)) > 0):
		return api.Unauthorized
	}
	return api.OK
}

// may: by P1203's words; epochs begin at places of the log, and who came or went in their midst is told by places, too.
func (l tale) may(who, index, epoch int) api.Kind {
	if !l.known(who) {
		return api.Unknown
	}
	if epoch == -1 {
		return unless(who == 0, api.Unauthorized)
	}
	if epoch >= l.epochs(len(l)) {
		return api.Gap
	}
	if epoch < 0 || who != 0 && l.epochs(l.when(1, who)) > epoch {
		return api.Unauthorized
	}
	if i := l.when(2, who); i >= 0 && (l.epochs(i) <= epoch || index >= l[i].Limit) {
		return api.Unauthorized
	}
	return api.OK
}

// isAsTold: what s answers is what the log says.
func isAsTold(t *testing.T, s State, l tale) {
	t.Helper()
	if s.Epoch != l.epochs(len(l))-1 {
		t.Fatalf("behind %v: %v", l, s)
	}
	if !slices.IsSortedFunc(s.L, func(a, b Member) int { return a.Who - b.Who }) {
		t.Fatalf("%v is not in order", s)
	}
	for who := -1; who < 9; who++ {
		if _, is := Find(s, who); is != l.known(who) {
			t.Fatalf("behind %v: Find of %d: %t", l, who, is)
		}
		for epoch := -2; epoch < s.Epoch+3; epoch++ {
			for _, index := range []int{-1, 0, 1, 2, 3, 199, 200} {
				if got, want := May(s, who, index, epoch), l.may(who, index, epoch); got != want {
					t.Fatalf("behind %v: May %d write %d in %d: %d, not %d", l, who, index, epoch, got, want)
				}
			}
		}
	}
	if !slices.EqualFunc(Now(s), l.now(), func(m Member, who int) bool { return m.Who == who }) {
		t.Fatalf("behind %v: Now %v", l, Now(s))
	}
}

// isRevokedForGood: P1205, of each that was revoked: nothing in later epochs, nothing beyond its Limit.
func isRevokedForGood(t *testing.T, s State, l tale) {
	t.Helper()
	for i, c := range l {
		if c.Kind != 2 {
			continue
		}
		for epoch := -1; epoch < s.Epoch+3; epoch++ {
			for _, index := range []int{0, 1, 2, 3, 199, 200, 1000} {
				if (epoch == -1 || epoch >= l.epochs(i) || index >= c.Limit) && May(s, c.Who, index, epoch) == api.OK {
					t.Fatalf("behind %v: %d was revoked, but may write %d in %d", l, c.Who, index, epoch)
				}
			}
		}
	}
}

// few: changes of few members, among them all that fit, and many that do not.
func few() []Change {
	return []Change{
		inv(1, 6), inv(2, 7), rev(1, 2), rev(2, 0),
		ep(false, 0), ep(true, 0), ep(false, 0, 1), ep(true, 0, 1), ep(true, 0, 2), ep(false, 0, 1, 2), ep(true, 0, 1, 2),
	}
}

// P1202, P1203, P1205: all logs of few changes, up to seven of them taken.
func TestAllLogs(t *testing.T) {
	count := 0
	var grow func(s State, l tale)
	grow = func(s State, l tale) {
		count++
		isAsTold(t, s, l)
		isRevokedForGood(t, s, l)
		if len(l) == 7 {
			return
		}
		for _, c := range few() {
			next, k := Apply(s, c)
			if want := l.takes(c); k != want {
				t.Fatalf("behind %v: Apply of %v: %d, not %d", l, c, k, want)
			}
			if k == api.OK {
				grow(next, append(slices.Clip(l), c))
			}
		}
	}
	grow(New(5), nil)
	if count < 300 {
		t.Errorf("only %d logs", count)
	}
}

// anyChange: one of all members, mostly right, half of the epochs' with what fits.
func anyChange(r *rand.Rand, l tale) Change {
	switch r.Intn(5) {
	case 0:
		return inv(r.Intn(9), r.Uint64())
	case 1:
		return rev(r.Intn(9), r.Intn(203)-1)
	case 2:
		return ep(r.Intn(2) == 0, subsets()[r.Intn(255)]...)
	}
	return ep(l.epochs(len(l)) > 0, l.now()...)
}

// P1202 to P1205: long logs of all members, against the plain words; Behind tells what Apply told one by one.
func TestLongLogs(t *testing.T) {
	r := rand.New(rand.NewSource(12))
	full, gone := 0, 0
	for range 150 {
		s, l := New(5), tale(nil)
		for range 90 {
			c := anyChange(r, l)
			next, k := Apply(s, c)
			if want := l.takes(c); k != want {
				t.Fatalf("behind %v: Apply of %v: %d, not %d", l, c, k, want)
			}
			if b, n, j := Behind(append(slices.Clip(l), c), 5); j != k || n != len(l) && k != api.OK || k == api.OK && (n != len(l)+1 || !same(b, next)) || k != api.OK && !same(b, s) {
				t.Fatalf("Behind %v, then %v: %v, %d, %d", l, c, b, n, j)
			}
			if k == api.OK {
				s, l = next, append(l, c)
			}
		}
		isAsTold(t, s, l)
		isRevokedForGood(t, s, l)
		if s.Epoch == api.MaxEpochs-1 {
			full++
		}
		gone += len(s.L) - len(Now(s))
	}
	if full == 0 || gone < 100 {
		t.Errorf("%d logs with all epochs, %d revoked", full, gone)
	}
}

// P1205: what was refused once to who was revoked stays refused, whatever changes come.
func TestRevokedStaysSo(t *testing.T) {
	for _, limit := range []int{0, 3, 200} {
		s := isBehind(t, State{[]Member{{0, 5, 0, -1, 0}, {1, 6, 0, 1, limit}, {2, 7, 0, -1, 0}}, 1},
			inv(1, 6), inv(2, 7), ep(false, 0, 1, 2), ep(true, 0, 1, 2), rev(1, limit))
		for range 10 {
			for index := range 210 {
				for epoch := range s.Epoch + 1 {
					want := unless(epoch <= 1 && index < limit, api.Unauthorized)
					if got := May(s, 1, index, epoch); got != want {
						t.Fatalf("May 1 write %d in %d: %d, not %d", index, epoch, got, want)
					}
				}
			}
			if _, k := Apply(s, inv(1, 8)); k != api.Exists {
				t.Fatalf("invited again: %d", k)
			}
			if _, k := Apply(s, rev(1, 200)); k != api.Unauthorized {
				t.Fatalf("revoked again: %d", k)
			}
			s, _ = Apply(s, ep(true, 0, 2))
		}
	}
}

// spareMembers: a copy of l whose spare room has something in it.
func spareMembers(l []Member) []Member {
	return append(slices.Clone(l), Member{Who: 98}, Member{Who: 99})[:len(l)]
}

// spareBytes: likewise.
func spareBytes(b []byte) []byte {
	return append(bytes.Clone(b), 0xEE, 0xEE, 0xEE)[:len(b)]
}

// Rule 4: a state that is handed in is not changed, its spare room neither, and what is handed out shares none of it.
func TestSharesNoMembers(t *testing.T) {
	s := some(t)
	in := State{spareMembers(s.L), s.Epoch}
	var out [][]Member
	for _, c := range []Change{inv(1, 6), inv(7, 6), inv(4, 6), rev(5, 3), ep(true, 0, 5)} {
		got, k := Apply(in, c)
		again, _ := Apply(in, c)
		if k != api.OK || !same(got, again) {
			t.Errorf("Apply of %v: %v, %d, then %v", c, got, k, again)
		}
		out = append(out, got.L)
	}
	out = append(out, Now(in))
	for _, l := range out {
		l = l[:cap(l)]
		for i := range l {
			l[i] = Member{Who: 55, To: 55}
		}
	}
	if !same(in, s) || in.L[:cap(in.L)][len(s.L)].Who != 98 || in.L[:cap(in.L)][len(s.L)+1].Who != 99 {
		t.Errorf("the state became %v", in.L[:len(s.L)+2])
	}
	a, b := New(5), New(5)
	a.L[0].Who = 9
	if !same(b, State{[]Member{{0, 5, 0, -1, 0}}, -1}) || !same(New(5), b) {
		t.Error("two states of New share memory")
	}
}

// Rule 4: the state behind a change that is refused is not the one that Behind keeps, nor that of another call.
func TestBehindSharesNothing(t *testing.T) {
	l := []Change{inv(1, 6), inv(2, 7), rev(9, 9)}
	a, _, _ := Behind(l, 5)
	b, _, _ := Behind(l, 5)
	for i := range a.L[:cap(a.L)] {
		a.L[:cap(a.L)][i] = Member{Who: 55}
	}
	if c, _, _ := Behind(l, 5); !same(b, c) || len(b.L) != 3 {
		t.Errorf("%v, then %v", b, c)
	}
}

// Rule 4: a change that is handed in is not changed, its spare room neither; what is handed out is new memory, which nobody keeps.
func TestSharesNoBytes(t *testing.T) {
	c := ep(true, 0, 5)
	c.Old = spareBytes(c.Old)
	for i := range c.Wraps {
		c.Wraps[i].B = spareBytes(c.Wraps[i].B)
	}
	c.Wraps = append(c.Wraps, Wrap{Who: 77})[:2]
	b, _ := Bytes(c)
	want := bytes.Clone(b)
	in := spareBytes(b)
	got, _ := Read(in)
	Apply(some(t), c)
	Behind([]Change{c}, 5)
	clear(b[:cap(b)])
	clear(in)
	if !alike(got, ep(true, 0, 5)) {
		t.Errorf("what was read became %v", got)
	}
	if in[:len(in)+3][len(in)] != 0xEE {
		t.Error("Read wrote behind its bytes")
	}
	parts := [][]byte{got.Old, got.Wraps[0].B, got.Wraps[1].B}
	for i, p := range parts {
		p = p[:cap(p)]
		for j := range p {
			p[j] = byte(200 + i)
		}
	}
	for i, p := range parts {
		if slices.ContainsFunc(p, func(x byte) bool { return x != byte(200+i) }) {
			t.Error("two lists that Read answers share memory")
		}
	}
	if again, k := Bytes(c); k != api.OK || !bytes.Equal(again, want) {
		t.Errorf("Bytes: % X, then % X, %d", want, again, k)
	}
	for _, x := range [][]byte{c.Old, c.Wraps[0].B, c.Wraps[1].B} {
		if !bytes.Equal(x[:len(x)+3][len(x):], []byte{0xEE, 0xEE, 0xEE}) {
			t.Error("spare room was written")
		}
	}
	if c.Wraps[:3][2].Who != 77 {
		t.Error("spare room of the Wraps was written")
	}
}
