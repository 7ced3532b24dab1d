package members

import (
	"math"
	"slices"
	"testing"

	"cachette/api"
)

// isRefusedBy: Apply of c to s tells that kind, and nothing else; s stays.
func isRefusedBy(t *testing.T, what string, s State, c Change, want api.Kind) {
	t.Helper()
	was := State{slices.Clone(s.L), s.Epoch}
	if got, k := Apply(s, c); k != want || !nothing(got) || got.L != nil {
		t.Errorf("%s: Apply of %v to %v: %v, %d, not %d", what, c, s, got, k, want)
	}
	if !same(s, was) {
		t.Errorf("%s: %v became %v", what, was, s)
	}
}

// P1202: BadArg, ahead of all that the state says.
func TestApplyBadArg(t *testing.T) {
	for what, l := range wrongChanges() {
		for _, c := range l {
			for _, s := range []State{{}, New(5), some(t), {L: New(5).L, Epoch: api.MaxEpochs - 1}} {
				isRefusedBy(t, what, s, c, api.BadArg)
			}
		}
	}
}

// P1202: invited ones stand by Who, each from the next epoch on.
func TestInvite(t *testing.T) {
	isBehind(t, State{[]Member{{0, 5, 0, -1, 0}, {1, 11, 0, -1, 0}, {4, 14, 0, -1, 0}, {7, 17, 0, -1, 0}}, -1},
		inv(4, 14), inv(7, 17), inv(1, 11))
	isBehind(t, State{[]Member{{0, 5, 0, -1, 0}, {1, 11, 2, -1, 0}, {4, 14, 1, -1, 0}}, 1},
		ep(false, 0), inv(4, 14), ep(true, 0, 4), inv(1, 11))
}

// P1202: all orders of inviting three lead to one state.
func TestInviteOrders(t *testing.T) {
	want := State{[]Member{{0, 5, 0, -1, 0}, {2, 12, 0, -1, 0}, {3, 13, 0, -1, 0}, {7, 17, 0, -1, 0}}, -1}
	for _, l := range [][]int{{2, 3, 7}, {2, 7, 3}, {3, 2, 7}, {3, 7, 2}, {7, 2, 3}, {7, 3, 2}} {
		isBehind(t, want, inv(l[0], uint64(10+l[0])), inv(l[1], uint64(10+l[1])), inv(l[2], uint64(10+l[2])))
	}
}

// P1202: nobody is invited twice, with the same key or another, the admin neither, nor who was revoked.
func TestInviteExists(t *testing.T) {
	for _, s := range []State{New(5), some(t)} {
		for _, m := range s.L {
			isRefusedBy(t, "the same key", s, inv(m.Who, m.Public), api.Exists)
			isRefusedBy(t, "another key", s, inv(m.Who, 99), api.Exists)
		}
	}
}

// P1202: all members that there may be, ever.
func TestInviteAll(t *testing.T) {
	s := New(5)
	for who := 1; who < api.MaxMembers; who++ {
		s, _ = Apply(s, inv(who, 9))
	}
	if len(s.L) != api.MaxMembers || len(Now(s)) != api.MaxMembers {
		t.Errorf("%v", s)
	}
	s, k := Apply(s, ep(false, 0, 1, 2, 3, 4, 5, 6, 7))
	if k != api.OK || s.Epoch != 0 {
		t.Errorf("an epoch of all: %v, %d", s, k)
	}
	isRefusedBy(t, "one more", s, inv(8, 9), api.BadArg)
}

// P1202: To is the last epoch, or -2, and Limit as told.
func TestRevoke(t *testing.T) {
	isBehind(t, State{[]Member{{0, 5, 0, -1, 0}, {1, 6, 0, -2, 200}}, -1}, inv(1, 6), rev(1, 200))
	isBehind(t, State{[]Member{{0, 5, 0, -1, 0}, {1, 6, 0, 0, 0}}, 0}, inv(1, 6), ep(false, 0, 1), rev(1, 0))
	isBehind(t, State{[]Member{{0, 5, 0, -1, 0}, {1, 6, 0, 1, 3}, {2, 7, 0, -1, 0}}, 2},
		inv(1, 6), inv(2, 7), ep(false, 0, 1, 2), ep(true, 0, 1, 2), rev(1, 3), ep(true, 0, 2))
	isBehind(t, State{[]Member{{0, 5, 0, -1, 0}, {1, 6, 1, 0, 8}}, 0}, ep(false, 0), inv(1, 6), rev(1, 8))
}

// P1202: Unknown: nobody has that number; Unauthorized: it was revoked, with whatever Limit.
func TestRevokeRefused(t *testing.T) {
	for _, who := range []int{1, 4, 7} {
		isRefusedBy(t, "nobody", some(t), rev(who, 0), api.Unknown)
		isRefusedBy(t, "nobody", New(5), rev(who, 0), api.Unknown)
	}
	for _, who := range []int{2, 3, 6} {
		for _, limit := range []int{0, 4, 7, 200} {
			isRefusedBy(t, "revoked", some(t), rev(who, limit), api.Unauthorized)
		}
	}
}

// subsets: all lists of rising numbers below 8 but the empty one.
func subsets() [][]int {
	var l [][]int
	for set := 1; set < 1<<8; set++ {
		var whos []int
		for i := range 8 {
			if set>>i&1 == 1 {
				whos = append(whos, i)
			}
		}
		l = append(l, whos)
	}
	return l
}

// P1202: an epoch's Wraps are for just those who are members Now.
func TestEpochWraps(t *testing.T) {
	s := some(t)
	took := 0
	for _, whos := range subsets() {
		if slices.Equal(whos, []int{0, 5}) {
			got, k := Apply(s, ep(true, whos...))
			if k != api.OK || !same(got, State{s.L, 3}) {
				t.Errorf("for %v: %v, %d", whos, got, k)
			}
			took++
			continue
		}
		isRefusedBy(t, "others", s, ep(true, whos...), api.Unauthorized)
	}
	if took != 1 {
		t.Errorf("%d were taken", took)
	}
}

// P1202: the first epoch has no Old, each later one has.
func TestEpochOld(t *testing.T) {
	isRefusedBy(t, "the first one with an Old", New(5), ep(true, 0), api.Unauthorized)
	s, k := Apply(New(5), ep(false, 0))
	for n := range api.MaxEpochs - 1 {
		if k != api.OK || s.Epoch != n {
			t.Fatalf("epoch %d: %v, %d", n, s, k)
		}
		isRefusedBy(t, "a later one without an Old", s, ep(false, 0), api.Unauthorized)
		s, k = Apply(s, ep(true, 0))
	}
}

// P1202: MaxEpochs epochs are taken, and none more: Range, whatever its Wraps and Old; invitations and revocations go on.
func TestEpochRange(t *testing.T) {
	l := []Change{ep(false, 0)}
	for len(l) < api.MaxEpochs {
		l = append(l, ep(true, 0))
	}
	s := isBehind(t, State{[]Member{{0, 5, 0, -1, 0}}, api.MaxEpochs - 1}, l...)
	for _, c := range []Change{ep(true, 0), ep(false, 0), ep(true, 1), ep(false, 0, 1)} {
		isRefusedBy(t, "one more", s, c, api.Range)
	}
	s = isBehind(t, State{[]Member{{0, 5, 0, -1, 0}, {1, 6, api.MaxEpochs, -1, 0}}, api.MaxEpochs - 1}, append(l, inv(1, 6))...)
	if k := May(s, 1, 0, api.MaxEpochs-1); k != api.Unauthorized {
		t.Errorf("May: %d", k)
	}
	isBehind(t, State{[]Member{{0, 5, 0, -1, 0}, {1, 6, api.MaxEpochs, api.MaxEpochs - 1, 2}}, api.MaxEpochs - 1}, append(l, inv(1, 6), rev(1, 2))...)
}

// P1204: the state behind all, and how many they are.
func TestBehind(t *testing.T) {
	for _, l := range [][]Change{nil, {}} {
		if s, n, k := Behind(l, 5); k != api.OK || n != 0 || !same(s, New(5)) {
			t.Errorf("Behind nothing: %v, %d, %d", s, n, k)
		}
	}
	s, n, k := Behind([]Change{inv(1, 6), ep(false, 0, 1), rev(1, 3), ep(true, 0)}, 77)
	if want := (State{[]Member{{0, 77, 0, -1, 0}, {1, 6, 0, 0, 3}}, 1}); k != api.OK || n != 4 || !same(s, want) {
		t.Errorf("Behind: %v, %d, %d", s, n, k)
	}
}

// P1204: the state behind those ahead of the first that is refused, whatever comes behind it, and its kind.
func TestBehindRefused(t *testing.T) {
	ahead := []Change{inv(1, 6), ep(false, 0, 1), rev(1, 3)}
	want := State{[]Member{{0, 5, 0, -1, 0}, {1, 6, 0, 0, 3}}, 0}
	for _, c := range []struct {
		c    Change
		want api.Kind
	}{
		{Change{}, api.BadArg}, {rev(0, 1), api.BadArg}, {inv(1, 6), api.Exists}, {inv(0, 6), api.Exists},
		{rev(2, 1), api.Unknown}, {rev(1, 1), api.Unauthorized}, {ep(false, 0), api.Unauthorized}, {ep(true, 0, 1), api.Unauthorized},
	} {
		for _, rest := range [][]Change{nil, {inv(2, 9)}, {c.c, ep(true, 0)}} {
			s, n, k := Behind(slices.Concat(ahead, []Change{c.c}, rest), 5)
			if k != c.want || n != 3 || !same(s, want) {
				t.Errorf("Behind with %v, then %v: %v, %d, %d", c.c, rest, s, n, k)
			}
		}
	}
	if s, n, k := Behind([]Change{rev(1, 1), inv(1, 6)}, 5); k != api.Unknown || n != 0 || !same(s, New(5)) {
		t.Errorf("the first one is refused: %v, %d, %d", s, n, k)
	}
	many := []Change{ep(false, 0)}
	for len(many) < 30 {
		many = append(many, ep(true, 0))
	}
	if s, n, k := Behind(many, 5); k != api.Range || n != api.MaxEpochs || s.Epoch != api.MaxEpochs-1 {
		t.Errorf("30 epochs: %v, %d, %d", s, n, k)
	}
}

// oddStates: what no log of changes leads to.
func oddStates() []State {
	all := []Member{{7, 1, 9, -1, 5}, {0, 2, math.MinInt, math.MaxInt, -4}, {3, 3, -8, -1, 0}, {3, 4, 0, 2, 2}, {-5, 0, 1, -1, 1}, {99, 0, math.MaxInt, math.MinInt, math.MaxInt}}
	var l []State
	for _, e := range []int{math.MinInt, -3, -2, -1, 0, 18, 19, 20, math.MaxInt - 1, math.MaxInt} {
		l = append(l, State{nil, e}, State{all, e}, State{New(5).L, e})
	}
	return l
}

// Rules 1 and 6: whatever state comes in, each call ends, and with an error there is nothing.
func TestOddStates(t *testing.T) {
	odd := []int{math.MinInt, -5, -2, -1, 0, 3, 7, 19, 99, math.MaxInt}
	for _, s := range oddStates() {
		was := State{slices.Clone(s.L), s.Epoch}
		for _, c := range rightChanges() {
			if got, k := Apply(s, c); k != api.OK && !nothing(got) {
				t.Errorf("Apply of %v to %v: %v, %d", c, s, got, k)
			}
		}
		for _, who := range odd {
			m, is := Find(s, who)
			if is != (m != Member{}) {
				t.Errorf("Find of %d in %v: %v, %t", who, s, m, is)
			}
			for _, index := range odd {
				for _, epoch := range odd {
					if k := May(s, who, index, epoch); (k == api.Unknown) == is {
						t.Errorf("May(%v, %d, %d, %d): %d", s, who, index, epoch, k)
					}
				}
			}
		}
		for _, m := range Now(s) {
			if m.To != -1 {
				t.Errorf("Now of %v has %v", s, m)
			}
		}
		if !same(s, was) {
			t.Errorf("%v became %v", was, s)
		}
	}
}

// Rule 6: the epoch behind the last one is a whole number: where none can tell it, nobody comes in.
func TestInviteBehindTheGreatest(t *testing.T) {
	for _, e := range []int{20, 1000, math.MaxInt - 1} {
		if s, k := Apply(State{New(5).L, e}, inv(1, 6)); k != api.OK || s.L[1].From != e+1 {
			t.Errorf("behind %d: %v, %d", e, s, k)
		}
	}
	isRefusedBy(t, "the greatest epoch", State{New(5).L, math.MaxInt}, inv(1, 6), api.Range)
	isRefusedBy(t, "the greatest epoch", State{New(5).L, math.MaxInt}, inv(0, 6), api.Exists)
	isRefusedBy(t, "the greatest epoch", State{New(5).L, math.MaxInt}, ep(true, 0), api.Range)
}
