package members

import (
	"math"
	"slices"
	"testing"

	"cachette/api"
)

// same: are both states the same?
func same(a, b State) bool {
	return a.Epoch == b.Epoch && slices.Equal(a.L, b.L)
}

// nothing: is it the zero state?
func nothing(s State) bool {
	return same(s, State{})
}

// isBehind: these changes lead to that state, each one taken by Apply.
func isBehind(t *testing.T, want State, l ...Change) State {
	t.Helper()
	s := New(5)
	for i, c := range l {
		next, k := Apply(s, c)
		if k != api.OK {
			t.Fatalf("change %d, %v, to %v: %d", i, c, s, k)
		}
		s = next
	}
	if !same(s, want) {
		t.Fatalf("%v is behind %v, not %v", s, l, want)
	}
	return s
}

// some: a state with one who stayed, one revoked ahead of all epochs, one revoked in its first epoch, and two who came later, one of them revoked ahead of its first.
func some(t *testing.T) State {
	return isBehind(t, State{[]Member{{0, 5, 0, -1, 0}, {2, 12, 0, -2, 7}, {3, 13, 0, 1, 4}, {5, 15, 2, -1, 0}, {6, 16, 3, 2, 9}}, 2},
		inv(3, 13), inv(2, 12), rev(2, 7), ep(false, 0, 3), ep(true, 0, 3), rev(3, 4), inv(5, 15), ep(true, 0, 5), inv(6, 16), rev(6, 9))
}

// P1202: the admin alone, whatever its key, and no epoch.
func TestNew(t *testing.T) {
	for _, p := range []uint64{0, 1, 5, math.MaxUint64} {
		if got := New(p); !same(got, State{[]Member{{0, p, 0, -1, 0}}, -1}) {
			t.Errorf("New of %d: %v", p, got)
		}
	}
}

// P1203: who is a member, or was one; nobody else.
func TestFind(t *testing.T) {
	s := some(t)
	met := 0
	for _, who := range []int{math.MinInt, -1, 0, 1, 2, 3, 4, 5, 6, 7, 8, 300, math.MaxInt} {
		m, is := Find(s, who)
		i := slices.IndexFunc(s.L, func(m Member) bool { return m.Who == who })
		if is != (i >= 0) || is && m != s.L[i] || !is && m != (Member{}) {
			t.Errorf("Find of %d: %v, %t", who, m, is)
		}
		if is {
			met++
		}
	}
	if met != 5 {
		t.Errorf("%d are found", met)
	}
	if m, is := Find(State{}, 0); is || m != (Member{}) {
		t.Errorf("Find in nothing: %v, %t", m, is)
	}
}

// P1203: those with To -1, by Who.
func TestNow(t *testing.T) {
	if got := Now(some(t)); !slices.Equal(got, []Member{{0, 5, 0, -1, 0}, {5, 15, 2, -1, 0}}) {
		t.Errorf("Now: %v", got)
	}
	if got := Now(New(9)); !slices.Equal(got, []Member{{0, 9, 0, -1, 0}}) {
		t.Errorf("Now of New: %v", got)
	}
	for _, s := range []State{{}, {L: []Member{{Who: 1, To: -2}, {Who: 2, To: 0}, {Who: 3, To: 4}}}} {
		if got := Now(s); len(got) != 0 {
			t.Errorf("Now of %v: %v", s, got)
		}
	}
}

// P1203: each kind of May, at its edges.
func TestMay(t *testing.T) {
	s := some(t)
	for _, c := range []struct {
		who, index, epoch int
		want              api.Kind
	}{
		{0, 0, 0, api.OK}, {0, 0, 2, api.OK}, {0, 199, 1, api.OK},
		{0, 0, 3, api.Gap}, {0, 0, math.MaxInt, api.Gap}, {0, 0, -2, api.Unauthorized}, {0, 0, math.MinInt, api.Unauthorized},
		{1, 0, 0, api.Unknown}, {1, 0, 3, api.Unknown}, {1, 0, -1, api.Unknown}, {-1, 0, 0, api.Unknown}, {8, 0, 0, api.Unknown},
		{math.MinInt, 0, -1, api.Unknown}, {math.MaxInt, 0, -1, api.Unknown},
		{2, 0, 0, api.Unauthorized}, {2, 0, 2, api.Unauthorized}, {2, 0, -2, api.Unauthorized}, {2, 0, 3, api.Gap},
		{3, 0, 0, api.OK}, {3, 3, 0, api.OK}, {3, 3, 1, api.OK}, {3, 4, 1, api.Unauthorized}, {3, 4, 0, api.Unauthorized},
		{3, math.MaxInt, 0, api.Unauthorized}, {3, 0, 2, api.Unauthorized}, {3, 0, 3, api.Gap}, {3, 9, 3, api.Gap},
		{5, 0, 1, api.Unauthorized}, {5, 0, 0, api.Unauthorized}, {5, 0, 2, api.OK}, {5, 199, 2, api.OK}, {5, 0, 3, api.Gap},
		{6, 0, 0, api.Unauthorized}, {6, 0, 2, api.Unauthorized}, {6, 0, 3, api.Gap},
	} {
		if got := May(s, c.who, c.index, c.epoch); got != c.want {
			t.Errorf("May %d write %d in %d: %d, not %d", c.who, c.index, c.epoch, got, c.want)
		}
	}
}

// P1203: the admin's plain word is the admin's alone, at whatever index, also ahead of all epochs.
func TestMayPlain(t *testing.T) {
	early, _ := Apply(New(5), inv(1, 6))
	for _, s := range []State{early, some(t)} {
		for who := range 8 {
			for _, index := range []int{math.MinInt, -1, 0, 1, 199, 200, math.MaxInt} {
				want := api.Unauthorized
				if _, is := Find(s, who); !is {
					want = api.Unknown
				}
				if who == 0 {
					want = api.OK
				}
				if got := May(s, who, index, -1); got != want {
					t.Errorf("May %d write %d in -1: %d, not %d", who, index, got, want)
				}
			}
		}
	}
}

// P1203: the Limit of who was not revoked is none.
func TestMayWithoutLimit(t *testing.T) {
	s := some(t)
	for index := range 300 {
		if a, b := May(s, 0, index, 0), May(s, 5, index, 2); a != api.OK || b != api.OK {
			t.Errorf("index %d: %d, %d", index, a, b)
		}
	}
}

// The chapter's example.
func TestExample(t *testing.T) {
	s := isBehind(t, State{[]Member{{0, 5, 0, -1, 0}, {1, 6, 1, -1, 0}}, 0}, ep(false, 0), inv(1, 6))
	if m, is := Find(s, 1); !is || m.From != 1 {
		t.Errorf("Find: %v, %t", m, is)
	}
	if a, b := May(s, 1, 0, 0), May(s, 1, 0, 1); a != api.Unauthorized || b != api.Gap {
		t.Errorf("May: %d, %d", a, b)
	}
}
