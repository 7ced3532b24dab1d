package stamp

import (
	"math"
	"testing"

	"cachette/api"
)

// clockOf: a new clock of w, which must be one.
func clockOf(t *testing.T, w int) *Clock {
	t.Helper()
	c, k := New(w)
	if k != api.OK || c == nil {
		t.Fatalf("New(%d): %v, %d", w, c, k)
	}
	return c
}

// sees: the call answers that kind, and the clock is there then.
func sees(t *testing.T, c *Clock, s api.Stamp, want api.Kind, now int64) {
	t.Helper()
	if k := c.See(s); k != want {
		t.Errorf("See of %v: %d, not %d", s, k, want)
	}
	if got := c.Now(); got != now {
		t.Errorf("behind See of %v: Now %d, not %d", s, got, now)
	}
}

// ticks: the call answers that stamp, and the clock is there then.
func ticks(t *testing.T, c *Clock, want api.Stamp) {
	t.Helper()
	if s, k := c.Tick(); s != want || k != api.OK || c.Now() != want.T {
		t.Errorf("Tick: %v, %d, Now %d, not %v", s, k, c.Now(), want)
	}
}

// P403: a clock of each member begins at 0, and ticks that member's stamps from 1 on.
func TestNew(t *testing.T) {
	for w := range api.MaxMembers {
		c := clockOf(t, w)
		if now := c.Now(); now != 0 {
			t.Errorf("New(%d): Now %d", w, now)
		}
		ticks(t, c, at(1, w))
		ticks(t, c, at(2, w))
		ticks(t, c, at(3, w))
	}
}

// P403: no clock of who can't be a member.
func TestNewBadArg(t *testing.T) {
	for _, w := range []int{-1, 8, 9, 256, 1 << 32, math.MinInt, math.MaxInt} {
		if c, k := New(w); c != nil || k != api.BadArg {
			t.Errorf("New(%d): %v, %d, not nil, 1", w, c, k)
		}
	}
}

// P403: See goes on to a T above, and stays at one that is not.
func TestSee(t *testing.T) {
	c := clockOf(t, 2)
	sees(t, c, at(1, 7), api.OK, 1)
	ticks(t, c, at(2, 2))
	sees(t, c, at(9, 1), api.OK, 9)
	sees(t, c, at(9, 7), api.OK, 9)
	sees(t, c, at(8, 7), api.OK, 9)
	sees(t, c, at(1, 0), api.OK, 9)
	ticks(t, c, at(10, 2))
	sees(t, c, at(10, 2), api.OK, 10)
	sees(t, c, at(11, 0), api.OK, 11)
	ticks(t, c, at(12, 2))
}

// P403: a stamp that is not right is BadArg, and the clock stays.
func TestSeeBadArg(t *testing.T) {
	c := clockOf(t, 1)
	sees(t, c, at(4, 0), api.OK, 4)
	for _, s := range inOrder() {
		if !Right(s) {
			sees(t, c, s, api.BadArg, 4)
		}
	}
	for _, s := range []api.Stamp{at(9, 8), at(9, -1), at(api.MaxTime+1, 0), at(0, 0), at(-7, 1)} {
		sees(t, c, s, api.BadArg, 4)
	}
	ticks(t, c, at(5, 1))
}

// P403: a clock at MaxTime ticks no more, and stays there; one below it ticks once.
func TestTickRange(t *testing.T) {
	c := clockOf(t, 3)
	sees(t, c, at(api.MaxTime-1, 0), api.OK, api.MaxTime-1)
	ticks(t, c, at(api.MaxTime, 3))
	seen := clockOf(t, 4)
	sees(t, seen, at(api.MaxTime, 7), api.OK, api.MaxTime)
	for _, c := range []*Clock{c, seen} {
		for range 3 {
			if s, k := c.Tick(); s != (api.Stamp{}) || k != api.Range {
				t.Errorf("Tick at MaxTime: %v, %d, not the zero stamp, 2", s, k)
			}
			if now := c.Now(); now != api.MaxTime {
				t.Errorf("Now behind that: %d", now)
			}
		}
		sees(t, c, at(1, 1), api.OK, api.MaxTime)
		sees(t, c, at(api.MaxTime, 1), api.OK, api.MaxTime)
	}
}

// P403: of nil: 0, nothing, Nil, whatever else is wrong.
func TestNilClock(t *testing.T) {
	var c *Clock
	if now := c.Now(); now != 0 {
		t.Errorf("Now: %d", now)
	}
	if s, k := c.Tick(); s != (api.Stamp{}) || k != api.Nil {
		t.Errorf("Tick: %v, %d", s, k)
	}
	for _, s := range []api.Stamp{at(1, 1), at(0, 0), at(1, 8), at(-1, -1)} {
		if k := c.See(s); k != api.Nil {
			t.Errorf("See of %v: %d, not 23", s, k)
		}
	}
}

// P403, rule 5: two clocks share nothing, those of one member neither.
func TestClocksApart(t *testing.T) {
	a, b := clockOf(t, 5), clockOf(t, 5)
	sees(t, a, at(40, 1), api.OK, 40)
	ticks(t, a, at(41, 5))
	ticks(t, b, at(1, 5))
	ticks(t, a, at(42, 5))
}
