package epochs

import (
	"bytes"
	"math"
	"slices"
	"testing"

	"cachette/api"
	"cachette/members"
	"cachette/oracle"
	"cachette/wire"
)

// state: these are members Now, and that is the last epoch.
func (g *group) state(epoch int, whos ...int) members.State {
	s := members.State{Epoch: epoch}
	for _, who := range whos {
		s.L = append(s.L, members.Member{Who: who, Public: g.public[who], To: -1})
	}
	return s
}

// begun: Begin is OK; the change is right.
func begun(t *testing.T, o *oracle.Oracle, s members.State, last uint64) (members.Change, uint64) {
	t.Helper()
	c, key, k := Begin(o, s, last)
	if k != api.OK || key == 0 || !members.Right(c) || c.Kind != 3 {
		t.Fatalf("Begin behind %v: %v, %d, %d", s, c, key, k)
	}
	return c, key
}

// isRefused: Begin tells that kind, and nothing else, and uses so many handles.
func isRefused(t *testing.T, o *oracle.Oracle, s members.State, want api.Kind, handles int) {
	t.Helper()
	was := o.Used()
	c, key, k := Begin(o, s, 5)
	if k != want || key != 0 || !alike(c, members.Change{}) || c.Wraps != nil || c.Old != nil {
		t.Errorf("Begin behind %v: %v, %d, %d, not %d", s, c, key, k, want)
	}
	if o.Used() != was+handles {
		t.Errorf("Begin behind %v: %d handles, not %d", s, o.Used()-was, handles)
	}
}

// The chapter's example.
func TestExample(t *testing.T) {
	o := oracle.New(nil)
	secret, public := o.Pair()
	r, _ := New(o, 0, secret)
	c, key := begun(t, o, members.New(public), 0)
	learns(t, r, c, api.OK)
	has(t, r, key)
}

// P1303: the handles are those of the Key, of each Wrap in order, and of the Old, and these are all that is told.
func TestBeginHandles(t *testing.T) {
	o := oracle.New([]uint64{10, 11, 20, 21, 30, 31, 7, 8, 9, 6, 5})
	_, a := o.Pair()
	_, b := o.Pair()
	_, c := o.Pair()
	s := members.State{L: []members.Member{{Who: 0, Public: a, To: -1}, {Who: 3, Public: b, From: 4, To: -1}, {Who: 6, Public: c, To: -1}}, Epoch: 4}
	got, key, k := Begin(o, s, 99)
	box := func(h byte, zeros int) []byte { return append([]byte{0, 0, 0, 0, 0, 0, 0, h}, make([]byte, zeros)...) }
	want := members.Change{Kind: 3, Wraps: []members.Wrap{{Who: 0, B: box(8, 8)}, {Who: 3, B: box(9, 8)}, {Who: 6, B: box(6, 8)}}, Old: box(5, 16)}
	if k != api.OK || key != 7 || !alike(got, want) || o.Used() != 11 {
		t.Errorf("Begin: %v, %d, %d; %d handles", got, key, k, o.Used())
	}
}

// P1303: each wrap is of that key, for that member, and for nobody else.
func TestBeginWraps(t *testing.T) {
	g := newGroup()
	for set := 1; set < 1<<api.MaxMembers; set++ {
		var whos []int
		for who := range api.MaxMembers {
			if set>>who&1 == 1 {
				whos = append(whos, who)
			}
		}
		c, key := begun(t, g.o, g.state(-1, whos...), 0)
		if !slices.EqualFunc(c.Wraps, whos, func(w members.Wrap, who int) bool { return w.Who == who }) || len(c.Old) != 0 {
			t.Fatalf("for %v: %v", whos, c)
		}
		for _, w := range c.Wraps {
			for who, secret := range g.secret {
				if got, k := g.o.Unwrap(secret, w.B); (k == api.OK) != (who == w.Who) || k == api.OK && got != key {
					t.Fatalf("%d unwraps that of %d: %d, %d", who, w.Who, got, k)
				}
			}
		}
	}
}

// P1303: those who were revoked get none, in whatever epoch it was.
func TestBeginLeavesOutRevoked(t *testing.T) {
	g := newGroup()
	s := g.state(2, 0, 1, 2, 3, 4)
	s.L[1].To, s.L[2].To, s.L[4].To = -2, 0, 2
	s.L[2].Public = 0 // it need not be one
	c, key := begun(t, g.o, s, 5)
	if len(c.Wraps) != 2 || c.Wraps[0].Who != 0 || c.Wraps[1].Who != 3 {
		t.Fatalf("%v", c.Wraps)
	}
	for who, want := range []api.Kind{api.OK, api.NoKey, api.NoKey, api.OK, api.NoKey} {
		r := g.ring(t, who)
		learns(t, r, c, want)
		if want == api.OK {
			has(t, r, key)
		} else {
			has(t, r, 0)
		}
	}
}

// P1303: no Old ahead of the first epoch, whatever last is; behind each other one it has last, bound to the epoch that begins.
func TestBeginOld(t *testing.T) {
	g := newGroup()
	for _, last := range []uint64{0, 1, 77, g.o.Key(), 0x0102030405060708, math.MaxUint64} {
		if c, _ := begun(t, g.o, g.state(-1, 0), last); len(c.Old) != 0 {
			t.Errorf("ahead of the first epoch: Old % X", c.Old)
		}
		for _, epoch := range []int{0, 1, 18, 19, 20, 126, 127, 128, math.MaxInt - 1, math.MaxInt} {
			c, key := begun(t, g.o, g.state(epoch, 0), last)
			plain, k := g.o.Open(key, wire.Num(nil, uint64(epoch)+1), c.Old)
			if k != api.OK || !bytes.Equal(plain, eight(last)) || len(c.Old) != 24 {
				t.Errorf("behind %d: % X, %d, not %d", epoch, plain, k, last)
			}
			if _, k := g.o.Open(key, wire.Num(nil, uint64(epoch)), c.Old); k != api.BadSum {
				t.Errorf("behind %d: the Old is bound to that one: %d", epoch, k)
			}
			if _, k := g.o.Open(last, wire.Num(nil, uint64(epoch)+1), c.Old); k != api.NoKey {
				t.Errorf("behind %d: the Old is sealed with last: %d", epoch, k)
			}
		}
	}
}

// P1303: Nil: no oracle, whatever the state is.
func TestBeginNil(t *testing.T) {
	g := newGroup()
	for _, s := range []members.State{{}, {Epoch: -1}, members.New(5), g.state(-1, 0, 1), g.state(3, 0)} {
		isRefused(t, nil, s, api.Nil, 0)
	}
}

// P1303: Unknown: one has no Pair's public one, at whatever place; handles are used up to it.
func TestBeginUnknown(t *testing.T) {
	for _, public := range []func(g *group) uint64{
		func(g *group) uint64 { return 0 },
		func(g *group) uint64 { return 77 },
		func(g *group) uint64 { return math.MaxUint64 },
		func(g *group) uint64 { return g.secret[1] },
		func(g *group) uint64 { return g.o.Key() },
		func(g *group) uint64 { return g.o.Hash([]byte("x")) },
		func(g *group) uint64 { return draw(g.o.Used()) }, // that of the Key which Begin makes
	} {
		for place := range 4 {
			for _, epoch := range []int{-1, 0, 7} {
				g := newGroup()
				s := g.state(epoch, 0, 2, 4, 5)
				s.L[place].Public = public(g)
				isRefused(t, g.o, s, api.Unknown, 1+place)
			}
		}
	}
	g := newGroup()
	isRefused(t, g.o, members.New(0), api.Unknown, 1)
}

// P1303: Unauthorized: there is nobody, or nobody any more; the Key, which comes ahead, is used.
func TestBeginUnauthorized(t *testing.T) {
	g := newGroup()
	gone := g.state(3, 0, 1)
	gone.L[0].To, gone.L[1].To = 2, -2
	for _, s := range []members.State{{}, {Epoch: -1}, {Epoch: 6}, {L: []members.Member{}, Epoch: math.MaxInt}, gone} {
		isRefused(t, g.o, s, api.Unauthorized, 1)
	}
}

// P1303: two calls have two keys, and no part is the same.
func TestBeginTwice(t *testing.T) {
	g := newGroup()
	s := g.state(0, 0, 1)
	a, x := begun(t, g.o, s, 5)
	b, y := begun(t, g.o, s, 5)
	if x == y || bytes.Equal(a.Old, b.Old) || bytes.Equal(a.Wraps[0].B, b.Wraps[0].B) || bytes.Equal(a.Wraps[1].B, b.Wraps[1].B) {
		t.Errorf("%v, %d, then %v, %d", a, x, b, y)
	}
}

// P1303: Begin asks no limit: the state's own Apply tells Range behind MaxEpochs epochs.
func TestBeginBehindAll(t *testing.T) {
	g := newGroup()
	s := members.New(g.public[0])
	var last uint64
	for range api.MaxEpochs {
		c, key := begun(t, g.o, s, last)
		var k api.Kind
		if s, k = members.Apply(s, c); k != api.OK {
			t.Fatalf("Apply: %d", k)
		}
		last = key
	}
	c, _ := begun(t, g.o, s, last)
	if _, k := members.Apply(s, c); k != api.Range {
		t.Errorf("Apply of one more: %d", k)
	}
}

// Rules 1 and 6: whatever state comes in, Begin ends; each member Now has its wrap, in order.
func TestBeginOddStates(t *testing.T) {
	g := newGroup()
	for _, epoch := range []int{math.MinInt, -300, -3, -2, -1, 0, 19, 20, math.MaxInt - 1, math.MaxInt} {
		s := g.state(epoch, 7, 0, 3, 3)
		s.L = append(s.L, members.Member{Who: math.MinInt, Public: g.public[1], To: -1}, members.Member{Who: 99, Public: g.public[2], From: math.MaxInt, To: -1, Limit: -1})
		c, key, k := Begin(g.o, s, 9)
		whos := []int{7, 0, 3, 3, math.MinInt, 99}
		if k != api.OK || key == 0 || (len(c.Old) == 24) != (epoch != -1) || !slices.EqualFunc(c.Wraps, whos, func(w members.Wrap, who int) bool { return w.Who == who }) {
			t.Errorf("behind %d: %v, %d, %d", epoch, c, key, k)
		}
	}
}

// Rule 4: the state is not changed, its spare room neither; what is told is new memory, no two lists of it share any.
func TestBeginSharesNothing(t *testing.T) {
	g := newGroup()
	s := g.state(3, 0, 1, 2)
	in := members.State{L: append(slices.Clone(s.L), members.Member{Who: 77})[:3], Epoch: 3}
	c, key := begun(t, g.o, in, 5)
	want := spare(c) // a copy
	parts := [][]byte{c.Old, c.Wraps[0].B, c.Wraps[1].B, c.Wraps[2].B}
	for i, p := range parts {
		p = p[:cap(p)]
		for j := range p {
			p[j] = byte(200 + i)
		}
	}
	for i, p := range parts {
		if slices.ContainsFunc(p, func(x byte) bool { return x != byte(200+i) }) {
			t.Error("two lists that Begin answers share memory")
		}
	}
	clear(c.Wraps[:cap(c.Wraps)])
	if !slices.Equal(in.L, s.L) || in.L[:4][3].Who != 77 {
		t.Errorf("the state became %v", in.L[:4])
	}
	for who := range 3 {
		r := g.ring(t, who)
		learns(t, r, want, api.OK)
		has(t, r, key)
	}
	if plain, k := g.o.Open(key, []byte{4}, want.Old); k != api.OK || !bytes.Equal(plain, eight(5)) {
		t.Errorf("the Old: % X, %d", plain, k)
	}
}
