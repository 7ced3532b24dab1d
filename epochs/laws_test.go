package epochs

import (
	"math/rand"
	"slices"
	"testing"

	"cachette/api"
	"cachette/members"
)

// plain: a ring by the chapter's words: it keeps each change, and goes the whole way back each time.
type plain struct {
	g    *group
	who  int
	l    []members.Change
	keys map[int]uint64
}

// learn: by P1302's words.
func (p *plain) learn(c members.Change) api.Kind {
	if !members.Right(c) || c.Kind != 3 {
		return api.BadArg
	}
	if len(p.l) == 20 {
		return api.TooLarge
	}
	p.l = append(p.l, c)
	k := api.NoKey
	for _, w := range c.Wraps {
		if w.Who == p.who {
			var key uint64
			if key, k = p.g.o.Unwrap(p.g.secret[p.who], w.B); k == api.OK {
				p.keys[len(p.l)-1] = key
			}
		}
	}
	for e := len(p.l) - 1; e > 0; e-- {
		key, is := p.keys[e]
		_, ahead := p.keys[e-1]
		if !is || ahead {
			break
		}
		b, k := p.g.o.Open(key, []byte{byte(e)}, p.l[e].Old)
		if k != api.OK || len(b) != 8 || slices.Equal(b, make([]byte, 8)) {
			break
		}
		n := uint64(0)
		for _, x := range b {
			n = n*256 + uint64(x)
		}
		p.keys[e-1] = n
	}
	return k
}

// told: what it has learned, 0 where there is no key.
func (p *plain) told() []uint64 {
	out := []uint64{}
	for e := range p.l {
		out = append(out, p.keys[e])
	}
	return out
}

// anyWraps: of a key for some, now and then one that is no good.
func anyWraps(t *testing.T, g *group, r *rand.Rand, key uint64) []members.Wrap {
	var l []members.Wrap
	for who := range 4 {
		w := g.change(t, key, nil, who).Wraps[0]
		switch n := r.Intn(16); {
		case n < 9:
			continue
		case n == 9:
			w.B = g.change(t, key, nil, (who+1)%4).Wraps[0].B
		case n == 10:
			w.B = make([]byte, 16)
		}
		l = append(l, w)
	}
	return l
}

// anyOld: that of epoch e, mostly; else one of another epoch, key or text, one that opens later, or none.
func anyOld(t *testing.T, g *group, r *rand.Rand, e int, key, ahead uint64) []byte {
	switch r.Intn(16) {
	case 0:
		return nil
	case 1:
		return g.old(t, byte(e+1), key, eight(ahead))
	case 2:
		return g.old(t, byte(e), g.o.Key(), eight(ahead))
	case 3:
		return g.old(t, byte(e), key, eight(ahead)[:r.Intn(8)])
	case 4:
		return g.old(t, byte(e), key, eight([]uint64{0, 1, key}[r.Intn(3)]))
	case 5:
		return g.boxToCome()
	}
	return g.old(t, byte(e), key, eight(ahead))
}

// P1301, P1302, P1304: rings that are given whatever may come answer as the plain words, and copies go on as those do.
func TestPlainWords(t *testing.T) {
	r := rand.New(rand.NewSource(13))
	known, dark := 0, 0
	for range 400 {
		g := newGroup()
		var rings []*Ring
		var want []*plain
		for who := range 4 {
			rings, want = append(rings, g.ring(t, who)), append(want, &plain{g, who, nil, map[int]uint64{}})
		}
		var ahead uint64
		for range 26 { // some have no wraps, so that they are not right
			e, key := rings[0].Count(), g.o.Key()
			c := members.Change{Kind: 3, Wraps: anyWraps(t, g, r, key)}
			c.Old = anyOld(t, g, r, e, key, ahead)
			for i := range rings {
				if r.Intn(4) == 0 {
					rings[i] = Copy(rings[i])
				}
				isAsPlain(t, rings[i], want[i], c)
			}
			if slices.Equal(c.Old, g.boxToCome()) && r.Intn(4) > 0 {
				g.old(t, byte(e), key, eight(ahead)) // from now on it opens
			}
			if rings[0].Count() > e {
				ahead = key
			}
		}
		for _, p := range want {
			known += len(p.keys)
			dark += len(p.l) - len(p.keys)
		}
	}
	if known < 1000 || dark < 1000 {
		t.Errorf("%d known, %d not", known, dark)
	}
}

// isAsPlain: both learn c, and tell the same.
func isAsPlain(t *testing.T, r *Ring, p *plain, c members.Change) {
	t.Helper()
	got, want := r.Learn(c), p.learn(c)
	if got != want {
		t.Fatalf("Learn of %v by %d: %d, not %d", c, p.who, got, want)
	}
	has(t, r, p.told()...)
}

// tale: a group's log, by Begin and members' Apply, with all keys, and a ring of everybody, member or not.
type tale struct {
	g     *group
	s     members.State
	keys  []uint64
	rings []*Ring
	last  [api.MaxMembers]int // the last epoch that each one was a member of
}

// newTale: the admin alone, ahead of all epochs.
func newTale(t *testing.T) *tale {
	g := newGroup()
	w := &tale{g: g, s: members.New(g.public[0])}
	for who := range api.MaxMembers {
		w.rings = append(w.rings, g.ring(t, who))
		w.last[who] = -1
	}
	return w
}

// change: members take it, or the log has come to an end.
func (w *tale) change(c members.Change) bool {
	s, k := members.Apply(w.s, c)
	if k == api.OK {
		w.s = s
	}
	return k == api.OK
}

// begin: the next epoch, which all rings learn of.
func (w *tale) begin(t *testing.T) {
	t.Helper()
	last := uint64(0)
	if len(w.keys) > 0 {
		last = w.keys[len(w.keys)-1]
	}
	c, key := begun(t, w.g.o, w.s, last)
	if !w.change(c) {
		return
	}
	w.keys = append(w.keys, key)
	for who, r := range w.rings {
		m, is := members.Find(w.s, who)
		want := api.NoKey
		if is && m.To == -1 {
			w.last[who], want = w.s.Epoch, api.OK
		}
		learns(t, r, c, want)
	}
}

// holds: P1305: whoever was a member of an epoch has its key, and all ahead, and none behind the last that it was one of.
func (w *tale) holds(t *testing.T) {
	t.Helper()
	for who, r := range w.rings {
		want := make([]uint64, len(w.keys))
		copy(want, w.keys[:w.last[who]+1])
		has(t, r, want...)
	}
}

// P1305: over long logs of invitations, revocations and epochs.
func TestLaws(t *testing.T) {
	r := rand.New(rand.NewSource(1305))
	full, late, gone := 0, 0, 0
	for range 200 {
		w := newTale(t)
		for range 60 {
			who := 1 + r.Intn(7)
			switch r.Intn(4) {
			case 0:
				w.change(members.Change{Kind: 1, Who: who, Public: w.g.public[who]})
			case 1:
				if r.Intn(3) == 0 {
					w.change(members.Change{Kind: 2, Who: who})
				}
			default:
				w.begin(t)
			}
			w.holds(t)
		}
		if len(w.keys) == api.MaxEpochs {
			full++
		}
		for _, m := range w.s.L {
			if m.From > 0 && w.last[m.Who] >= m.From {
				late++
			}
			if m.To >= 0 && m.To < w.s.Epoch {
				gone++
			}
		}
	}
	if full == 0 || late < 100 || gone < 100 {
		t.Errorf("%d logs with all epochs, %d came late, %d went", full, late, gone)
	}
}

// P1305: who was revoked opens nothing of a later epoch with all that it ever had.
func TestRevokedLearnsNone(t *testing.T) {
	w := newTale(t)
	w.change(members.Change{Kind: 1, Who: 1, Public: w.g.public[1]})
	w.begin(t)
	w.begin(t)
	w.change(members.Change{Kind: 2, Who: 1})
	c, key := begun(t, w.g.o, w.s, w.keys[1])
	box, _ := w.g.o.Seal(key, nil, []byte("x"))
	for _, mine := range []uint64{w.g.secret[1], w.g.public[1], w.keys[0], w.keys[1]} {
		for _, x := range c.Wraps {
			if got, k := w.g.o.Unwrap(mine, x.B); k == api.OK {
				t.Errorf("a wrap tells %d", got)
			}
		}
		if _, k := w.g.o.Open(mine, []byte{2}, c.Old); k == api.OK {
			t.Error("the Old is open")
		}
		if _, k := w.g.o.Open(mine, nil, box); k == api.OK {
			t.Error("what is sealed is open")
		}
	}
	learns(t, w.rings[1], c, api.NoKey)
	has(t, w.rings[1], w.keys[0], w.keys[1], 0)
}

// Rule 5: the same draws and calls answer the same.
func TestSameAgain(t *testing.T) {
	run := func() []uint64 {
		w := newTale(t)
		for who := 1; who < api.MaxMembers; who++ {
			w.begin(t)
			w.change(members.Change{Kind: 1, Who: who, Public: w.g.public[who]})
		}
		w.begin(t)
		return keysOf(t, w.rings[7])
	}
	if a, b := run(), run(); !slices.Equal(a, b) || len(a) != 8 || slices.Contains(a, 0) {
		t.Errorf("%v, then %v", a, b)
	}
}
