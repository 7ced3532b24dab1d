package epochs

import (
	"bytes"
	"math"
	"slices"
	"testing"

	"cachette/api"
	"cachette/members"
)

// wrongChanges: not right, or of another kind, each made of a right one.
func wrongChanges(g *group, right members.Change) map[string]members.Change {
	with := func(do func(c *members.Change)) members.Change {
		c := right
		c.Wraps = slices.Clone(c.Wraps)
		do(&c)
		return c
	}
	return map[string]members.Change{
		"nothing":           {},
		"an invitation":     {Kind: 1, Who: 1, Public: g.public[1]},
		"a revocation":      {Kind: 2, Who: 1, Limit: 3},
		"Kind 0":            with(func(c *members.Change) { c.Kind = 0 }),
		"Kind 1":            with(func(c *members.Change) { c.Kind = 1 }),
		"Kind 2":            with(func(c *members.Change) { c.Kind = 2 }),
		"Kind 4":            with(func(c *members.Change) { c.Kind = 4 }),
		"Kind below 0":      with(func(c *members.Change) { c.Kind = math.MinInt }),
		"a Who":             with(func(c *members.Change) { c.Who = 1 }),
		"a Public":          with(func(c *members.Change) { c.Public = 1 }),
		"a Limit":           with(func(c *members.Change) { c.Limit = 1 }),
		"no Wraps":          with(func(c *members.Change) { c.Wraps = nil }),
		"Wraps twice":       with(func(c *members.Change) { c.Wraps = append(c.Wraps, c.Wraps[0]) }),
		"a Wrap of nobody":  with(func(c *members.Change) { c.Wraps = append(c.Wraps, members.Wrap{Who: 8, B: make([]byte, 16)}) }),
		"a Wrap ahead of 0": with(func(c *members.Change) { c.Wraps[0].Who = -1 }),
		"a short Wrap":      with(func(c *members.Change) { c.Wraps[0].B = c.Wraps[0].B[:15] }),
		"a long Wrap":       with(func(c *members.Change) { c.Wraps[0].B = append(bytes.Clone(c.Wraps[0].B), 0) }),
		"a short Old":       with(func(c *members.Change) { c.Old = make([]byte, 23) }),
		"a long Old":        with(func(c *members.Change) { c.Old = make([]byte, 25) }),
	}
}

// P1302: BadArg, and nothing is learned, of whatever epoch, also ahead of TooLarge.
func TestLearnBadArg(t *testing.T) {
	g := newGroup()
	r := g.ring(t, 0)
	for n := range api.MaxEpochs + 1 {
		was := keysOf(t, r)
		for what, c := range wrongChanges(g, g.change(t, g.o.Key(), nil, 0)) {
			if k := r.Learn(c); k != api.BadArg {
				t.Errorf("%s, behind %d epochs: %d", what, n, k)
			}
			has(t, r, was...)
		}
		r.Learn(g.change(t, g.o.Key(), nil, 0))
	}
	if r.Count() != api.MaxEpochs {
		t.Errorf("%d epochs", r.Count())
	}
}

// P1302: MaxEpochs epochs are learned, and none more: TooLarge, whether there is a wrap or not.
func TestLearnTooLarge(t *testing.T) {
	for _, whos := range [][]int{{0, 3}, {0}} {
		g := newGroup()
		l, keys := g.line(t, api.MaxEpochs+1, func(int) []int { return whos })
		a, b := g.ring(t, 0), g.ring(t, 3)
		for i, c := range l[:api.MaxEpochs] {
			if a.Learn(c) != api.OK || (b.Learn(c) == api.OK) != (len(whos) == 2) {
				t.Errorf("epoch %d is not learned", i)
			}
		}
		was := keysOf(t, b)
		for range 3 {
			learns(t, a, l[api.MaxEpochs], api.TooLarge)
			learns(t, b, l[api.MaxEpochs], api.TooLarge)
			learns(t, b, g.change(t, keys[api.MaxEpochs], nil, 3), api.TooLarge)
			has(t, a, keys[:api.MaxEpochs]...)
			has(t, b, was...)
		}
	}
}

// P1302: among all wraps, the one for who is taken, wherever it stands.
func TestLearnOwnWrap(t *testing.T) {
	for set := 1; set < 1<<api.MaxMembers; set++ {
		g := newGroup()
		c := members.Change{Kind: 3}
		var keys [api.MaxMembers]uint64
		for who := range api.MaxMembers {
			if set>>who&1 == 1 { // each gets another key, so that a wrong one is seen
				keys[who] = g.o.Key()
				c.Wraps = append(c.Wraps, g.change(t, keys[who], nil, who).Wraps...)
			}
		}
		for who := range api.MaxMembers {
			want := api.OK
			if keys[who] == 0 {
				want = api.NoKey
			}
			r := g.ring(t, who)
			learns(t, r, c, want)
			has(t, r, keys[who])
		}
	}
}

// P1302: a wrap that Unwrap does not open: its kind; the epoch counts, without a key.
func TestLearnUnwrapsKind(t *testing.T) {
	g := newGroup()
	key := g.o.Key()
	good := g.change(t, key, nil, 2)
	put := func(b []byte) members.Change {
		return members.Change{Kind: 3, Wraps: []members.Wrap{{Who: 2, B: b}}}
	}
	torn := bytes.Clone(good.Wraps[0].B)
	torn[15] = 1
	for what, c := range map[string]struct {
		c    members.Change
		want api.Kind
	}{
		"another one's wrap": {put(g.change(t, key, nil, 3).Wraps[0].B), api.NoKey},
		"no wrap":            {put(make([]byte, 16)), api.Malformed},
		"a torn wrap":        {put(torn), api.Malformed},
		"a sealed key":       {put(g.old(t, 0, key, eight(key))[:16]), api.Malformed},
		"a key":              {put(append(eight(key), make([]byte, 8)...)), api.Malformed},
	} {
		r := g.ring(t, 2)
		learns(t, r, c.c, c.want)
		has(t, r, 0)
		learns(t, r, good, api.OK) // and goes on
		if got := keysOf(t, r); !slices.Equal(got, []uint64{0, key}) {
			t.Errorf("%s: then %v", what, got)
		}
	}
	for _, secret := range []uint64{0, g.secret[1], g.public[2], key, 77} {
		r, _ := New(g.o, 2, secret)
		learns(t, r, good, api.NoKey)
		has(t, r, 0)
	}
}

// P1302: with the key of an epoch all keys ahead come by the Olds, of whatever epoch it is the first.
func TestLearnGoesBack(t *testing.T) {
	for from := range api.MaxEpochs {
		g := newGroup()
		l, keys := g.line(t, api.MaxEpochs, func(epoch int) []int {
			if epoch >= from {
				return []int{0, 5}
			}
			return []int{0}
		})
		r := g.ring(t, 5)
		for e, c := range l {
			if e < from {
				learns(t, r, c, api.NoKey)
				has(t, r, make([]uint64, e+1)...)
				continue
			}
			learns(t, r, c, api.OK)
			has(t, r, keys[:e+1]...)
		}
	}
}

// P1302: a key that is missing in the midst comes with the next one; what was known stays.
func TestLearnFillsHoles(t *testing.T) {
	for set := range 1 << 7 {
		g := newGroup()
		l, keys := g.line(t, 7, func(epoch int) []int {
			if set>>epoch&1 == 1 {
				return []int{0, 1}
			}
			return []int{0}
		})
		r := g.ring(t, 1)
		want := []uint64{}
		for e, c := range l {
			kind := api.NoKey
			want = append(want, 0)
			if set>>e&1 == 1 {
				kind = api.OK
				want = slices.Clone(keys[:e+1])
			}
			learns(t, r, c, kind)
			has(t, r, want...)
		}
	}
}

// badOlds: what the Old of epoch 3 may be, but for the one that tells the key of epoch 2.
func badOlds(t *testing.T, g *group, key, ahead, other uint64) map[string][]byte {
	torn := g.old(t, 3, key, eight(ahead))
	torn[20] = 1
	return map[string][]byte{
		"none":                 nil,
		"no byte":              {},
		"nobody's":             make([]byte, 24),
		"torn":                 torn,
		"with another key":     g.old(t, 3, other, eight(ahead)),
		"with the key ahead":   g.old(t, 3, ahead, eight(ahead)),
		"of the epoch ahead":   g.old(t, 2, key, eight(ahead)),
		"of the epoch behind":  g.old(t, 4, key, eight(ahead)),
		"of no bytes":          g.old(t, 3, key, nil),
		"of seven bytes":       g.old(t, 3, key, eight(ahead)[1:]),
		"of nine bytes":        g.old(t, 3, key, append(eight(ahead), 0)),
		"of nine, 0 the first": g.old(t, 3, key, append([]byte{0}, eight(ahead)...)),
		"of 0, which is none":  g.old(t, 3, key, eight(0)),
	}
}

// P1302: where an Old can't be opened as eight bytes, the way back ends: ahead of it no key is known, then and later.
func TestLearnEndsAtBadOld(t *testing.T) {
	g := newGroup()
	l, keys := g.line(t, 5, func(epoch int) []int { return [][]int{{0}, {0}, {0}, {0}, {0, 1}}[epoch] })
	after := g.o.Key()
	more := g.change(t, after, g.old(t, 5, after, eight(keys[4])), 0, 1)
	for what, old := range badOlds(t, g, keys[3], keys[2], after) {
		r := g.ring(t, 1)
		for e, c := range l {
			if e == 3 {
				c.Old = old
			}
			r.Learn(c)
		}
		if got, want := keysOf(t, r), []uint64{0, 0, 0, keys[3], keys[4]}; !slices.Equal(got, want) {
			t.Errorf("an Old %s: %v, not %v", what, got, want)
		}
		learns(t, r, more, api.OK)
		has(t, r, 0, 0, 0, keys[3], keys[4], after)
	}
}

// P1302: likewise where it is the last epoch's own Old: its key is known, and it is OK.
func TestLearnLastBadOld(t *testing.T) {
	g := newGroup()
	l, keys := g.line(t, 4, func(epoch int) []int { return [][]int{{0}, {0}, {0}, {0, 1}}[epoch] })
	for what, old := range badOlds(t, g, keys[3], keys[2], keys[1]) {
		r := g.ring(t, 1)
		for e, c := range l {
			if e == 3 {
				c.Old = old
			}
			r.Learn(c)
		}
		if got, want := keysOf(t, r), []uint64{0, 0, 0, keys[3]}; !slices.Equal(got, want) {
			t.Errorf("an Old %s: %v, not %v", what, got, want)
		}
	}
}

// P1302: what the Old has is the key, as it stands there, even if the oracle made no such key; ahead of that one nothing opens.
func TestLearnTakesWhatOldHas(t *testing.T) {
	for _, n := range []uint64{1, 0x0102030405060708, 1 << 63, math.MaxUint64} {
		g := newGroup()
		l, keys := g.line(t, 3, func(epoch int) []int { return [][]int{{0}, {0}, {0, 1}}[epoch] })
		l[2].Old = g.old(t, 2, keys[2], eight(n))
		r := g.ring(t, 1)
		for _, c := range l {
			r.Learn(c)
		}
		has(t, r, 0, n, keys[2])
	}
}

// P1302: the way back ends at an epoch whose key is known; ahead of it nothing is asked, though by then an Old would tell.
func TestLearnEndsAtKnown(t *testing.T) {
	g := newGroup()
	a, b, c := g.o.Key(), g.o.Key(), g.o.Key()
	first, second := g.change(t, a, nil, 0), g.change(t, b, nil, 1)
	second.Old = g.boxToCome()
	r := g.ring(t, 1)
	learns(t, r, first, api.NoKey)
	learns(t, r, second, api.OK)
	has(t, r, 0, b)
	if sealed := g.old(t, 1, b, eight(a)); !bytes.Equal(sealed, second.Old) {
		t.Fatalf("% X is not % X", sealed, second.Old)
	}
	learns(t, r, g.change(t, c, g.old(t, 2, c, eight(b)), 1), api.OK)
	has(t, r, 0, b, c)
}

// P1302: an Old that opens only later is asked when the epoch's own key comes to be known, not when it was learned of.
func TestLearnOpensLate(t *testing.T) {
	g := newGroup()
	a, b, c := g.o.Key(), g.o.Key(), g.o.Key()
	first, second := g.change(t, a, nil, 0), g.change(t, b, nil, 0)
	second.Old = g.boxToCome()
	r := g.ring(t, 1)
	learns(t, r, first, api.NoKey)
	learns(t, r, second, api.NoKey)
	if sealed := g.old(t, 1, b, eight(a)); !bytes.Equal(sealed, second.Old) {
		t.Fatalf("% X is not % X", sealed, second.Old)
	}
	learns(t, r, g.change(t, c, g.old(t, 2, c, eight(b)), 0, 1), api.OK)
	has(t, r, a, b, c)
}

// P1302: the first epoch's Old tells nothing, there is no epoch ahead.
func TestLearnFirstOld(t *testing.T) {
	g := newGroup()
	key := g.o.Key()
	for _, plain := range [][]byte{nil, eight(key), eight(9)} {
		r := g.ring(t, 4)
		learns(t, r, g.change(t, key, g.old(t, 0, key, plain), 4), api.OK)
		has(t, r, key)
	}
}

// P1302: the same change may come again: it is another epoch each time; its Old, bound to one epoch, is none of the other.
func TestLearnTwice(t *testing.T) {
	g := newGroup()
	a, b := g.o.Key(), g.o.Key()
	c := g.change(t, b, g.old(t, 2, b, eight(a)), 1)
	r := g.ring(t, 1)
	learns(t, r, g.change(t, a, nil, 0), api.NoKey)
	learns(t, r, c, api.OK)
	has(t, r, 0, b)
	learns(t, r, c, api.OK)
	has(t, r, 0, b, b)
}

// P1302: Learn uses no handle.
func TestLearnUsesNoHandle(t *testing.T) {
	g := newGroup()
	l, _ := g.line(t, 6, func(epoch int) []int { return []int{epoch % 2} })
	was := g.o.Used()
	for who := range 3 {
		r := g.ring(t, who)
		for _, c := range l {
			r.Learn(c)
		}
	}
	if g.o.Used() != was {
		t.Errorf("%d handles more", g.o.Used()-was)
	}
}

// Rule 4: a change that is handed in is not changed, its spare room neither, and not kept: the Old is that which came.
func TestLearnKeepsNothing(t *testing.T) {
	g := newGroup()
	l, keys := g.line(t, 3, func(epoch int) []int { return [][]int{{0}, {0}, {0, 1}}[epoch] })
	r := g.ring(t, 1)
	for _, c := range l {
		in := spare(c)
		r.Learn(in)
		if !alike(in, c) || !spareIsThere(in) {
			t.Errorf("%v became %v", c, in)
		}
		clear(in.Old)
		clear(in.Wraps[0].B)
		clear(in.Wraps)
	}
	has(t, r, keys...)
}

// alike: are both changes the same?
func alike(a, b members.Change) bool {
	return a.Kind == b.Kind && a.Who == b.Who && a.Public == b.Public && a.Limit == b.Limit && bytes.Equal(a.Old, b.Old) &&
		slices.EqualFunc(a.Wraps, b.Wraps, func(x, y members.Wrap) bool { return x.Who == y.Who && bytes.Equal(x.B, y.B) })
}

// spare: a copy of c in which each list has something in its spare room.
func spare(c members.Change) members.Change {
	c.Old = append(bytes.Clone(c.Old), 0xEE)[:len(c.Old)]
	c.Wraps = append(slices.Clone(c.Wraps), members.Wrap{Who: 77})[:len(c.Wraps)]
	for i, w := range c.Wraps {
		c.Wraps[i].B = append(bytes.Clone(w.B), 0xEE)[:len(w.B)]
	}
	return c
}

// spareIsThere: is it still in the spare room?
func spareIsThere(c members.Change) bool {
	ok := c.Old[:len(c.Old)+1][len(c.Old)] == 0xEE && c.Wraps[:len(c.Wraps)+1][len(c.Wraps)].Who == 77
	for _, w := range c.Wraps {
		ok = ok && w.B[:len(w.B)+1][len(w.B)] == 0xEE
	}
	return ok
}
