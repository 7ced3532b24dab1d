package epochs

import (
	"math"
	"slices"
	"testing"

	"cachette/api"
	"cachette/members"
	"cachette/oracle"
)

// group: an oracle, and a pair for each number that a member may have.
type group struct {
	o      *oracle.Oracle
	secret [api.MaxMembers]uint64
	public [api.MaxMembers]uint64
}

// draw: the handle that is handed out behind n others: no small number, so that none is met by chance.
func draw(n int) uint64 {
	return 1<<40 + uint64(n)*0x1_0001_0001
}

// newGroup: one whose handles are known ahead.
func newGroup() *group {
	var draws []uint64
	for n := range 2000 {
		draws = append(draws, draw(n))
	}
	g := &group{o: oracle.New(draws)}
	for who := range api.MaxMembers {
		g.secret[who], g.public[who] = g.o.Pair()
	}
	return g
}

// ring: an empty one of who.
func (g *group) ring(t *testing.T, who int) *Ring {
	t.Helper()
	r, k := New(g.o, who, g.secret[who])
	if r == nil || k != api.OK {
		t.Fatalf("New of %d: %v, %d", who, r, k)
	}
	return r
}

// change: of an epoch, whose key is wrapped for these, with that Old.
func (g *group) change(t *testing.T, key uint64, old []byte, whos ...int) members.Change {
	t.Helper()
	c := members.Change{Kind: 3, Old: old}
	for _, who := range whos {
		b, k := g.o.Wrap(g.public[who], key)
		if k != api.OK {
			t.Fatalf("Wrap for %d: %d", who, k)
		}
		c.Wraps = append(c.Wraps, members.Wrap{Who: who, B: b})
	}
	return c
}

// old: the Old of an epoch: that text, sealed with the key, as the chapter says by its words.
func (g *group) old(t *testing.T, epoch byte, key uint64, plain []byte) []byte {
	t.Helper()
	b, k := g.o.Seal(key, []byte{epoch}, plain)
	if k != api.OK {
		t.Fatalf("Seal: %d", k)
	}
	return b
}

// boxToCome: what the next Seal of a short text will tell, if no other handle comes ahead.
func (g *group) boxToCome() []byte {
	return append(eight(draw(g.o.Used())), make([]byte, 16)...)
}

// eight: a number's bytes, the highest first.
func eight(n uint64) []byte {
	return []byte{byte(n >> 56), byte(n >> 48), byte(n >> 40), byte(n >> 32), byte(n >> 24), byte(n >> 16), byte(n >> 8), byte(n)}
}

// line: changes of n epochs by the admin's book, each with the Old of the one ahead, wrapped for those that whos tells; and their keys.
func (g *group) line(t *testing.T, n int, whos func(epoch int) []int) ([]members.Change, []uint64) {
	t.Helper()
	var l []members.Change
	var keys []uint64
	for e := range n {
		key := g.o.Key()
		var old []byte
		if e > 0 {
			old = g.old(t, byte(e), key, eight(keys[e-1]))
		}
		l, keys = append(l, g.change(t, key, old, whos(e)...)), append(keys, key)
	}
	return l, keys
}

// learns: Learn of c tells that kind.
func learns(t *testing.T, r *Ring, c members.Change, want api.Kind) {
	t.Helper()
	if got := r.Learn(c); got != want {
		t.Fatalf("Learn of epoch %d: %d, not %d", r.Count()-1, got, want)
	}
}

// has: the ring has learned of just these epochs; 0 where it must have no key.
func has(t *testing.T, r *Ring, want ...uint64) {
	t.Helper()
	if got := keysOf(t, r); !slices.Equal(got, want) {
		t.Fatalf("keys %v, not %v", got, want)
	}
}

// keysOf: what a ring tells, 0 for NoKey; of all other epochs it must tell Range.
func keysOf(t *testing.T, r *Ring) []uint64 {
	t.Helper()
	out := []uint64{}
	for e := range r.Count() {
		key, k := r.Key(e)
		if k == api.OK && key == 0 || k == api.NoKey && key != 0 || k != api.OK && k != api.NoKey {
			t.Fatalf("Key of %d: %d, %d", e, key, k)
		}
		out = append(out, key)
	}
	for _, e := range []int{math.MinInt, math.MinInt32, -2, -1, r.Count(), r.Count() + 1, 20, 1 << 32, math.MaxInt32, math.MaxInt} {
		if key, k := r.Key(e); key != 0 || k != api.Range {
			t.Fatalf("Key of %d: %d, %d", e, key, k)
		}
	}
	return out
}

// P1301: BadArg of who, also where there is no oracle; Nil: no oracle.
func TestNewRefused(t *testing.T) {
	o := oracle.New(nil)
	for _, who := range []int{math.MinInt, -300, -2, -1, 8, 9, 256, 1 << 32, math.MaxInt} {
		for _, o := range []*oracle.Oracle{o, nil} {
			if r, k := New(o, who, 5); r != nil || k != api.BadArg {
				t.Errorf("New of %d: %v, %d", who, r, k)
			}
		}
	}
	for who := range 8 {
		if r, k := New(nil, who, 5); r != nil || k != api.Nil {
			t.Errorf("New without an oracle: %v, %d", r, k)
		}
	}
	if o.Used() != 0 {
		t.Errorf("%d handles are used", o.Used())
	}
}

// P1301: a ring of no epoch, whatever the secret; no handle is used.
func TestNew(t *testing.T) {
	o := oracle.New(nil)
	for who := range 8 {
		for _, secret := range []uint64{0, 1, 1 << 63, math.MaxUint64} {
			r, k := New(o, who, secret)
			if r == nil || k != api.OK || r.Who() != who || r.Count() != 0 {
				t.Fatalf("New of %d: %v, %d", who, r, k)
			}
			has(t, r)
		}
	}
	if o.Used() != 0 {
		t.Errorf("%d handles are used", o.Used())
	}
}

// P1301: Count is of epochs, also of those whose key is not known; Key tells Range, NoKey, or the key.
func TestCountAndKey(t *testing.T) {
	g := newGroup()
	l, keys := g.line(t, 3, func(epoch int) []int { return [][]int{{0, 1}, {0}, {0}}[epoch] })
	a, b := g.ring(t, 0), g.ring(t, 1)
	for i, c := range l {
		learns(t, a, c, api.OK)
		if k := b.Learn(c); (k == api.OK) != (i == 0) {
			t.Errorf("Learn of %d: %d", i, k)
		}
		if a.Count() != i+1 || b.Count() != i+1 || a.Who() != 0 || b.Who() != 1 {
			t.Errorf("Count %d and %d, not %d; Who %d, %d", a.Count(), b.Count(), i+1, a.Who(), b.Who())
		}
		has(t, a, keys[:i+1]...)
	}
	has(t, b, keys[0], 0, 0)
}

// Of nil: -1, 0, Nil, whatever comes in.
func TestNil(t *testing.T) {
	var r *Ring
	if r.Who() != -1 || r.Count() != 0 || Copy(r) != nil {
		t.Errorf("of nil: %d, %d, %v", r.Who(), r.Count(), Copy(r))
	}
	for _, e := range []int{math.MinInt, -1, 0, 1, math.MaxInt} {
		if key, k := r.Key(e); key != 0 || k != api.Nil {
			t.Errorf("Key of nil: %d, %d", key, k)
		}
	}
	g := newGroup()
	for _, c := range []members.Change{{}, g.change(t, g.o.Key(), nil, 0), {Kind: 1, Who: 1, Public: 4}} {
		if k := r.Learn(c); k != api.Nil {
			t.Errorf("Learn of nil: %d", k)
		}
	}
}

// Rule 1: a ring that New did not make does not panic; it has no key.
func TestZeroRing(t *testing.T) {
	g := newGroup()
	l, _ := g.line(t, 3, func(int) []int { return []int{0, 1} })
	r := &Ring{}
	for _, c := range l {
		if k := r.Learn(c); k != api.Nil {
			t.Errorf("Learn: %d", k)
		}
	}
	has(t, Copy(r), 0, 0, 0)
}

// P1304: a copy has learned the same, and either learns on alone, what stood behind a missing key, too.
func TestCopy(t *testing.T) {
	g := newGroup()
	l, keys := g.line(t, 5, func(epoch int) []int { return [][]int{{0, 1}, {0}, {0}, {0}, {0, 1}}[epoch] })
	r := g.ring(t, 1)
	if c := Copy(r); c == r || c.Who() != 1 || c.Count() != 0 {
		t.Errorf("a copy of a new one: %v", c)
	}
	for n := range len(l) {
		a, b := Copy(r), Copy(Copy(r))
		for i, x := range l[n:] {
			ka, kb := a.Learn(x), b.Learn(x)
			if ka != kb || (ka == api.OK) != (n+i == 0 || n+i == 4) {
				t.Errorf("the copy behind %d learns %d: %d, %d", n, n+i, ka, kb)
			}
		}
		has(t, a, keys...)
		has(t, b, keys...)
		if r.Count() != n || a.Who() != 1 {
			t.Errorf("the ring has %d epochs, not %d", r.Count(), n)
		}
		r.Learn(l[n])
	}
	has(t, r, keys...)
}

// P1304: copies of one ring that learn unlike epochs keep them apart, whatever room there was.
func TestCopiesPart(t *testing.T) {
	g := newGroup()
	r := g.ring(t, 0)
	want := []uint64{}
	for range api.MaxEpochs {
		a, b := Copy(r), Copy(r)
		x, y, z := g.o.Key(), g.o.Key(), g.o.Key()
		learns(t, a, g.change(t, x, nil, 0), api.OK)
		learns(t, b, g.change(t, y, nil, 0), api.OK)
		has(t, r, want...)
		learns(t, r, g.change(t, z, nil, 0), api.OK)
		has(t, a, append(slices.Clone(want), x)...)
		has(t, b, append(slices.Clone(want), y)...)
		want = append(want, z)
		has(t, r, want...)
	}
}

// P1304: a copy that goes back does not take the way back from the other, nor does the other from it.
func TestCopiesGoBackAlone(t *testing.T) {
	g := newGroup()
	l, keys := g.line(t, 4, func(epoch int) []int { return [][]int{{0}, {0}, {0}, {0, 2}}[epoch] })
	r := g.ring(t, 2)
	for _, c := range l[:3] {
		learns(t, r, c, api.NoKey)
	}
	a, b := Copy(r), Copy(r)
	for _, x := range []*Ring{a, r, b} {
		has(t, x, 0, 0, 0)
		learns(t, x, l[3], api.OK)
		has(t, x, keys...)
	}
}
