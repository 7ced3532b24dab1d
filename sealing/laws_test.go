package sealing

import (
	"bytes"
	"math/rand"
	"slices"
	"testing"

	"cachette/api"
	"cachette/bucket"
	"cachette/epochs"
	"cachette/members"
)

// P1404: what is sealed for a place is read there by all who have the key, whoever sealed it, and by nobody else.
func TestReadByAllWithTheKey(t *testing.T) {
	r := rand.New(rand.NewSource(1404))
	read, shut := 0, 0
	for range 40 {
		g := newGroup(t)
		var whos [][]int
		for range 1 + r.Intn(20) {
			in := r.Perm(api.MaxMembers)[:1+r.Intn(api.MaxMembers)]
			slices.Sort(in) // as the wraps of a right change stand
			g.begin(t, in...)
			whos = append(whos, in)
		}
		for range 60 {
			w, index, epoch := r.Intn(8), r.Intn(200), r.Intn(len(whos))
			text := textOf(r.Intn(60))
			by := g.rings[whos[epoch][0]]
			b, k := Seal(g.o, by, w, index, epoch, text)
			if k != api.OK {
				t.Fatalf("Seal for %d, %d, %d: %d", w, index, epoch, k)
			}
			for who, ring := range g.rings {
				if slices.Contains(whos[epoch], who) {
					opens(t, g.o, ring, at(w, index, epoch, b), text)
					read++
				} else {
					isShut(t, g.o, ring, at(w, index, epoch, b), api.NoKey)
					shut++
				}
			}
		}
	}
	if read < 1000 || shut < 1000 {
		t.Errorf("%d read, %d did not", read, shut)
	}
}

// P1404: at no other place, by whom ever: BadSum in the same epoch, NoKey in another one.
func TestReadAtNoOtherPlace(t *testing.T) {
	g := begun(t, 20)
	for _, home := range []place{{0, 0, 0}, {1, 0, 0}, {0, 1, 0}, {1, 28, 7}, {7, 199, 19}, {3, 128, 4}} {
		b := g.sealed(t, home.writer, home.index, home.epoch, []byte("x"))
		for w := range api.MaxMembers {
			for index := range api.MaxLog {
				for _, epoch := range []int{home.epoch, (home.epoch + 1) % 20, index % 20} {
					e := at(w, index, epoch, b)
					switch {
					case epoch != home.epoch:
						isShut(t, g.o, g.rings[0], e, api.NoKey)
					case w != home.writer || index != home.index:
						isShut(t, g.o, g.rings[0], e, api.BadSum)
					default:
						opens(t, g.o, g.rings[0], e, []byte("x"))
					}
				}
			}
		}
	}
}

// P1404: in no other epoch, even if that one has the same key.
func TestOtherEpochOfTheSameKey(t *testing.T) {
	g := newGroup(t)
	key := g.o.Key()
	b, _ := g.o.Wrap(g.public[0], key)
	for range 2 {
		g.rings[0].Learn(members.Change{Kind: 3, Wraps: []members.Wrap{{Who: 0, B: b}}})
	}
	body := g.sealed(t, 0, 3, 0, []byte("x"))
	opens(t, g.o, g.rings[0], at(0, 3, 0, body), []byte("x"))
	isShut(t, g.o, g.rings[0], at(0, 3, 1, body), api.BadSum)
}

// P1404: over keys as Begin tells them: who comes late reads what was sealed ahead, who is revoked nothing that is sealed behind.
func TestLateAndRevoked(t *testing.T) {
	g := newGroup(t)
	s, last := members.New(g.public[0]), uint64(0)
	change := func(c members.Change) {
		t.Helper()
		var k api.Kind
		if s, k = members.Apply(s, c); k != api.OK {
			t.Fatalf("Apply of %v: %d", c, k)
		}
	}
	begin := func() {
		t.Helper()
		c, key, k := epochs.Begin(g.o, s, last)
		if k != api.OK {
			t.Fatalf("Begin: %d", k)
		}
		change(c)
		last = key
		for _, r := range g.rings {
			r.Learn(c)
		}
	}
	change(members.Change{Kind: 1, Who: 1, Public: g.public[1]})
	begin()
	first := at(1, 0, 0, g.sealed(t, 1, 0, 0, []byte("first")))
	change(members.Change{Kind: 2, Who: 1, Limit: 1})
	change(members.Change{Kind: 1, Who: 2, Public: g.public[2]})
	begin()
	second := at(0, 1, 1, g.sealed(t, 0, 1, 1, []byte("second")))
	for _, who := range []int{0, 2} {
		opens(t, g.o, g.rings[who], first, []byte("first"))
		opens(t, g.o, g.rings[who], second, []byte("second"))
	}
	opens(t, g.o, g.rings[1], first, []byte("first"))
	isShut(t, g.o, g.rings[1], second, api.NoKey)
	isRefused(t, g.o, g.rings[1], 1, 1, 1, []byte("x"), api.NoKey)
	isShut(t, g.o, g.rings[3], first, api.NoKey)
}

// P1404: two texts that are alike, sealed behind the same draws, have the same bytes; such as are not have not.
func TestAlikeTextsSameBytes(t *testing.T) {
	draws := make([]uint64, 60)
	for i := range draws {
		draws[i] = 1<<50 + uint64(i)*0x10_0001
	}
	sealed := func(text []byte) []byte {
		g := newGroup(t, draws...)
		g.begin(t, 0)
		return g.sealed(t, 1, 7, 0, text)
	}
	lengths := []int{0, 1, 15, 16, 31, 32, 63, 64, 127, 128, 254, 255, 510, 511, 1022}
	for _, n := range lengths {
		for _, m := range lengths {
			a, b := textOf(n), bytes.Repeat([]byte{0xff}, m)
			if same := bytes.Equal(sealed(a), sealed(b)); same != bucket.Alike(a, b) {
				t.Errorf("texts of %d and %d bytes: the same %t", n, m, same)
			}
		}
	}
}

// P1404: two calls have two answers, of the same text at the same place, too; each is read.
func TestTwoSealsAreTwo(t *testing.T) {
	g := begun(t, 1)
	a, b := g.sealed(t, 1, 0, 0, []byte("x")), g.sealed(t, 1, 0, 0, []byte("x"))
	if bytes.Equal(a, b) {
		t.Errorf("two answers are % x", a)
	}
	opens(t, g.o, g.rings[0], at(1, 0, 0, a), []byte("x"))
	opens(t, g.o, g.rings[0], at(1, 0, 0, b), []byte("x"))
}

// roomy: a copy of b with spare room, filled so that a write into it is seen.
func roomy(b []byte) []byte {
	whole := append(bytes.Clone(b), bytes.Repeat([]byte{0xee}, 64)...)
	return whole[:len(b)]
}

// scribble writes over b and all of its spare room.
func scribble(b []byte) {
	b = b[:cap(b)]
	for i := range b {
		b[i] = 0xaa
	}
}

// Rule 4: what is handed in is not changed, its spare room neither, and not kept.
func TestLeavesWhatIsHandedIn(t *testing.T) {
	g := begun(t, 1)
	text := roomy(textOf(20))
	before := bytes.Clone(text[:cap(text)])
	body := roomy(g.sealed(t, 1, 7, 0, text))
	bodyBefore := bytes.Clone(body[:cap(body)])
	e := at(1, 7, 0, body)
	opens(t, g.o, g.rings[0], e, textOf(20))
	Class(e)
	if !bytes.Equal(text[:cap(text)], before) || !bytes.Equal(body[:cap(body)], bodyBefore) {
		t.Error("bytes that were handed in, or their spare room, were changed")
	}
	scribble(text)
	opens(t, g.o, g.rings[0], e, textOf(20))
}

// Rule 4: what is handed out is new memory, its spare room too.
func TestHandsOutNewMemory(t *testing.T) {
	g := begun(t, 1)
	body := g.sealed(t, 1, 7, 0, textOf(20))
	e := at(1, 7, 0, bytes.Clone(body))
	scribble(body)
	text, k := Open(g.o, g.rings[0], e)
	if k != api.OK || !bytes.Equal(text, textOf(20)) {
		t.Errorf("Open: % x, %d", text, k)
	}
	scribble(text)
	opens(t, g.o, g.rings[0], e, textOf(20))
}

// Rule 4: neither call teaches a ring anything, and a copy of it reads the same.
func TestRingStaysAsItIs(t *testing.T) {
	g := begun(t, 2)
	body := g.sealed(t, 1, 7, 0, []byte("x"))
	opens(t, g.o, epochs.Copy(g.rings[2]), at(1, 7, 0, body), []byte("x"))
	isShut(t, g.o, g.rings[2], at(1, 7, 1, body), api.NoKey)
	for who, r := range g.rings {
		if r.Count() != 2 || r.Who() != who {
			t.Errorf("the ring of %d is of %d, with %d epochs", who, r.Who(), r.Count())
		}
	}
}
