package sealing

import (
	"bytes"
	"math"
	"testing"

	"cachette/api"
	"cachette/epochs"
	"cachette/members"
	"cachette/oracle"
)

// group: an oracle, a pair and a ring for each number that a member may have, and the keys of the epochs so far.
type group struct {
	o      *oracle.Oracle
	secret [api.MaxMembers]uint64
	public [api.MaxMembers]uint64
	rings  [api.MaxMembers]*epochs.Ring
	keys   []uint64
}

// newGroup: one ahead of all epochs, whose handles are those of draws first.
func newGroup(t *testing.T, draws ...uint64) *group {
	t.Helper()
	g := &group{o: oracle.New(draws)}
	for who := range api.MaxMembers {
		g.secret[who], g.public[who] = g.o.Pair()
		r, k := epochs.New(g.o, who, g.secret[who])
		if k != api.OK {
			t.Fatalf("New of %d: %d", who, k)
		}
		g.rings[who] = r
	}
	return g
}

// begin: the next epoch, with a key for these alone, and no way back to the key ahead; all rings learn of it.
func (g *group) begin(t *testing.T, whos ...int) {
	t.Helper()
	key := g.o.Key()
	c := members.Change{Kind: 3}
	for _, who := range whos {
		b, _ := g.o.Wrap(g.public[who], key)
		c.Wraps = append(c.Wraps, members.Wrap{Who: who, B: b})
	}
	for _, r := range g.rings {
		if k := r.Learn(c); k != api.OK && k != api.NoKey {
			t.Fatalf("Learn: %d", k)
		}
	}
	g.keys = append(g.keys, key)
}

// begun: a group with so many epochs, of which members 0 and 1 have all keys, 2 those of even epochs, and the others none.
func begun(t *testing.T, n int) *group {
	t.Helper()
	g := newGroup(t)
	for e := range n {
		if e%2 == 0 {
			g.begin(t, 0, 1, 2)
		} else {
			g.begin(t, 0, 1)
		}
	}
	return g
}

// sealed: Seal by member 0 is OK.
func (g *group) sealed(t *testing.T, w, index, epoch int, text []byte) []byte {
	t.Helper()
	b, k := Seal(g.o, g.rings[0], w, index, epoch, text)
	if k != api.OK {
		t.Fatalf("Seal for %d, %d, %d of %d bytes: %d", w, index, epoch, len(text), k)
	}
	return b
}

// at: a right entry at that place, with that body.
func at(w, index, epoch int, body []byte) api.Entry {
	e := api.Entry{Writer: w, Index: index, At: api.Stamp{T: 9, W: w}, Epoch: epoch, Body: body}
	if index != 0 {
		e.Prev = 77
	}
	return e
}

// with: e, changed by do.
func with(e api.Entry, do func(e *api.Entry)) api.Entry {
	do(&e)
	return e
}

// textOf: n bytes, no two neighbours alike.
func textOf(n int) []byte {
	b := make([]byte, n)
	for i := range b {
		b[i] = byte(i*7 + 1)
	}
	return b
}

// opens: Open tells that text.
func opens(t *testing.T, o *oracle.Oracle, r *epochs.Ring, e api.Entry, want []byte) {
	t.Helper()
	if got, k := Open(o, r, e); k != api.OK || !bytes.Equal(got, want) {
		t.Errorf("Open at %d, %d, %d: % x, %d, not % x", e.Writer, e.Index, e.Epoch, got, k, want)
	}
}

// isShut: Open tells that kind, and nothing else.
func isShut(t *testing.T, o *oracle.Oracle, r *epochs.Ring, e api.Entry, want api.Kind) {
	t.Helper()
	was := o.Used()
	if b, k := Open(o, r, e); len(b) != 0 || k != want {
		t.Errorf("Open at %d, %d, %d: % x, %d, not %d", e.Writer, e.Index, e.Epoch, b, k, want)
	}
	if o.Used() != was {
		t.Errorf("Open hands out %d handles", o.Used()-was)
	}
}

// isRefused: Seal tells that kind, and nothing else, and uses no handle.
func isRefused(t *testing.T, o *oracle.Oracle, r *epochs.Ring, w, index, epoch int, text []byte, want api.Kind) {
	t.Helper()
	was := o.Used()
	if b, k := Seal(o, r, w, index, epoch, text); len(b) != 0 || k != want {
		t.Errorf("Seal for %d, %d, %d of %d bytes: % x, %d, not %d", w, index, epoch, len(text), b, k, want)
	}
	if o.Used() != was {
		t.Errorf("Seal hands out %d handles", o.Used()-was)
	}
}

// The chapter's example.
func TestExample(t *testing.T) {
	g := begun(t, 1)
	b := g.sealed(t, 1, 0, 0, []byte("x"))
	opens(t, g.o, g.rings[0], at(1, 0, 0, b), []byte("x"))
	isShut(t, g.o, g.rings[0], at(1, 1, 0, b), api.BadSum)
}

// P1401: the numbers that can't be an entry's, ahead of every other kind; epoch -1 is none, either.
func TestSealBadArg(t *testing.T) {
	g := begun(t, 20)
	wrong := []struct {
		number int // of the three
		l      []int
	}{
		{0, []int{math.MinInt, -1 << 32, -2, -1, 8, 9, 1 << 32, math.MaxInt}},
		{1, []int{math.MinInt, -1 << 32, -2, -1, 200, 201, 1 << 32, math.MaxInt}},
		{2, []int{math.MinInt, -1 << 32, -2, -1, 20, 21, 1 << 32, math.MaxInt}},
	}
	for _, c := range wrong {
		for _, n := range c.l {
			for _, p := range [][3]int{{0, 0, 0}, {7, 199, 19}, {1, 1, -1}, {-1, -1, -1}, {9, 300, 30}} {
				p[c.number] = n
				for _, text := range [][]byte{nil, textOf(5), textOf(1023)} {
					isRefused(t, g.o, g.rings[0], p[0], p[1], p[2], text, api.BadArg)
					isRefused(t, g.o, g.rings[7], p[0], p[1], p[2], text, api.BadArg)
					isRefused(t, nil, g.rings[0], p[0], p[1], p[2], text, api.BadArg)
					isRefused(t, g.o, nil, p[0], p[1], p[2], text, api.BadArg)
					isRefused(t, nil, nil, p[0], p[1], p[2], text, api.BadArg)
				}
			}
		}
	}
}

// P1401: each place that an entry may have is one to seal for, up to the last of each number.
func TestSealEveryPlace(t *testing.T) {
	g := begun(t, 20)
	text := []byte("a")
	for w := range api.MaxMembers {
		for index := range api.MaxLog {
			b := g.sealed(t, w, index, (w+index)%20, text)
			opens(t, g.o, g.rings[0], at(w, index, (w+index)%20, b), text)
		}
		for epoch := range 20 {
			b := g.sealed(t, w, 199, epoch, text)
			opens(t, g.o, g.rings[1], at(w, 199, epoch, b), text)
		}
	}
}

// P1401: the ring's kind, ahead of the oracle's: Nil, Range and NoKey.
func TestSealRingKind(t *testing.T) {
	g := begun(t, 2)
	for _, o := range []*oracle.Oracle{g.o, nil} {
		for _, text := range [][]byte{nil, textOf(1022), textOf(1023)} {
			isRefused(t, o, nil, 0, 0, 0, text, api.Nil)
			isRefused(t, o, g.rings[0], 0, 0, 2, text, api.Range)
			isRefused(t, o, g.rings[0], 7, 199, 19, text, api.Range)
			isRefused(t, o, g.rings[2], 2, 3, 1, text, api.NoKey)
			isRefused(t, o, g.rings[3], 3, 0, 0, text, api.NoKey)
			isRefused(t, o, &epochs.Ring{}, 0, 0, 0, text, api.Range)
		}
	}
}

// P1401: the oracle's kind: Nil, NoKey of a key that is none of its own, TooLarge of a text without a class.
func TestSealOracleKind(t *testing.T) {
	g := begun(t, 1)
	for _, text := range [][]byte{nil, textOf(1022), textOf(1023)} {
		isRefused(t, nil, g.rings[0], 0, 0, 0, text, api.Nil)
		isRefused(t, oracle.New(nil), g.rings[0], 0, 0, 0, text, api.NoKey)
		isRefused(t, &oracle.Oracle{}, g.rings[1], 1, 5, 0, text, api.NoKey)
	}
	for _, n := range []int{1023, 1024, 1100, 4000, 70000} {
		isRefused(t, g.o, g.rings[0], 0, 0, 0, textOf(n), api.TooLarge)
	}
	g.sealed(t, 0, 0, 0, textOf(1022))
}

// P1401: the answer is the oracle's: a fresh handle and bytes 0; its key opens it, with the chapter's bytes of the place as bound.
func TestSealIsTheOracles(t *testing.T) {
	g := begun(t, 20)
	for _, c := range []struct {
		w, index, epoch int
		bound           []byte
	}{
		{0, 0, 0, []byte{0, 0, 0}},
		{1, 0, 0, []byte{1, 0, 0}},
		{7, 127, 1, []byte{7, 127, 2}},
		{3, 128, 19, []byte{3, 0x80, 1, 38}},
		{7, 199, 19, []byte{7, 0xc7, 1, 38}},
	} {
		for _, n := range []int{0, 1, 15, 16, 254, 255, 1022} {
			was := g.o.Used()
			b := g.sealed(t, c.w, c.index, c.epoch, textOf(n))
			if g.o.Used() != was+1 || b[7] != byte(was+1) || b[6] != byte((was+1)>>8) {
				t.Errorf("% x behind %d handles, and %d behind it", b[:8], was, g.o.Used())
			}
			if len(bytes.Trim(b[8:], "\x00")) != 0 {
				t.Errorf("a sealed body tells % x", b[8:])
			}
			if got, k := g.o.Open(g.keys[c.epoch], c.bound, b); k != api.OK || !bytes.Equal(got, textOf(n)) {
				t.Errorf("for %d, %d, %d the oracle opens % x, %d", c.w, c.index, c.epoch, got, k)
			}
		}
	}
}

// wrongEntries: entries that are not right, by one field each.
func wrongEntries(body []byte) []api.Entry {
	right := at(1, 1, 0, body)
	l := []api.Entry{
		{}, {Body: body}, {Epoch: -1, Body: body},
		with(right, func(e *api.Entry) { e.Prev = 0 }),
		with(at(1, 0, 0, body), func(e *api.Entry) { e.Prev = 5 }),
		with(right, func(e *api.Entry) { e.At.W = 0 }),
		with(right, func(e *api.Entry) { e.At.T = 0 }),
		with(right, func(e *api.Entry) { e.At.T = api.MaxTime + 1 }),
		with(right, func(e *api.Entry) { e.Body = make([]byte, 1101) }),
		with(right, func(e *api.Entry) { e.At.W, e.Epoch = 0, -1 }),
	}
	for _, n := range []int{math.MinInt, -1, 8, 1<<32 + 1, math.MaxInt} {
		l = append(l, at(n, 1, 0, body))
	}
	for _, n := range []int{math.MinInt, -1, 200, 1<<32 + 1, math.MaxInt} {
		l = append(l, at(1, n, 0, body))
	}
	for _, n := range []int{math.MinInt, -2, 20, 1 << 32, math.MaxInt} {
		l = append(l, at(1, 1, n, body))
	}
	return l
}

// P1402: BadArg: the entry is not right, ahead of every other kind.
func TestOpenBadArg(t *testing.T) {
	g := begun(t, 20)
	body := g.sealed(t, 1, 1, 0, []byte("x"))
	opens(t, g.o, g.rings[0], at(1, 1, 0, body), []byte("x"))
	for _, e := range wrongEntries(body) {
		isShut(t, g.o, g.rings[0], e, api.BadArg)
		isShut(t, g.o, g.rings[7], e, api.BadArg)
		isShut(t, nil, g.rings[0], e, api.BadArg)
		isShut(t, g.o, nil, e, api.BadArg)
		isShut(t, nil, nil, e, api.BadArg)
	}
}

// P1402: Unauthorized: the admin's plain word, whoever says it, ahead of what ring and oracle say.
func TestOpenPlainWord(t *testing.T) {
	g := begun(t, 1)
	body := g.sealed(t, 0, 0, 0, []byte("x"))
	for _, e := range []api.Entry{at(0, 0, -1, body), at(0, 0, -1, nil), at(0, 9, -1, textOf(1100)), at(7, 199, -1, body)} {
		isShut(t, g.o, g.rings[0], e, api.Unauthorized)
		isShut(t, g.o, nil, e, api.Unauthorized)
		isShut(t, nil, g.rings[0], e, api.Unauthorized)
		isShut(t, nil, nil, e, api.Unauthorized)
	}
}

// P1402: the ring's kind, ahead of the oracle's: Nil, Range and NoKey.
func TestOpenRingKind(t *testing.T) {
	g := begun(t, 2)
	body := g.sealed(t, 1, 4, 1, []byte("x"))
	for _, o := range []*oracle.Oracle{g.o, nil} {
		for _, b := range [][]byte{body, nil, textOf(24)} {
			isShut(t, o, nil, at(1, 4, 1, b), api.Nil)
			isShut(t, o, g.rings[0], at(1, 4, 2, b), api.Range)
			isShut(t, o, g.rings[0], at(1, 4, 19, b), api.Range)
			isShut(t, o, g.rings[2], at(1, 4, 1, b), api.NoKey)
			isShut(t, o, g.rings[3], at(1, 4, 0, b), api.NoKey)
			isShut(t, o, &epochs.Ring{}, at(1, 4, 0, b), api.Range)
		}
	}
}

// P1402: the oracle's kind: Nil; Malformed of what is no Seal's answer; NoKey of another epoch's; BadSum of another place's.
func TestOpenOracleKind(t *testing.T) {
	g := begun(t, 2)
	body := g.sealed(t, 1, 4, 1, []byte("x"))
	r := g.rings[0]
	isShut(t, nil, r, at(1, 4, 1, body), api.Nil)
	isShut(t, oracle.New(nil), r, at(1, 4, 1, body), api.Malformed)
	for i := range body {
		other := bytes.Clone(body)
		other[i] ^= 0x80
		isShut(t, g.o, r, at(1, 4, 1, other), api.Malformed)
	}
	for _, b := range [][]byte{nil, {}, body[:23], body[:8], append(bytes.Clone(body), 0), make([]byte, 24), textOf(1100)} {
		isShut(t, g.o, r, at(1, 4, 1, b), api.Malformed)
	}
	isShut(t, g.o, r, at(1, 4, 0, body), api.NoKey)
	isShut(t, g.o, r, at(1, 5, 1, body), api.BadSum)
	isShut(t, g.o, r, at(0, 4, 1, body), api.BadSum)
	opens(t, g.o, r, at(1, 4, 1, body), []byte("x"))
}

// P1402: a body is the oracle's to open: whoever sealed it with that key and bound.
func TestOpenIsTheOracles(t *testing.T) {
	g := begun(t, 20)
	for _, text := range [][]byte{nil, textOf(1), textOf(1022)} {
		b, _ := g.o.Seal(g.keys[19], []byte{7, 0xc7, 1, 38}, text)
		opens(t, g.o, g.rings[1], at(7, 199, 19, b), text)
		b, _ = g.o.Seal(g.keys[19], []byte{7, 0xc7, 1, 19}, text)
		isShut(t, g.o, g.rings[1], at(7, 199, 19, b), api.BadSum)
	}
}

// P1402: what else an entry has is not asked: its stamp, what is ahead of it, its signature.
func TestOpenAsksThePlaceAlone(t *testing.T) {
	g := begun(t, 1)
	e := at(3, 8, 0, g.sealed(t, 3, 8, 0, []byte("x")))
	for _, e := range []api.Entry{
		e,
		with(e, func(e *api.Entry) { e.Sig = 12345 }),
		with(e, func(e *api.Entry) { e.Prev = math.MaxUint64 }),
		with(e, func(e *api.Entry) { e.At.T = api.MaxTime }),
	} {
		opens(t, g.o, g.rings[2], e, []byte("x"))
	}
}

// P1403: a body's class is told by its length alone, of whatever entry; -1: no sealed body has it.
func TestClass(t *testing.T) {
	want := map[int]int{24: 0, 40: 1, 72: 2, 136: 3, 264: 4, 520: 5, 1032: 6}
	for n := range 4200 {
		class, is := want[n]
		if !is {
			class = -1
		}
		for _, e := range []api.Entry{
			{Body: make([]byte, n)}, at(1, 3, 2, textOf(n)), at(0, 0, -1, textOf(n)), at(-5, 999, 50, textOf(n)),
		} {
			if got := Class(e); got != class {
				t.Errorf("Class of %d bytes: %d, not %d", n, got, class)
			}
		}
	}
	if got := Class(api.Entry{}); got != -1 {
		t.Errorf("Class of no body: %d", got)
	}
}

// P1403: the class of what is sealed is that of its text.
func TestClassOfSealed(t *testing.T) {
	g := begun(t, 1)
	rooms := []int{15, 31, 63, 127, 254, 510, 1022}
	class := 0
	for n := range 1023 {
		if n > rooms[class] {
			class++
		}
		if got := Class(at(1, 0, 0, g.sealed(t, 1, 0, 0, textOf(n)))); got != class {
			t.Errorf("Class of a text of %d bytes: %d, not %d", n, got, class)
		}
	}
}

// P1403: so many bytes a text may have, and none more.
func TestMost(t *testing.T) {
	if Most() != 1022 {
		t.Errorf("Most is %d", Most())
	}
	g := begun(t, 1)
	opens(t, g.o, g.rings[0], at(1, 0, 0, g.sealed(t, 1, 0, 0, textOf(Most()))), textOf(Most()))
	isRefused(t, g.o, g.rings[0], 1, 0, 0, textOf(Most()+1), api.TooLarge)
}
