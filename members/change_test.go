package members

import (
	"bytes"
	"math"
	"slices"
	"testing"

	"cachette/api"
	"cachette/wire"
)

// inv, rev and ep: changes of the three kinds.
func inv(who int, public uint64) Change { return Change{Kind: 1, Who: who, Public: public} }
func rev(who, limit int) Change         { return Change{Kind: 2, Who: who, Limit: limit} }
func ep(old bool, whos ...int) Change {
	c := Change{Kind: 3}
	for _, w := range whos {
		c.Wraps = append(c.Wraps, Wrap{w, box(16, w)})
	}
	if old {
		c.Old = box(24, 100)
	}
	return c
}

// box: n bytes, no two boxes of unlike seeds alike.
func box(n, seed int) []byte {
	b := make([]byte, n)
	for i := range b {
		b[i] = byte(seed*31 + i)
	}
	return b
}

// with: c, changed.
func with(c Change, do func(c *Change)) Change {
	c.Wraps = slices.Clone(c.Wraps)
	do(&c)
	return c
}

// alike: are both changes the same?
func alike(a, b Change) bool {
	return a.Kind == b.Kind && a.Who == b.Who && a.Public == b.Public && a.Limit == b.Limit && bytes.Equal(a.Old, b.Old) &&
		slices.EqualFunc(a.Wraps, b.Wraps, func(x, y Wrap) bool { return x.Who == y.Who && bytes.Equal(x.B, y.B) })
}

// rightChanges: of each kind, with its edges.
func rightChanges() []Change {
	return []Change{
		inv(0, 1), inv(1, 6), inv(7, math.MaxUint64), inv(3, 127), inv(3, 128), inv(3, 1<<63),
		{Kind: 1, Who: 2, Public: 9, Wraps: []Wrap{}, Old: []byte{}},
		rev(1, 0), rev(1, 3), rev(7, 127), rev(7, 128), rev(2, api.MaxLog),
		{Kind: 2, Who: 2, Limit: 9, Wraps: []Wrap{}, Old: []byte{}},
		ep(false, 0), ep(true, 0), ep(false, 7), ep(true, 1, 3, 4), ep(false, 0, 1, 2, 3, 4, 5, 6, 7), ep(true, 0, 1, 2, 3, 4, 5, 6, 7),
		{Kind: 3, Wraps: []Wrap{{5, make([]byte, 16)}}, Old: []byte{}},
	}
}

// numbers: what a field of int must not be, unless it may be all of them.
func numbers() []int {
	return []int{math.MinInt, math.MinInt32, -2, -1, 8, 9, 201, 1 << 20, math.MaxInt32, math.MaxInt}
}

// wrongChanges: each kind with one thing that it must not have.
func wrongChanges() map[string][]Change {
	l := map[string][]Change{}
	add := func(what string, c Change, do func(c *Change)) { l[what] = append(l[what], with(c, do)) }
	for _, n := range append(numbers(), 0, 4, 5) {
		for _, c := range []Change{{}, inv(1, 6), rev(1, 3), ep(false, 0)} {
			if n < 1 || n > 3 {
				add("a Kind that is none", c, func(c *Change) { c.Kind = n })
			}
		}
	}
	for _, n := range numbers() {
		add("invite: Who", inv(1, 6), func(c *Change) { c.Who = n })
		add("invite: a Limit", inv(1, 6), func(c *Change) { c.Limit = n })
		add("revoke: Who", rev(1, 3), func(c *Change) { c.Who = n })
		add("epoch: a Who", ep(false, 0), func(c *Change) { c.Who = n })
		add("epoch: a Limit", ep(false, 0), func(c *Change) { c.Limit = n })
		add("epoch: a Wrap's Who, alone", ep(true, 0), func(c *Change) { c.Wraps[0].Who = n })
		add("epoch: the last Wrap's Who", ep(true, 0, 1), func(c *Change) { c.Wraps[1].Who = n })
		if n < 0 || n > 200 {
			add("revoke: Limit", rev(1, 3), func(c *Change) { c.Limit = n })
		}
	}
	add("invite: no Public", inv(1, 6), func(c *Change) { c.Public = 0 })
	add("invite: Limit 1", inv(1, 6), func(c *Change) { c.Limit = 1 })
	add("revoke: the admin", rev(1, 3), func(c *Change) { c.Who = 0 })
	for _, p := range []uint64{1, 1 << 63, math.MaxUint64} {
		add("revoke: a Public", rev(1, 3), func(c *Change) { c.Public = p })
		add("epoch: a Public", ep(false, 0), func(c *Change) { c.Public = p })
	}
	for _, c := range []Change{inv(1, 6), rev(1, 3)} {
		add("Wraps", c, func(c *Change) { c.Wraps = ep(false, 0).Wraps })
		add("a zero Wrap", c, func(c *Change) { c.Wraps = []Wrap{{}} })
		add("an Old", c, func(c *Change) { c.Old = box(24, 1) })
		add("an Old of a byte", c, func(c *Change) { c.Old = box(1, 1) })
	}
	add("epoch: Who 1", ep(false, 0), func(c *Change) { c.Who = 1 })
	add("epoch: Limit 1", ep(false, 0), func(c *Change) { c.Limit = 1 })
	add("epoch: no Wrap", ep(true, 0), func(c *Change) { c.Wraps = nil })
	add("epoch: an empty list of Wraps", ep(true, 0), func(c *Change) { c.Wraps = []Wrap{} })
	add("epoch: one twice", ep(true, 0, 1, 1), func(c *Change) {})
	add("epoch: falling", ep(true, 1, 0), func(c *Change) {})
	add("epoch: falling behind two", ep(true, 0, 4, 3), func(c *Change) {})
	add("epoch: nine", ep(true, 0, 1, 2, 3, 4, 5, 6, 7, 8), func(c *Change) {})
	for _, n := range []int{0, 1, 8, 15, 17, 24, 32} {
		add("epoch: a B", ep(true, 0, 1, 2), func(c *Change) { c.Wraps[1].B = box(n, 1) })
		add("epoch: the first B", ep(true, 0), func(c *Change) { c.Wraps[0].B = box(n, 1) })
	}
	for _, n := range []int{1, 8, 16, 23, 25, 48} {
		add("epoch: Old", ep(false, 0), func(c *Change) { c.Old = box(n, 1) })
	}
	return l
}

// Words: which changes are right.
func TestRight(t *testing.T) {
	for _, c := range rightChanges() {
		if !Right(c) {
			t.Errorf("%v is not right", c)
		}
	}
	for what, l := range wrongChanges() {
		for _, c := range l {
			if Right(c) {
				t.Errorf("%s: %v is right", what, c)
			}
		}
	}
}

// Words: each Who and Limit from the first to the last.
func TestRightNumbers(t *testing.T) {
	for who := -3; who < 12; who++ {
		is := who >= 0 && who < 8
		if Right(inv(who, 5)) != is || Right(ep(false, who)) != is {
			t.Errorf("Who %d: %t, %t", who, Right(inv(who, 5)), Right(ep(false, who)))
		}
		for limit := -3; limit < 210; limit++ {
			if got := Right(rev(who, limit)); got != (is && who != 0 && limit >= 0 && limit <= 200) {
				t.Errorf("revoke %d, Limit %d: %t", who, limit, got)
			}
		}
	}
}

// part: puts the form of something behind b.
type part func(b []byte) []byte

// num, body and raw: a number, bytes with how many they are, bytes as they are.
func num(l ...uint64) part {
	return func(b []byte) []byte {
		for _, n := range l {
			b = wire.Num(b, n)
		}
		return b
	}
}
func body(x []byte) part { return func(b []byte) []byte { return wire.Bytes(b, x) } }
func raw(x ...byte) part { return func(b []byte) []byte { return append(b, x...) } }

// forms: the parts, one behind the other.
func forms(l ...part) []byte {
	var b []byte
	for _, p := range l {
		b = p(b)
	}
	return b
}

// P1201: of each kind what it has, in order.
func TestBytes(t *testing.T) {
	for _, c := range []struct {
		c    Change
		want []byte
	}{
		{inv(1, 6), []byte{1, 1, 6}},
		{inv(0, 300), []byte{1, 0, 0xAC, 0x02}},
		{inv(7, math.MaxUint64), forms(num(1, 7, math.MaxUint64))},
		{rev(1, 3), []byte{2, 1, 3}},
		{rev(7, 0), []byte{2, 7, 0}},
		{rev(7, 200), []byte{2, 7, 0xC8, 0x01}},
		{ep(false, 0), forms(num(3, 1, 0), body(box(16, 0)), num(0))},
		{ep(true, 0), forms(num(3, 1, 0), body(box(16, 0)), body(box(24, 100)))},
		{ep(false, 1, 7), forms(num(3, 2, 1), body(box(16, 1)), num(7), body(box(16, 7)), num(0))},
	} {
		if got, k := Bytes(c.c); k != api.OK || !bytes.Equal(got, c.want) {
			t.Errorf("Bytes of %v: % X, %d, not % X", c.c, got, k, c.want)
		}
	}
}

// P1201: BadArg, and nothing, of a change that is not right.
func TestBytesWrong(t *testing.T) {
	for what, l := range wrongChanges() {
		for _, c := range l {
			if got, k := Bytes(c); k != api.BadArg || len(got) != 0 {
				t.Errorf("%s: Bytes of %v: % X, %d", what, c, got, k)
			}
		}
	}
}

// P1201: every right change comes back.
func TestReadBytes(t *testing.T) {
	for _, c := range rightChanges() {
		b, _ := Bytes(c)
		if got, k := Read(b); k != api.OK || !alike(got, c) {
			t.Errorf("Read of % X: %v, %d, not %v", b, got, k, c)
		}
	}
}

// isRefused: b is no change's bytes, and that kind, with nothing else, tells it.
func isRefused(t *testing.T, what string, b []byte, want api.Kind) {
	t.Helper()
	got, k := Read(b)
	if k != want || !alike(got, Change{}) || got.Wraps != nil || got.Old != nil {
		t.Errorf("%s: % X: %v, %d, not %d", what, b, got, k, want)
	}
}

// P1201: TooLarge: a number, or bytes, above their most, also where something behind them, or what is not right, is wrong too.
func TestReadTooLarge(t *testing.T) {
	key, old := body(box(16, 1)), body(box(24, 1))
	for what, b := range map[string][]byte{
		"Kind 4":                                forms(num(4)),
		"Kind 4, and what an invitation has":    forms(num(4, 1, 6)),
		"the greatest Kind":                     forms(num(math.MaxUint64)),
		"a Kind beyond 32 bits":                 forms(num(1<<32+1, 1, 6)),
		"Kind 4, and a second form":             forms(num(4), raw(0x80, 0)),
		"invite 8":                              forms(num(1, 8, 6)),
		"invite 8, and no more":                 forms(num(1, 8)),
		"invite 8, and Public 0":                forms(num(1, 8, 0)),
		"invite the greatest one":               forms(num(1, math.MaxUint64, 6)),
		"invite one beyond 32 bits":             forms(num(1, 1<<32+1, 6)),
		"revoke 8":                              forms(num(2, 8, 3)),
		"revoke the greatest one":               forms(num(2, math.MaxUint64, 3)),
		"Limit 201":                             forms(num(2, 1, 201)),
		"Limit 201 of the admin":                forms(num(2, 0, 201)),
		"the greatest Limit":                    forms(num(2, 1, math.MaxUint64)),
		"a Limit beyond 32 bits":                forms(num(2, 1, 1<<32+3)),
		"Limit 201, and a byte more":            forms(num(2, 1, 201, 0)),
		"nine Wraps":                            forms(num(3, 9)),
		"the most Wraps":                        forms(num(3, math.MaxUint64)),
		"Wraps beyond 32 bits":                  forms(num(3, 1<<32+1, 0), key, old),
		"a Wrap for 8":                          forms(num(3, 1, 8), key, old),
		"a Wrap for the greatest one":           forms(num(3, 1, math.MaxUint64), key, old),
		"a later Wrap for 8":                    forms(num(3, 2, 1), key, num(8), key, old),
		"a Wrap for 8 behind two for one":       forms(num(3, 3, 1), key, num(1), key, num(8), key, old),
		"a B of 17 bytes":                       forms(num(3, 1, 0), body(box(17, 1)), old),
		"a B of 17 bytes, and no more":          forms(num(3, 1, 0), body(box(17, 1))),
		"a B of 17 bytes behind one of 15":      forms(num(3, 2, 0), body(box(15, 1)), num(1), body(box(17, 1)), old),
		"an Old of 25 bytes":                    forms(num(3, 1, 0), key, body(box(25, 1))),
		"an Old of 25 bytes, and no Wrap":       forms(num(3, 0), body(box(25, 1))),
		"an Old of 25 bytes, and a byte more":   forms(num(3, 1, 0), key, body(box(25, 1)), num(0)),
		"an Old of 25 bytes, and Who's falling": forms(num(3, 2, 1), key, num(0), key, body(box(25, 1))),
	} {
		isRefused(t, what, b, api.TooLarge)
	}
}

// P1201: Malformed: no form, or forms that no right change has.
func TestReadMalformed(t *testing.T) {
	key, old := body(box(16, 1)), body(box(24, 1))
	for what, b := range map[string][]byte{
		"nothing":                            nil,
		"an empty list":                      {},
		"Kind 0":                             {0},
		"Kind 0, and what an invitation has": {0, 1, 6},
		"a number that does not end":         {0x80},
		"Kind in a second form":              {0x81, 0, 1, 6},
		"a second form ahead of a Who 8":     {1, 0x81, 0, 8},
		"invite without Who":                 {1},
		"invite without Public":              {1, 1},
		"invite with Public 0":               {1, 1, 0},
		"invite, and a byte more":            {1, 1, 6, 0},
		"Public in a second form":            {1, 1, 0x86, 0},
		"Public beyond 64 bits":              append([]byte{1, 1}, append(bytes.Repeat([]byte{0xFF}, 9), 2)...),
		"revoke the admin":                   {2, 0, 3},
		"revoke without Limit":               {2, 1},
		"revoke, and a byte more":            {2, 1, 3, 0},
		"Limit in a second form":             {2, 1, 0x83, 0},
		"an epoch of nothing":                {3},
		"no Wrap, and no Old's count":        {3, 0},
		"no Wrap":                            {3, 0, 0},
		"no Wrap, and an Old":                forms(num(3, 0), old),
		"a Wrap less than told":              forms(num(3, 2, 0), key, num(0)),
		"a Wrap more than told":              forms(num(3, 1, 0), key, num(1), key, num(0)),
		"one twice":                          forms(num(3, 2, 1), key, num(1), key, old),
		"falling":                            forms(num(3, 2, 1), key, num(0), key, old),
		"a B of 15 bytes":                    forms(num(3, 1, 0), body(box(15, 1)), old),
		"a B of none":                        forms(num(3, 1, 0), body(nil), old),
		"a B that ends early":                forms(num(3, 1, 0, 16), raw(box(15, 1)...)),
		"a B of 17 that is not here":         forms(num(3, 1, 0, 17), raw(box(16, 1)...)),
		"an Old of a byte":                   forms(num(3, 1, 0), key, body(box(1, 1))),
		"an Old of 23 bytes":                 forms(num(3, 1, 0), key, body(box(23, 1))),
		"an Old that ends early":             forms(num(3, 1, 0), key, num(24), raw(box(23, 1)...)),
		"no Old's count":                     forms(num(3, 1, 0), key),
		"an epoch, and a byte more":          forms(num(3, 1, 0), key, old, num(0)),
		"how many in a second form":          forms(num(3), raw(0x81, 0), num(0), key, old),
		"a Wrap's Who in a second form":      forms(num(3, 1), raw(0x80, 0), key, old),
	} {
		isRefused(t, what, b, api.Malformed)
	}
}

// P1201: of a right change's Bytes that end early, or go on, none is one.
func TestReadCutOrLonger(t *testing.T) {
	for _, c := range rightChanges() {
		b, _ := Bytes(c)
		for n := range b {
			isRefused(t, "cut", b[:n], api.Malformed)
		}
		for x := range 256 {
			isRefused(t, "longer", append(bytes.Clone(b), byte(x)), api.Malformed)
		}
	}
}

// isOneForm: Read either answers a right change whose Bytes are b, or a kind and nothing.
func isOneForm(t *testing.T, b []byte) {
	t.Helper()
	c, k := Read(b)
	if k == api.OK {
		if again, j := Bytes(c); j != api.OK || !bytes.Equal(again, b) {
			t.Errorf("% X is read as %v, whose Bytes are % X, %d", b, c, again, j)
		}
		return
	}
	if k != api.TooLarge && k != api.Malformed || !alike(c, Change{}) {
		t.Errorf("% X: %v, %d", b, c, k)
	}
}

// P1201: what was read has no other form, whichever byte of one is another.
func TestReadHasOneForm(t *testing.T) {
	for _, c := range rightChanges() {
		b, _ := Bytes(c)
		for i := range b {
			for x := range 256 {
				odd := bytes.Clone(b)
				odd[i] = byte(x)
				isOneForm(t, odd)
			}
		}
	}
}

// P1201: all bytes of up to three.
func TestReadShort(t *testing.T) {
	for n := range 1 << 24 {
		b := []byte{byte(n >> 16), byte(n >> 8), byte(n)}
		if b[0] > 5 && b[0] != 0x80 && b[0] != 0x81 {
			continue
		}
		isOneForm(t, b)
		if n&0xFFFF == 0 {
			isOneForm(t, b[:1])
		}
		if n&0xFF == 0 {
			isOneForm(t, b[:2])
		}
	}
}

// P1201: whatever the bytes are.
func FuzzRead(f *testing.F) {
	for _, c := range rightChanges() {
		b, _ := Bytes(c)
		f.Add(b)
	}
	f.Fuzz(isOneForm)
}
