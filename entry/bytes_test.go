package entry

import (
	"bytes"
	"math"
	"testing"

	"cachette/api"
	"cachette/wire"
)

// part: puts the form of something behind b.
type part func(b []byte) []byte

// num, sint and body: a number, one that may be below 0, bytes.
func num(n uint64) part  { return func(b []byte) []byte { return wire.Num(b, n) } }
func sint(n int64) part  { return func(b []byte) []byte { return wire.Int(b, n) } }
func body(x string) part { return func(b []byte) []byte { return wire.Bytes(b, []byte(x)) } }
func raw(x ...byte) part { return func(b []byte) []byte { return append(b, x...) } }

// forms: the parts, one behind the other.
func forms(l ...part) []byte {
	var b []byte
	for _, p := range l {
		b = p(b)
	}
	return b
}

// changed: the parts of a right entry's bytes, the i-th being another one.
func changed(i int, p part) []byte {
	l := laterParts()
	l[i] = p
	return forms(l...)
}

// laterParts: the parts of the bytes of later: Writer, Index, Prev, T, W, Epoch, Body, Sig.
func laterParts() []part {
	return []part{num(3), num(7), num(300), sint(9), num(3), sint(2), body("body"), num(77)}
}

// isRead: b is e's bytes.
func isRead(t *testing.T, b []byte, e api.Entry) {
	t.Helper()
	if got, k := Read(b); k != api.OK || !Same(got, e) {
		t.Errorf("Read of % X: %v, %d, not %v", b, got, k, e)
	}
}

// isRefused: b is no entry's bytes, and that kind, with nothing else, tells it.
func isRefused(t *testing.T, what string, b []byte, want api.Kind) {
	t.Helper()
	if got, k := Read(b); k != want || !Same(got, api.Entry{}) {
		t.Errorf("%s: %v, %d, not %d", what, got, k, want)
	}
}

// P601: the chapter's example.
func TestExample(t *testing.T) {
	want := []byte{0x01, 0x00, 0x00, 0x0A, 0x01, 0x00, 0x01, 0x78, 0x09}
	if got, k := Bytes(example()); k != api.OK || !bytes.Equal(got, want) {
		t.Errorf("Bytes: % X, %d", got, k)
	}
	if got, k := Text(example()); k != api.OK || !bytes.Equal(got, want[:8]) {
		t.Errorf("Text: % X, %d", got, k)
	}
	isRead(t, want, example())
}

// P601: each field in its own form, in the order of the chapter.
func TestBytes(t *testing.T) {
	for _, c := range []struct {
		e    api.Entry
		want []byte
	}{
		{later(), forms(laterParts()...)},
		{of(7, 199), []byte{7, 0xC7, 0x01, 8, 2, 7, 0, 1, 'b', 5}},
		{with(of(0, 0), func(e *api.Entry) { e.Epoch, e.Body, e.Sig = -1, nil, 0 }), []byte{0, 0, 0, 2, 0, 1, 0, 0}},
		{with(of(0, 0), func(e *api.Entry) { e.Epoch = 19 }), []byte{0, 0, 0, 2, 0, 38, 1, 'b', 5}},
		{
			with(of(2, 1), func(e *api.Entry) { e.Prev, e.At.T, e.Sig = math.MaxUint64, api.MaxTime, 1<<63 }),
			forms(num(2), num(1), num(math.MaxUint64), sint(api.MaxTime), num(2), sint(0), body("b"), num(1<<63)),
		},
	} {
		if got, k := Bytes(c.e); k != api.OK || !bytes.Equal(got, c.want) {
			t.Errorf("Bytes of %v: % X, %d, not % X", c.e, got, k, c.want)
		}
	}
}

// P601: the text is all of the bytes but the signature, whatever that is.
func TestText(t *testing.T) {
	for _, e := range rightEntries() {
		text, k := Text(e)
		if k != api.OK {
			t.Fatalf("Text of %v: %d", e, k)
		}
		for _, sig := range []uint64{0, 1, 127, 128, math.MaxUint64} {
			e.Sig = sig
			if same, _ := Text(e); !bytes.Equal(same, text) {
				t.Errorf("Text of %v hangs on Sig: % X, % X", e, same, text)
			}
			if b, k := Bytes(e); k != api.OK || !bytes.Equal(b, wire.Num(text, sig)) {
				t.Errorf("Bytes of %v: % X, %d", e, b, k)
			}
		}
	}
}

// P601: BadArg, and nothing, of an entry that is not right.
func TestBytesWrong(t *testing.T) {
	for _, e := range wrongEntries() {
		if got, k := Text(e); k != api.BadArg || len(got) != 0 {
			t.Errorf("Text of %v: % X, %d", e, got, k)
		}
		if got, k := Bytes(e); k != api.BadArg || len(got) != 0 {
			t.Errorf("Bytes of %v: % X, %d", e, got, k)
		}
	}
}

// P601: TooLarge: a number, or a body, above its most, also where something behind it, or what is not right, is wrong too.
func TestReadTooLarge(t *testing.T) {
	for what, b := range map[string][]byte{
		"Writer 8":                       changed(0, num(8)),
		"a Writer beyond 32 bits":        changed(0, num(1<<32)),
		"the greatest Writer":            changed(0, num(math.MaxUint64)),
		"Writer 8, and no more":          forms(num(8)),
		"Writer 8, and Index in no form": forms(num(8), raw(0x80, 0)),
		"Index 200":                      changed(1, num(200)),
		"an Index beyond 32 bits":        changed(1, num(1<<32+7)),
		"the greatest Index":             changed(1, num(math.MaxUint64)),
		"Index 200, and no more":         forms(num(3), num(200)),
		"W 8":                            changed(4, num(8)),
		"the greatest W":                 changed(4, num(math.MaxUint64)),
		"W 8, and Prev 0":                forms(num(3), num(7), num(0), sint(9), num(8)),
		"W 8, and T 0":                   forms(num(3), num(7), num(300), sint(0), num(8)),
		"a body of 1101 bytes":           changed(6, body(string(make([]byte, 1101)))),
		"one of 5000":                    changed(6, body(string(make([]byte, 5000)))),
		"one of 1101, and no signature":  forms(append(laterParts()[:6], body(string(make([]byte, 1101))))...),
		"one of 1101, and Epoch 20":      forms(append(append(laterParts()[:5], sint(20)), body(string(make([]byte, 1101))), num(1))...),
		"Writer 8, and a byte more":      append(changed(0, num(8)), 0),
	} {
		isRefused(t, what, b, api.TooLarge)
	}
}

// P601: Malformed: no form, or forms that no right entry has.
func TestReadMalformed(t *testing.T) {
	for what, b := range map[string][]byte{
		"nothing":                              nil,
		"an empty list":                        {},
		"a number that does not end":           {0x80},
		"Writer in a second form":              changed(0, raw(0x83, 0)),
		"Index in a second form":               changed(1, raw(0x87, 0)),
		"Prev in a second form":                changed(2, raw(0xAC, 0x82, 0)),
		"Prev beyond 64 bits":                  changed(2, raw(0xFF, 0xFF, 0xFF, 0xFF, 0xFF, 0xFF, 0xFF, 0xFF, 0xFF, 2)),
		"T in a second form":                   changed(3, raw(0x92, 0)),
		"W in a second form":                   changed(4, raw(0x83, 0)),
		"Epoch in a second form":               changed(5, raw(0x84, 0)),
		"how long the body is in a second one": changed(6, raw(0x84, 0, 1, 2, 3, 4)),
		"Sig in a second form":                 changed(7, raw(0xCD, 0)),
		"Index 0 behind something":             changed(1, num(0)),
		"Prev 0 at Index 7":                    changed(2, num(0)),
		"T 0":                                  changed(3, sint(0)),
		"T below 0":                            changed(3, sint(-9)),
		"the least T":                          changed(3, sint(math.MinInt64)),
		"T above its most":                     changed(3, sint(api.MaxTime+1)),
		"the greatest T":                       changed(3, sint(math.MaxInt64)),
		"another one's stamp":                  changed(4, num(2)),
		"another Writer":                       changed(0, num(4)),
		"Epoch -2":                             changed(5, sint(-2)),
		"Epoch 20":                             changed(5, sint(20)),
		"an Epoch beyond 32 bits":              changed(5, sint(1<<32+2)),
		"one below that":                       changed(5, sint(-1<<32+2)),
		"the least Epoch":                      changed(5, sint(math.MinInt64)),
		"the greatest Epoch":                   changed(5, sint(math.MaxInt64)),
		"a body that ends early":               forms(append(laterParts()[:6], raw(4, 1, 2, 3))...),
		"a body of 1101 of which none is here": forms(append(laterParts()[:6], num(1101))...),
		"the longest body, which is not here":  forms(append(laterParts()[:6], num(math.MaxUint64), num(1))...),
		"a second form ahead of Index 200":     forms(raw(0x83, 0), num(200)),
	} {
		isRefused(t, what, b, api.Malformed)
	}
}

// P601: of a right entry's Bytes that end early, or go on, none is one.
func TestReadCutOrLonger(t *testing.T) {
	for _, e := range rightEntries() {
		b, _ := Bytes(e)
		for n := range b {
			isRefused(t, "cut", b[:n], api.Malformed)
		}
		for c := range 256 {
			isRefused(t, "longer", append(bytes.Clone(b), byte(c)), api.Malformed)
		}
	}
}

// P602: Num of writer and index, those below 0 as 0, and Int of epoch, whatever the numbers.
func TestBound(t *testing.T) {
	for _, c := range []struct {
		writer, index, epoch int
		want                 []byte
	}{
		{1, 2, -1, []byte{1, 2, 1}},
		{0, 0, 0, []byte{0, 0, 0}},
		{7, 199, 19, []byte{7, 0xC7, 0x01, 38}},
		{-1, 5, 3, []byte{0, 5, 6}},
		{5, -1, 3, []byte{5, 0, 6}},
		{math.MinInt, math.MinInt, -2, []byte{0, 0, 3}},
		{300, 128, 64, []byte{0xAC, 0x02, 0x80, 0x01, 0x80, 0x01}},
		{math.MaxInt, math.MaxInt, math.MaxInt, forms(num(math.MaxInt), num(math.MaxInt), sint(math.MaxInt))},
		{0, 0, math.MinInt, forms(num(0), num(0), sint(math.MinInt))},
	} {
		if got := Bound(c.writer, c.index, c.epoch); !bytes.Equal(got, c.want) {
			t.Errorf("Bound of %d, %d, %d: % X, not % X", c.writer, c.index, c.epoch, got, c.want)
		}
	}
}

// P602: two places, or epochs, of entries have two Bounds.
func TestBoundsAreApart(t *testing.T) {
	met := map[string]int{}
	for w := range api.MaxMembers {
		for i := range api.MaxLog {
			for n := -1; n < api.MaxEpochs; n++ {
				met[string(Bound(w, i, n))]++
			}
		}
	}
	if want := api.MaxMembers * api.MaxLog * (api.MaxEpochs + 1); len(met) != want {
		t.Errorf("%d Bounds, not %d", len(met), want)
	}
}
