package oracle

import (
	"bytes"
	"slices"
	"testing"

	"cachette/api"
	"cachette/bucket"
)

// P305: what is sealed under one key is opened by it alone.
func TestOneKeyOpens(t *testing.T) {
	o := counted()
	var keys []uint64
	for range 6 {
		keys = append(keys, o.Key())
	}
	for i, key := range keys {
		text := textOf(i * 9)
		box := seals(t, o, key, []byte("b"), text)
		for _, with := range keys {
			b, k := o.Open(with, []byte("b"), box)
			if with == key && (k != api.OK || !bytes.Equal(b, text)) || with != key && (k != api.NoKey || b != nil) {
				t.Errorf("sealed under %d, opened with %d: % x, %d", key, with, b, k)
			}
		}
	}
}

// P305: two calls of Seal have two answers, the same text or not, each with its own text.
func TestTwoSealsAreTwo(t *testing.T) {
	o := counted()
	key := o.Key()
	met := map[string]int{}
	for i := range 60 {
		text := textOf(i % 3)
		box := seals(t, o, key, nil, text)
		met[string(box)]++
		if b, _ := o.Open(key, nil, box); !bytes.Equal(b, text) {
			t.Errorf("the %d-th opens as % x", i, b)
		}
	}
	if len(met) != 60 {
		t.Errorf("60 calls have %d answers", len(met))
	}
}

// P305: what Seal and Wrap answer tells nothing but the text's class: two oracles of the same draws answer alike, whatever is in it.
func TestSealedTellsTheClassAlone(t *testing.T) {
	draws := []uint64{31, 41, 59, 26, 53}
	for n := range 64 {
		for _, text := range [][]byte{textOf(n), make([]byte, n), bytes.Repeat([]byte{0xff}, n)} {
			same := textOf(bucket.Room(bucket.Class(n)))
			if a, b := sealedBy(t, draws, "a", text), sealedBy(t, draws, "other bound", same); !bytes.Equal(a, b) {
				t.Errorf("texts of one class, %d and %d bytes: % x and % x", n, len(same), a, b)
			}
		}
	}
	if len(sealedBy(t, draws, "", textOf(15))) == len(sealedBy(t, draws, "", textOf(16))) {
		t.Error("texts of two classes are equally long")
	}
}

// sealedBy: what a new oracle's Seal answers.
func sealedBy(t *testing.T, draws []uint64, bound string, text []byte) []byte {
	o := New(draws)
	return seals(t, o, o.Key(), []byte(bound), text)
}

// P305: two texts have two hashes.
func TestTwoTextsHaveTwoHashes(t *testing.T) {
	o := New([]uint64{3, 3, 3, 1})
	met := map[uint64][]byte{}
	for n := range 300 {
		for _, text := range [][]byte{textOf(n + 1), make([]byte, n)} {
			h := o.Hash(text)
			if was, ok := met[h]; ok || h == 0 {
				t.Errorf("%d is the hash of % x and of % x", h, was, text)
			}
			met[h] = text
		}
	}
}

// Rule 4: the draws, and what is hashed, signed or sealed, are not kept: writing into them changes nothing.
func TestKeepsNothingOfTheCaller(t *testing.T) {
	draws := []uint64{5, 6, 7, 8, 9, 10}
	o := New(draws)
	clear(draws)
	key := o.Key()
	s, p := o.Pair()
	if key != 5 || s != 6 || p != 7 {
		t.Errorf("the draws are the caller's: %d %d %d", key, s, p)
	}
	text, bound := textOf(9), textOf(4)
	h, sig := o.Hash(text), signs(t, o, s, text)
	box := seals(t, o, key, bound, text)
	scribble(text)
	scribble(bound)
	if o.Hash(textOf(9)) != h || signs(t, o, s, textOf(9)) != sig || !o.Verify(p, textOf(9), sig) || o.Verify(p, text, sig) {
		t.Error("what was hashed or signed is the caller's memory")
	}
	if b, k := o.Open(key, textOf(4), box); k != api.OK || !bytes.Equal(b, textOf(9)) {
		t.Errorf("what was sealed is the caller's memory: % x, %d", b, k)
	}
}

// Rule 4: what is handed out is new memory, its spare room too.
func TestHandsOutNewMemory(t *testing.T) {
	o := counted()
	key := o.Key()
	s, p := o.Pair()
	box := seals(t, o, key, nil, textOf(9))
	w := wraps(t, o, p, key)
	keptBox, keptWrap := bytes.Clone(box), bytes.Clone(w)
	scribble(box)
	scribble(w)
	text, k := o.Open(key, nil, keptBox)
	if k != api.OK || !bytes.Equal(text, textOf(9)) {
		t.Errorf("sealed bytes are the oracle's memory: % x, %d", text, k)
	}
	scribble(text)
	if again, _ := o.Open(key, nil, keptBox); !bytes.Equal(again, textOf(9)) {
		t.Errorf("an opened text is the oracle's memory: % x", again)
	}
	if got, k := o.Unwrap(s, keptWrap); got != key || k != api.OK {
		t.Errorf("a wrap is the oracle's memory: %d, %d", got, k)
	}
}

// Rule 4: what is handed in is not changed, its spare room neither.
func TestLeavesWhatIsHandedIn(t *testing.T) {
	draws := append(make([]uint64, 0, 8), 4, 0, 4, 3)
	o := New(draws)
	key := o.Key()
	s, p := o.Pair()
	in := roomy(textOf(20))
	before := bytes.Clone(in[:cap(in)])
	o.Hash(in)
	sig := signs(t, o, s, in)
	o.Verify(p, in, sig)
	box := roomy(seals(t, o, key, in, in))
	boxBefore := bytes.Clone(box[:cap(box)])
	o.Open(key, in, box)
	o.Unwrap(s, box)
	if !bytes.Equal(in[:cap(in)], before) || !bytes.Equal(box[:cap(box)], boxBefore) {
		t.Error("bytes that were handed in, or their spare room, were changed")
	}
	if want := []uint64{4, 0, 4, 3, 0, 0, 0, 0}; !slices.Equal(draws[:8], want) {
		t.Errorf("the draws are %v", draws[:8])
	}
}

// Rule 5: two oracles share nothing: handles of one mean nothing to the other.
func TestTwoOracles(t *testing.T) {
	draws := []uint64{1, 2, 3, 4, 5}
	a, b := New(draws), New(draws)
	key := a.Key()
	s, p := a.Pair()
	sig := signs(t, a, s, nil)
	box := seals(t, a, key, nil, nil)
	if b.Used() != 0 || b.Verify(p, nil, sig) {
		t.Error("one oracle knows what another one handed out")
	}
	if _, k := b.Open(key, nil, box); k != api.Malformed {
		t.Errorf("Open: %d", k)
	}
	if got := b.Hash(nil); got != 1 {
		t.Errorf("the other one's first handle is %d", got)
	}
}

// roomy: a copy of b with spare room, filled so that a write into it is seen.
func roomy(b []byte) []byte {
	whole := append(bytes.Clone(b), bytes.Repeat([]byte{0xee}, 64)...)
	return whole[:len(b)]
}

// scribble writes over b and all of its spare room.
func scribble(b []byte) {
	b = b[:cap(b)]
	for i := range b {
		b[i] = 0xaa
	}
}
