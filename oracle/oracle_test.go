package oracle

import (
	"bytes"
	"math"
	"slices"
	"testing"

	"cachette/api"
	"cachette/bucket"
)

// textOf: n bytes, no two neighbours alike, the first one not 0.
func textOf(n int) []byte {
	b := make([]byte, n)
	for i := range b {
		b[i] = byte(i*7 + 1)
	}
	return b
}

// counted: the handles from 1 on are handed out, so that a test can tell them.
func counted() *Oracle {
	return New(nil)
}

// seals: what the call answers, which must be OK.
func seals(t *testing.T, o *Oracle, key uint64, bound, plain []byte) []byte {
	t.Helper()
	b, k := o.Seal(key, bound, plain)
	if k != api.OK {
		t.Fatalf("Seal under %d of %d bytes: %d", key, len(plain), k)
	}
	return b
}

// wraps: what the call answers, which must be OK.
func wraps(t *testing.T, o *Oracle, public, key uint64) []byte {
	t.Helper()
	b, k := o.Wrap(public, key)
	if k != api.OK {
		t.Fatalf("Wrap for %d of %d: %d", public, key, k)
	}
	return b
}

// signs: what the call answers, which must be OK.
func signs(t *testing.T, o *Oracle, secret uint64, b []byte) uint64 {
	t.Helper()
	sig, k := o.Sign(secret, b)
	if k != api.OK {
		t.Fatalf("Sign with %d of % x: %d", secret, b, k)
	}
	return sig
}

// P301: the chapter's example.
func TestExample(t *testing.T) {
	o := New([]uint64{7, 0, 7, 9})
	got := []uint64{o.Key(), o.Hash([]byte("a")), o.Hash([]byte("a")), o.Hash([]byte("b"))}
	if want := []uint64{7, 9, 9, 1}; !slices.Equal(got, want) {
		t.Errorf("%v, not %v", got, want)
	}
	if o.Used() != 3 {
		t.Errorf("Used %d, not 3", o.Used())
	}
}

// P301: a fresh handle is the next of the draws that is not 0 and was never handed out; behind their end, the least number from 1 on that was not.
func TestFresh(t *testing.T) {
	most := uint64(math.MaxUint64)
	for _, c := range []struct{ draws, want []uint64 }{
		{nil, []uint64{1, 2, 3, 4}},
		{[]uint64{}, []uint64{1, 2}},
		{[]uint64{0}, []uint64{1, 2}},
		{[]uint64{0, 0, 5, 0}, []uint64{5, 1, 2}},
		{[]uint64{3, 1}, []uint64{3, 1, 2, 4, 5}},
		{[]uint64{2, 2, 2, 1, 2}, []uint64{2, 1, 3}},
		{[]uint64{1, 2, 3}, []uint64{1, 2, 3, 4}},
		{[]uint64{most, most - 1, most}, []uint64{most, most - 1, 1}},
		{[]uint64{9, 8, 9, 7, 8}, []uint64{9, 8, 7, 1, 2, 3, 4, 5, 6, 10}},
		{[]uint64{1 << 63, 1 << 32}, []uint64{1 << 63, 1 << 32, 1}},
	} {
		o := New(c.draws)
		for i, want := range c.want {
			if got := o.Key(); got != want {
				t.Errorf("draws %v: the %d-th is %d, not %d", c.draws, i, got, want)
			}
			if o.Used() != i+1 {
				t.Errorf("draws %v: Used %d behind %d", c.draws, o.Used(), i+1)
			}
		}
	}
}

// P301: every call that hands out takes its handles from the same draws, one each, and Pair two.
func TestAllFromTheSameDraws(t *testing.T) {
	o := New([]uint64{10, 20, 30, 40, 50, 60, 70})
	k := o.Key()
	h := o.Hash(nil)
	s, p := o.Pair()
	sig := signs(t, o, s, nil)
	box := seals(t, o, k, nil, nil)
	w := wraps(t, o, p, k)
	got := []uint64{k, h, s, p, sig, uint64(box[7]), uint64(w[7])}
	if want := []uint64{10, 20, 30, 40, 50, 60, 70}; !slices.Equal(got, want) {
		t.Errorf("%v, not %v", got, want)
	}
	if o.Used() != 7 {
		t.Errorf("Used %d, not 7", o.Used())
	}
}

// P301: bytes that were hashed ahead have the handle that they got, nil and empty ones too; others have another.
func TestHash(t *testing.T) {
	o := counted()
	texts := [][]byte{nil, {0}, {0, 0}, {1}, []byte("a"), []byte("aa"), {0xff}, textOf(3000), textOf(3001)}
	var got []uint64
	for i, b := range texts {
		h := o.Hash(b)
		if h != uint64(i+1) {
			t.Errorf("the hash of %d bytes is %d, not %d", len(b), h, i+1)
		}
		got = append(got, h)
	}
	for i, b := range texts {
		if h := o.Hash(bytes.Clone(b)); h != got[i] {
			t.Errorf("the hash of %d bytes is %d, and was %d", len(b), h, got[i])
		}
	}
	if h := o.Hash([]byte{}); h != got[0] {
		t.Errorf("the hash of an empty list is %d, of nil %d", h, got[0])
	}
	if o.Used() != len(texts) {
		t.Errorf("Used %d, not %d: a hash that was there took a handle", o.Used(), len(texts))
	}
}

// P301: two keys, and two pairs, are never alike; the secret comes first.
func TestKeyAndPairAreFresh(t *testing.T) {
	o := New([]uint64{5, 6, 6, 5, 4})
	k := o.Key()
	s, p := o.Pair()
	s2, p2 := o.Pair()
	if got, want := []uint64{k, s, p, s2, p2}, []uint64{5, 6, 4, 1, 2}; !slices.Equal(got, want) {
		t.Errorf("%v, not %v", got, want)
	}
	if _, k := o.Sign(p, nil); k != api.NoKey {
		t.Errorf("the public one signs: %d", k)
	}
	sig := signs(t, o, s, nil)
	if !o.Verify(p, nil, sig) || o.Verify(p2, nil, sig) {
		t.Error("the public one is not that of its own secret alone")
	}
}

// P302: a secret signs the same bytes by the same handle, others by another; so does another secret.
func TestSign(t *testing.T) {
	o := counted()
	s, _ := o.Pair()
	s2, _ := o.Pair()
	a := signs(t, o, s, []byte("a"))
	for _, c := range []struct {
		secret uint64
		b      []byte
		want   uint64
	}{
		{s, []byte("a"), a},
		{s, []byte("b"), a + 1},
		{s2, []byte("a"), a + 2},
		{s, nil, a + 3},
		{s, []byte{}, a + 3},
		{s, []byte{0}, a + 4},
		{s2, nil, a + 5},
		{s, []byte("a"), a},
		{s2, []byte("a"), a + 2},
	} {
		if got := signs(t, o, c.secret, c.b); got != c.want {
			t.Errorf("Sign with %d of % x: %d, not %d", c.secret, c.b, got, c.want)
		}
	}
}

// P302: what is no Pair's secret signs nothing: NoKey, and no handle is taken.
func TestSignNoKey(t *testing.T) {
	o := counted()
	s, p := o.Pair()
	key := o.Key()
	hash := o.Hash([]byte("a"))
	sig := signs(t, o, s, []byte("a"))
	seals(t, o, key, nil, nil)
	wraps(t, o, p, key)
	used := o.Used()
	for _, no := range []uint64{0, p, key, hash, sig, 6, 7, 8, 99, math.MaxUint64} {
		if got, k := o.Sign(no, []byte("a")); got != 0 || k != api.NoKey {
			t.Errorf("Sign with %d: %d, %d", no, got, k)
		}
	}
	if o.Used() != used {
		t.Errorf("Used %d, not %d", o.Used(), used)
	}
}

// P302: a hash of the bytes is not their signature, nor the other way round.
func TestSignIsNoHash(t *testing.T) {
	o := counted()
	s, p := o.Pair()
	h := o.Hash([]byte("a"))
	sig := signs(t, o, s, []byte("a"))
	if h == sig || o.Verify(p, []byte("a"), h) || o.Hash([]byte("a")) != h {
		t.Errorf("hash %d, signature %d", h, sig)
	}
	// The bytes under which an oracle might keep a signature, hashed.
	if o.Hash([]byte{0, 0, 0, 0, 0, 0, 0, byte(s), 'a'}) == sig {
		t.Error("a hash is a signature")
	}
}

// P302: a signature holds of just its public one, its bytes and its handle.
func TestVerify(t *testing.T) {
	o := counted()
	s, p := o.Pair()
	s2, p2 := o.Pair()
	sig := signs(t, o, s, []byte("x"))
	other := signs(t, o, s, []byte("y"))
	theirs := signs(t, o, s2, []byte("x"))
	empty := signs(t, o, s, nil)
	key := o.Key()
	w := handleAt(wraps(t, o, p, key))
	for _, c := range []struct {
		public uint64
		b      string
		sig    uint64
		want   bool
	}{
		{p, "x", sig, true},
		{p, "y", other, true},
		{p2, "x", theirs, true},
		{p, "", empty, true},
		{p, "y", sig, false},
		{p, "", sig, false},
		{p, "xx", sig, false},
		{p, "x", other, false},
		{p, "x", theirs, false},
		{p, "x", 0, false},
		{p, "z", 0, false},
		{p, "x", p, false},
		{p, "x", s, false},
		{p, "x", 99, false},
		{p2, "x", sig, false},
		{p2, "y", 0, false},
		{s, "x", sig, false},
		{sig, "x", sig, false},
		{key, "x", sig, false},
		{w, "x", sig, false},
		{0, "x", sig, false},
		{0, "", 0, false},
		{99, "x", sig, false},
	} {
		if got := o.Verify(c.public, []byte(c.b), c.sig); got != c.want {
			t.Errorf("Verify %d %q %d: %t", c.public, c.b, c.sig, got)
		}
	}
	used := o.Used()
	if o.Verify(p, []byte("new"), 1); o.Used() != used {
		t.Error("Verify took a handle")
	}
}

// P303: sealed bytes are a handle in eight bytes, the highest first, and as many bytes 0 as the size of the text's class.
func TestSealForm(t *testing.T) {
	for _, n := range []int{0, 1, 15, 16, 31, 32, 62, 63, 64, 126, 127, 253, 254, 255, 510, 511, 1022} {
		o := New([]uint64{1, 0x0102030405060708})
		key := o.Key()
		want := append([]byte{1, 2, 3, 4, 5, 6, 7, 8}, make([]byte, bucket.Size(bucket.Class(n)))...)
		if b := seals(t, o, key, []byte("bound"), textOf(n)); !bytes.Equal(b, want) {
			t.Errorf("a text of %d bytes is sealed as % x", n, b)
		}
	}
	o := New([]uint64{1, 0xff00000000000000})
	if b := seals(t, o, o.Key(), nil, nil); !bytes.Equal(b, append([]byte{0xff}, make([]byte, 23)...)) {
		t.Errorf("% x", b)
	}
}

// P303: NoKey: key is no Key's, ahead of TooLarge; neither takes a handle.
func TestSealKinds(t *testing.T) {
	o := counted()
	key := o.Key()
	s, p := o.Pair()
	h := o.Hash(nil)
	sig := signs(t, o, s, nil)
	seals(t, o, key, nil, nil)
	wraps(t, o, p, key)
	used := o.Used()
	for _, no := range []uint64{0, s, p, h, sig, 6, 7, 8, 99, math.MaxUint64} {
		for _, n := range []int{0, 1022, 1023} {
			if b, k := o.Seal(no, nil, textOf(n)); b != nil || k != api.NoKey {
				t.Errorf("Seal under %d of %d bytes: % x, %d", no, n, b, k)
			}
		}
	}
	for _, n := range []int{1023, 1024, 5000} {
		if b, k := o.Seal(key, nil, textOf(n)); b != nil || k != api.TooLarge {
			t.Errorf("Seal of %d bytes: % x, %d", n, b, k)
		}
	}
	if o.Used() != used {
		t.Errorf("Used %d, not %d", o.Used(), used)
	}
	// A bound has no class: it may have any length.
	box := seals(t, o, key, textOf(5000), textOf(1022))
	if b, k := o.Open(key, textOf(5000), box); k != api.OK || !bytes.Equal(b, textOf(1022)) {
		t.Errorf("% x, %d", b, k)
	}
}

// P303: the text comes back, with its key and its bound.
func TestOpen(t *testing.T) {
	o := counted()
	key := o.Key()
	for _, n := range []int{0, 1, 15, 16, 400, 1022} {
		for _, bound := range [][]byte{nil, {}, {0}, textOf(1), textOf(40)} {
			box := seals(t, o, key, bound, textOf(n))
			for range 2 {
				if b, k := o.Open(key, bound, box); k != api.OK || !bytes.Equal(b, textOf(n)) {
					t.Errorf("a text of %d bytes opens as % x, %d", n, b, k)
				}
			}
		}
	}
	box := seals(t, o, key, nil, textOf(3))
	used := o.Used()
	if b, k := o.Open(key, []byte{}, box); k != api.OK || !bytes.Equal(b, textOf(3)) {
		t.Errorf("nil and empty bounds are two: % x, %d", b, k)
	}
	if o.Used() != used {
		t.Error("Open took a handle")
	}
}

// P303: bytes that no Seal answered are Malformed, whatever key and bound.
func TestOpenMalformed(t *testing.T) {
	o := New([]uint64{0x0100000000000000, 0x0200000000000001, 0x0300000000000001, 0x0400000000000001, 0x0500000000000001})
	key := o.Key()
	s, p := o.Pair()
	box := seals(t, o, key, []byte("z"), textOf(2))
	w := wraps(t, o, p, key)
	h, sig := o.Hash(nil), signs(t, o, s, nil)
	wrong := [][]byte{nil, {}, {0}, make([]byte, 7), make([]byte, 8), make([]byte, 24), box[:0], box[:7], box[:8], box[1:], box[:23], box[8:],
		append(bytes.Clone(box), 0), append(bytes.Clone(box), make([]byte, 16)...), w, append(bytes.Clone(w), make([]byte, 8)...)}
	for _, no := range []uint64{key, s, p, h, sig, 99} {
		for _, zeros := range []int{0, 8, 16} {
			wrong = append(wrong, form(no, zeros))
		}
	}
	for i := range box {
		b := bytes.Clone(box)
		b[i] ^= 0x10
		wrong = append(wrong, b)
	}
	for _, b := range wrong {
		for _, with := range []uint64{key, 0, s} {
			for _, bound := range []string{"z", "y"} {
				if text, k := o.Open(with, []byte(bound), b); text != nil || k != api.Malformed {
					t.Errorf("Open of % x: % x, %d", b, text, k)
				}
			}
		}
	}
}

// P303: another key is NoKey, ahead of another bound, which is BadSum.
func TestOpenKinds(t *testing.T) {
	o := counted()
	key, other := o.Key(), o.Key()
	s, p := o.Pair()
	box := seals(t, o, key, []byte("z"), textOf(2))
	for _, with := range []uint64{0, other, s, p, 99, math.MaxUint64} {
		for _, bound := range []string{"z", "", "y"} {
			if text, k := o.Open(with, []byte(bound), box); text != nil || k != api.NoKey {
				t.Errorf("Open with %d: % x, %d", with, text, k)
			}
		}
	}
	for _, bound := range []string{"", "y", "zz", "Z", "\x00", "z\x00"} {
		if text, k := o.Open(key, []byte(bound), box); text != nil || k != api.BadSum {
			t.Errorf("Open with bound %q: % x, %d", bound, text, k)
		}
	}
}

// P304: a wrap is a handle in eight bytes, the highest first, and eight bytes 0; its secret gets the key, each time.
func TestWrap(t *testing.T) {
	o := New([]uint64{11, 12, 13, 0x0102030405060708})
	key := o.Key()
	s, p := o.Pair()
	w := wraps(t, o, p, key)
	if want := append([]byte{1, 2, 3, 4, 5, 6, 7, 8}, make([]byte, 8)...); !bytes.Equal(w, want) {
		t.Errorf("% x", w)
	}
	again := wraps(t, o, p, key)
	if bytes.Equal(w, again) {
		t.Error("two wraps are alike: the handle was not fresh")
	}
	used := o.Used()
	for _, b := range [][]byte{w, again, w} {
		if got, k := o.Unwrap(s, b); got != key || k != api.OK {
			t.Errorf("Unwrap: %d, %d", got, k)
		}
	}
	if o.Used() != used {
		t.Error("Unwrap took a handle")
	}
}

// P304: Unknown: no Pair's public one, ahead of NoKey: no Key's; neither takes a handle.
func TestWrapKinds(t *testing.T) {
	o := counted()
	key := o.Key()
	s, p := o.Pair()
	h := o.Hash(nil)
	sig := signs(t, o, s, nil)
	seals(t, o, key, nil, nil)
	wraps(t, o, p, key)
	used := o.Used()
	for _, no := range []uint64{0, s, h, sig, 6, 7, 8, 99, math.MaxUint64} {
		for _, with := range []uint64{key, 0, s} {
			if b, k := o.Wrap(no, with); b != nil || k != api.Unknown {
				t.Errorf("Wrap for %d of %d: % x, %d", no, with, b, k)
			}
		}
		if b, k := o.Wrap(p, no); b != nil || k != api.NoKey {
			t.Errorf("Wrap of %d: % x, %d", no, b, k)
		}
	}
	if b, k := o.Wrap(key, key); b != nil || k != api.Unknown {
		t.Errorf("Wrap for a key: % x, %d", b, k)
	}
	if b, k := o.Wrap(p, p); b != nil || k != api.NoKey {
		t.Errorf("Wrap of a public one: % x, %d", b, k)
	}
	if o.Used() != used {
		t.Errorf("Used %d, not %d", o.Used(), used)
	}
}

// P304: bytes that no Wrap answered are Malformed, ahead of a secret that is another one, which is NoKey.
func TestUnwrapKinds(t *testing.T) {
	o := New([]uint64{0x0100000000000000, 0x0200000000000001, 0x0300000000000001, 0x0400000000000001, 0x0500000000000001})
	key := o.Key()
	s, p := o.Pair()
	w := wraps(t, o, p, key)
	box := seals(t, o, key, nil, nil)
	other, otherPublic := o.Pair()
	h, sig := o.Hash(nil), signs(t, o, s, nil)
	wrong := [][]byte{nil, {}, {0}, make([]byte, 8), make([]byte, 16), w[:7], w[:8], w[:15], w[1:], w[8:], append(bytes.Clone(w), 0), box, box[:16]}
	for _, no := range []uint64{key, s, p, h, sig, 99} {
		wrong = append(wrong, form(no, 0), form(no, 8))
	}
	for i := range w {
		b := bytes.Clone(w)
		b[i] ^= 0x10
		wrong = append(wrong, b)
	}
	for _, b := range wrong {
		for _, with := range []uint64{s, other, 0} {
			if got, k := o.Unwrap(with, b); got != 0 || k != api.Malformed {
				t.Errorf("Unwrap of % x: %d, %d", b, got, k)
			}
		}
	}
	for _, with := range []uint64{0, p, other, otherPublic, key, 99, math.MaxUint64} {
		if got, k := o.Unwrap(with, w); got != 0 || k != api.NoKey {
			t.Errorf("Unwrap with %d: %d, %d", with, got, k)
		}
	}
}

// The chapter's word of nil: 0, nothing, false, Nil, ahead of every other kind.
func TestNil(t *testing.T) {
	var o *Oracle
	s, p := o.Pair()
	if o.Hash([]byte("a")) != 0 || o.Key() != 0 || s != 0 || p != 0 || o.Used() != 0 || o.Verify(0, nil, 0) {
		t.Error("nil hands something out")
	}
	if sig, k := o.Sign(1, nil); sig != 0 || k != api.Nil {
		t.Errorf("Sign: %d, %d", sig, k)
	}
	if b, k := o.Seal(1, nil, textOf(5000)); b != nil || k != api.Nil {
		t.Errorf("Seal: % x, %d", b, k)
	}
	if b, k := o.Open(1, nil, nil); b != nil || k != api.Nil {
		t.Errorf("Open: % x, %d", b, k)
	}
	if b, k := o.Wrap(1, 1); b != nil || k != api.Nil {
		t.Errorf("Wrap: % x, %d", b, k)
	}
	if key, k := o.Unwrap(1, nil); key != 0 || k != api.Nil {
		t.Errorf("Unwrap: %d, %d", key, k)
	}
}

// Rule 1: an oracle that New did not make is one of no draws; no call on it panics, whichever comes first.
func TestZeroOracle(t *testing.T) {
	var hashing, keying, pairing, asked Oracle
	if hashing.Hash(nil) != 1 || keying.Key() != 1 {
		t.Error("the first handle is not 1")
	}
	if s, p := pairing.Pair(); s != 1 || p != 2 {
		t.Errorf("Pair: %d, %d", s, p)
	}
	_, sign := asked.Sign(0, nil)
	_, seal := asked.Seal(0, nil, nil)
	_, open := asked.Open(0, nil, make([]byte, 24))
	_, wrap := asked.Wrap(0, 0)
	_, unwrap := asked.Unwrap(0, make([]byte, 16))
	got := []api.Kind{sign, seal, open, wrap, unwrap}
	if want := []api.Kind{api.NoKey, api.NoKey, api.Malformed, api.Unknown, api.Malformed}; !slices.Equal(got, want) {
		t.Errorf("%d, not %d", got, want)
	}
	if asked.Verify(0, nil, 0) || asked.Used() != 0 {
		t.Error("an oracle that handed out nothing verifies, or counts")
	}
}
