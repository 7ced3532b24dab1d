package vector

import (
	"bytes"
	"slices"
	"testing"

	"cachette/api"
)

// small: all vectors of three writers, the first, a middle one and the last, with Lens from 0 to 2; a log of honest writers has one Sum for each Len.
func small() []Vector {
	var l []Vector
	for n := range 27 {
		var v Vector
		for i, w := range []int{0, 4, 7} {
			length := n / []int{1, 3, 9}[i] % 3
			if length > 0 {
				v = append(v, hd(w, length, uint64(10*w+length)))
			}
		}
		l = append(l, v)
	}
	return l
}

// atLeast: none of a's Lens is below b's.
func atLeast(a, b Vector) bool {
	c := Compare(a, b)
	return c == 0 || c == 1
}

// P505: Merge is not below both, and of all that are not it is the least.
func TestMergeIsLeast(t *testing.T) {
	all := small()
	for _, a := range all {
		for _, b := range all {
			m, k := Merge(a, b)
			if k != api.OK || !Right(m) || !atLeast(m, a) || !atLeast(m, b) {
				t.Fatalf("Merge of %v and %v: %v, %d", a, b, m, k)
			}
			for _, c := range all {
				if atLeast(c, a) && atLeast(c, b) && !atLeast(c, m) {
					t.Errorf("Merge of %v and %v: %v, but %v is enough", a, b, m, c)
				}
			}
		}
	}
}

// P505: each head of Merge is one of the two vectors', so that it tells nothing that neither knew.
func TestMergeTellsNothingNew(t *testing.T) {
	for _, a := range small() {
		for _, b := range small() {
			m, _ := Merge(a, b)
			for _, h := range m {
				if !slices.Contains(a, h) && !slices.Contains(b, h) {
					t.Errorf("Merge of %v and %v has %v", a, b, h)
				}
			}
		}
	}
}

// P505: whatever order vectors are merged in, the answer is one; a vector with itself, or with none, is itself.
func TestMergeWhateverOrder(t *testing.T) {
	all := small()
	for _, a := range all {
		for _, same := range []Vector{a, nil} {
			if m, k := Merge(a, same); k != api.OK || !slices.Equal(m, a) {
				t.Errorf("Merge of %v and %v: %v, %d", a, same, m, k)
			}
		}
		for _, b := range all {
			ab, _ := Merge(a, b)
			if ba, _ := Merge(b, a); !slices.Equal(ab, ba) {
				t.Errorf("Merge of %v and %v: %v, and %v the other way", a, b, ab, ba)
			}
			for _, c := range all {
				bc, _ := Merge(b, c)
				left, _ := Merge(ab, c)
				right, _ := Merge(a, bc)
				if !slices.Equal(left, right) {
					t.Errorf("Merge of %v, %v and %v: %v, or %v", a, b, c, left, right)
				}
			}
		}
	}
}

// P505: what is Missing, put into what is there, makes the Merge; nothing is Missing where want is not above.
func TestMissingMakesMerge(t *testing.T) {
	for _, a := range small() {
		for _, b := range small() {
			got, miss := a, Missing(a, b)
			for _, h := range miss {
				got, _ = Put(got, h)
			}
			if m, _ := Merge(a, b); !slices.Equal(got, m) {
				t.Errorf("%v with %v: %v, not %v", a, miss, got, m)
			}
			if (len(miss) == 0) != atLeast(a, b) {
				t.Errorf("%v and %v: Missing %v, Compare %d", a, b, miss, Compare(a, b))
			}
		}
	}
}

// full: v with spare room behind it that has something in it.
func full(v Vector) Vector {
	return append(slices.Clone(v), hd(99, 99, 99), hd(98, 98, 98))[:len(v)]
}

// calls: what each call that answers a list answers of a and b, in a form that can be written over.
func calls(a, b Vector) []Vector {
	put, _ := Put(a, hd(2, 3, 4))
	over, _ := Put(a, hd(0, 3, 4))
	m, _ := Merge(a, b)
	return []Vector{put, over, m, Missing(a, b), Missing(nil, b)}
}

// Rule 4: what is handed in is not changed, its spare room neither, and what is handed out is new memory.
func TestSharesNothing(t *testing.T) {
	for _, pair := range [][2]Vector{
		{{hd(0, 2, 5), hd(4, 1, 1)}, {hd(1, 1, 6), hd(4, 2, 2)}},
		{{hd(0, 2, 5)}, nil},
		{nil, {hd(1, 1, 6)}},
		{whole()[1:], whole()},
	} {
		a, b := full(pair[0]), full(pair[1])
		first := calls(a, b)
		want := calls(slices.Clone(pair[0]), slices.Clone(pair[1]))
		for i, out := range first {
			if !slices.Equal(out, want[i]) {
				t.Errorf("call %d of %v and %v: %v, not %v", i, a, b, out, want[i])
			}
			out = out[:cap(out)]
			for j := range out {
				out[j] = hd(55, 55, 55)
			}
		}
		if !slices.Equal(a, pair[0]) || !slices.Equal(b, pair[1]) {
			t.Errorf("the vectors became %v and %v", a, b)
		}
		for _, v := range []Vector{a, b} {
			if spare := v[len(v) : len(v)+2]; spare[0] != hd(99, 99, 99) || spare[1] != hd(98, 98, 98) {
				t.Errorf("the spare room became %v", spare)
			}
		}
		if again := calls(a, b); !slices.EqualFunc(again, want, slices.Equal[Vector]) {
			t.Errorf("the answers became %v", again)
		}
	}
}

// Rule 4: bytes that are read are not changed, and not kept.
func TestReadKeepsNothing(t *testing.T) {
	b := []byte{1, 0, 2, 5, 0xEE, 0xEE}
	v, _ := Read(b[:4])
	if !bytes.Equal(b, []byte{1, 0, 2, 5, 0xEE, 0xEE}) {
		t.Errorf("the bytes became % X", b)
	}
	clear(b)
	if !slices.Equal(v, Vector{hd(0, 2, 5)}) {
		t.Errorf("the vector became %v", v)
	}
}
