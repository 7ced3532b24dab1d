package bucket

import (
	"bytes"
	"testing"

	"cachette/api"
)

// P204: what is padded comes back, whatever its bytes.
func TestComesBack(t *testing.T) {
	for n := range 1023 {
		for _, text := range [][]byte{textOf(n), make([]byte, n), bytes.Repeat([]byte{0xff}, n)} {
			p, k := Pad(text)
			if k != api.OK {
				t.Fatalf("Pad of %d bytes: %d", n, k)
			}
			back, k := Unpad(p)
			if k != api.OK || !bytes.Equal(back, text) {
				t.Errorf("a text of %d bytes comes back as one of %d, %d", n, len(back), k)
			}
		}
	}
}

// P204: of texts that are alike the padded ones are equally long; of others they are not.
func TestAlikeIsEquallyLong(t *testing.T) {
	lengths := []int{0, 1, 7, 15, 16, 20, 31, 32, 63, 64, 127, 128, 254, 255, 510, 511, 1022}
	for _, n := range lengths {
		for _, m := range lengths {
			a, b := textOf(n), textOf(m)
			p, _ := Pad(a)
			q, _ := Pad(b)
			if Alike(a, b) != (len(p) == len(q)) {
				t.Errorf("texts of %d and %d bytes: alike %t, padded to %d and %d", n, m, Alike(a, b), len(p), len(q))
			}
		}
	}
}

// P204: what Unpad takes has no other form: padding its text again gives the same bytes.
func FuzzUnpad(f *testing.F) {
	for n := range 40 {
		p, _ := Pad(textOf(n))
		f.Add(p)
		f.Add(p[:len(p)-1])
	}
	f.Fuzz(func(t *testing.T, b []byte) {
		text, k := Unpad(b)
		if k != api.OK {
			if k != api.Malformed || len(text) != 0 {
				t.Fatalf("% x: % x, %d", b, text, k)
			}
			return
		}
		again, k := Pad(text)
		if k != api.OK || !bytes.Equal(again, b) {
			t.Fatalf("% x is taken, but its text pads to % x", b, again)
		}
	})
}

// roomy: a copy of b with spare room, filled so that a write into it is seen.
func roomy(b []byte) []byte {
	whole := append(bytes.Clone(b), bytes.Repeat([]byte{0xee}, 2048)...)
	return whole[:len(b)]
}

// Rule 4: what is handed in is not changed, its spare room neither.
func TestLeavesWhatIsHandedIn(t *testing.T) {
	for _, n := range []int{0, 2, 15, 16, 1022, 1023} {
		in := roomy(textOf(n))
		before := bytes.Clone(in[:cap(in)])
		p, _ := Pad(in)
		Unpad(in)
		Alike(in, in)
		if !bytes.Equal(in[:cap(in)], before) {
			t.Errorf("a text of %d bytes, or its spare room, was changed", n)
		}
		padIn := roomy(p)
		before = bytes.Clone(padIn[:cap(padIn)])
		Unpad(padIn)
		if !bytes.Equal(padIn[:cap(padIn)], before) {
			t.Errorf("the padded text of %d bytes, or its spare room, was changed", n)
		}
	}
}

// Rule 4: what is handed out is new memory, its spare room too.
func TestHandsOutNewMemory(t *testing.T) {
	for _, n := range []int{1, 15, 16, 1022} {
		text := textOf(n)
		p, _ := Pad(text)
		kept := bytes.Clone(p)
		back, _ := Unpad(p)
		scribble(back)
		if !bytes.Equal(p, kept) {
			t.Errorf("what Unpad answers shares memory with a padded text of %d bytes", n)
		}
		scribble(p)
		if !bytes.Equal(text, textOf(n)) {
			t.Errorf("what Pad answers shares memory with a text of %d bytes", n)
		}
		if again, _ := Pad(text); !bytes.Equal(again, kept) {
			t.Errorf("two answers of Pad of %d bytes share memory", n)
		}
	}
}

// scribble writes over b and all of its spare room.
func scribble(b []byte) {
	b = b[:cap(b)]
	for i := range b {
		b[i] = 0xaa
	}
}
