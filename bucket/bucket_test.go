package bucket

import (
	"bytes"
	"math"
	"testing"

	"cachette/api"
)

// sizes and rooms stand as the document has them, apart from the program's own rule.
func sizes() []int { return []int{16, 32, 64, 128, 256, 512, 1024} }
func rooms() []int { return []int{15, 31, 63, 127, 254, 510, 1022} }

// noClasses: numbers beside the classes, those among them whose shift would be great or below 0.
func noClasses() []int {
	return []int{-1, -2, -64, math.MinInt, 7, 8, 31, 60, 63, 64, 65, 1 << 20, math.MaxInt}
}

// formLen: of a text of n bytes, by the words of the document.
func formLen(n int) int {
	num := 1
	for rest := n >> 7; rest > 0; rest >>= 7 {
		num++
	}
	return num + n
}

// textOf: n bytes, none of them 0, so that none passes for padding.
func textOf(n int) []byte {
	b := make([]byte, n)
	for i := range b {
		b[i] = byte(i%255) + 1
	}
	return b
}

// P201: there are seven classes, each with its size.
func TestSizes(t *testing.T) {
	if got := Classes(); got != 7 {
		t.Fatalf("Classes: %d, not 7", got)
	}
	for class, want := range sizes() {
		if got := Size(class); got != want {
			t.Errorf("Size(%d): %d, not %d", class, got, want)
		}
	}
}

// P201: of no class the size is 0, and the room -1.
func TestNoClass(t *testing.T) {
	for _, class := range noClasses() {
		if got := Size(class); got != 0 {
			t.Errorf("Size(%d): %d, not 0", class, got)
		}
		if got := Room(class); got != -1 {
			t.Errorf("Room(%d): %d, not -1", class, got)
		}
	}
}

// P201: the room is the length of the longest text of the class: one byte more is of the next one, or of none.
func TestRooms(t *testing.T) {
	for class, want := range rooms() {
		got := Room(class)
		if got != want {
			t.Errorf("Room(%d): %d, not %d", class, got, want)
		}
		if in := Class(got); in != class {
			t.Errorf("Class(%d): %d, not %d", got, in, class)
		}
		next := class + 1
		if next == Classes() {
			next = -1
		}
		if in := Class(got + 1); in != next {
			t.Errorf("Class(%d): %d, not %d", got+1, in, next)
		}
	}
}

// P201: the class is the least whose size is not below the length of the form.
func TestClassIsTheLeast(t *testing.T) {
	for n := range 2100 {
		want := -1
		for class, size := range sizes() {
			if size >= formLen(n) {
				want = class
				break
			}
		}
		if got := Class(n); got != want {
			t.Errorf("Class(%d): %d, not %d", n, got, want)
		}
	}
}

// P201: the edges of each class, written out.
func TestClassEdges(t *testing.T) {
	for _, c := range []struct{ n, want int }{
		{0, 0}, {1, 0}, {15, 0}, {16, 1}, {31, 1}, {32, 2}, {63, 2}, {64, 3}, {127, 3}, {128, 4},
		{254, 4}, {255, 5}, {510, 5}, {511, 6}, {1022, 6}, {1023, -1}, {1024, -1},
	} {
		if got := Class(c.n); got != c.want {
			t.Errorf("Class(%d): %d, not %d", c.n, got, c.want)
		}
	}
}

// P201, rule 6: below 0 and far above there is no class, in the whole range of int.
func TestClassFarOff(t *testing.T) {
	for _, n := range []int{-1, -2, -16, math.MinInt32, math.MinInt, math.MinInt + 1, 1 << 16, math.MaxInt32, math.MaxInt - 10, math.MaxInt - 1, math.MaxInt} {
		if got := Class(n); got != -1 {
			t.Errorf("Class(%d): %d, not -1", n, got)
		}
	}
}

// P202: the document's example.
func TestPadExample(t *testing.T) {
	want := append([]byte{0x02, 0x61, 0x62}, make([]byte, 13)...)
	got, k := Pad([]byte("ab"))
	if k != api.OK || !bytes.Equal(got, want) {
		t.Errorf("Pad(ab): % x, %d, not % x, 0", got, k, want)
	}
	text, k := Unpad(want)
	if k != api.OK || string(text) != "ab" {
		t.Errorf("Unpad: %q, %d, not ab, 0", text, k)
	}
}

// P202: the form stands in front, in one or two bytes of a number and the text, and bytes 0 up to the size.
func TestPadParts(t *testing.T) {
	for n := range 1023 {
		text := textOf(n)
		got, k := Pad(text)
		if k != api.OK || len(got) != sizes()[Class(n)] {
			t.Fatalf("Pad of %d bytes: %d bytes, %d", n, len(got), k)
		}
		form := formLen(n)
		if !bytes.Equal(got[form-n:form], text) {
			t.Errorf("Pad of %d bytes: the text does not stand behind the number", n)
		}
		if len(bytes.Trim(got[form:], "\x00")) > 0 {
			t.Errorf("Pad of %d bytes: another byte than 0 behind the form", n)
		}
	}
}

// P202: the number ahead of the text, where it begins to take two bytes and at its greatest.
func TestPadNumber(t *testing.T) {
	for _, c := range []struct {
		n    int
		want []byte
	}{
		{0, []byte{0}}, {1, []byte{1}}, {127, []byte{0x7f}}, {128, []byte{0x80, 1}}, {1022, []byte{0xfe, 7}},
	} {
		got, _ := Pad(textOf(c.n))
		if !bytes.HasPrefix(got, c.want) {
			t.Errorf("Pad of %d bytes begins with % x, not with % x", c.n, got[:2], c.want)
		}
	}
}

// P202: a text of no class is TooLarge, and nothing else is told.
func TestPadTooLarge(t *testing.T) {
	for _, n := range []int{1023, 1024, 1025, 5000, 1 << 20} {
		got, k := Pad(make([]byte, n))
		if k != api.TooLarge || len(got) != 0 {
			t.Errorf("Pad of %d bytes: %d bytes, %d, not 0, 3", n, len(got), k)
		}
	}
}

// P202: nil and an empty text pad alike, and come back as one without a byte.
func TestPadNothing(t *testing.T) {
	for _, b := range [][]byte{nil, {}} {
		got, k := Pad(b)
		if k != api.OK || !bytes.Equal(got, make([]byte, 16)) {
			t.Errorf("Pad of nothing: % x, %d", got, k)
		}
		text, k := Unpad(got)
		if k != api.OK || len(text) != 0 {
			t.Errorf("Unpad of sixteen bytes 0: % x, %d", text, k)
		}
	}
}

// padded: b, and bytes 0 up to size.
func padded(size int, b ...byte) []byte {
	return append(b, make([]byte, size-len(b))...)
}

// P202: what is no text's Pad is Malformed, and nothing else is told.
func TestUnpadMalformed(t *testing.T) {
	for what, b := range map[string][]byte{
		"nil":                               nil,
		"empty":                             {},
		"one byte 0":                        {0},
		"the form alone":                    {2, 'a', 'b'},
		"a byte short":                      padded(15, 2, 'a', 'b'),
		"a byte long":                       padded(17, 2, 'a', 'b'),
		"a class above":                     padded(32, 2, 'a', 'b'),
		"the greatest class":                padded(1024, 2, 'a', 'b'),
		"zeros of a class above":            padded(32),
		"no class":                          padded(48, 2, 'a', 'b'),
		"above all classes":                 padded(2048, 2, 'a', 'b'),
		"a byte behind the form":            padded(16, 2, 'a', 'b', 1),
		"another last byte":                 append(padded(15, 2, 'a', 'b'), 1),
		"another last byte behind nothing":  append(padded(15), 0x80),
		"more bytes than there are":         padded(16, 16, 'a'),
		"far more bytes than there are":     padded(16, 0xff, 0xff, 0xff, 0xff, 0xff, 0xff, 0xff, 0xff, 0xff, 1),
		"a number in a second form":         padded(16, 0x82, 0, 'a', 'b'),
		"the number 0 in a second form":     padded(16, 0x80, 0),
		"a number beyond 64 bits":           padded(16, 0xff, 0xff, 0xff, 0xff, 0xff, 0xff, 0xff, 0xff, 0xff, 2),
		"a number that does not end":        bytes.Repeat([]byte{0x80}, 16),
		"a text of no class":                append([]byte{0xff, 7}, textOf(1023)...),
		"a text of no class, of a size":     padded(2048, 0xff, 7),
		"a text that a class below has too": append([]byte{15}, padded(31, textOf(15)...)...),
	} {
		text, k := Unpad(b)
		if k != api.Malformed || len(text) != 0 {
			t.Errorf("%s: % x, %d, not nothing, 4", what, text, k)
		}
	}
}

// P202: of a padded text every shorter and longer beginning, and every other byte of the padding, is Malformed.
func TestUnpadChanged(t *testing.T) {
	for _, n := range []int{0, 1, 14, 15, 16, 31, 32, 127, 128, 254, 255, 1022} {
		p, _ := Pad(textOf(n))
		for cut := range len(p) {
			if _, k := Unpad(p[:cut]); k != api.Malformed {
				t.Errorf("%d of the %d bytes of a text of %d: %d, not 4", cut, len(p), n, k)
			}
		}
		if _, k := Unpad(append(p, 0)); k != api.Malformed {
			t.Errorf("a byte more than the %d bytes of a text of %d: %d, not 4", len(p), n, k)
		}
		for at := formLen(n); at < len(p); at++ {
			other := bytes.Clone(p)
			other[at] = 1
			if _, k := Unpad(other); k != api.Malformed {
				t.Errorf("byte %d of the padding of a text of %d is 1: %d, not 4", at, n, k)
			}
		}
	}
}

// P203: texts of one class are alike, those of two are not, and those of none are.
func TestAlike(t *testing.T) {
	lengths := []int{0, 1, 15, 16, 31, 32, 63, 64, 127, 128, 254, 255, 510, 511, 1022, 1023, 4000}
	classOf := []int{0, 0, 0, 1, 1, 2, 2, 3, 3, 4, 4, 5, 5, 6, 6, -1, -1}
	for i, n := range lengths {
		for j, m := range lengths {
			want := classOf[i] == classOf[j]
			if got := Alike(textOf(n), make([]byte, m)); got != want {
				t.Errorf("Alike of %d and %d bytes: %t, not %t", n, m, got, want)
			}
		}
	}
	if !Alike(nil, []byte{}) || !Alike(nil, nil) || Alike(nil, make([]byte, 16)) {
		t.Error("nil is not alike to what an empty text is alike to")
	}
}
