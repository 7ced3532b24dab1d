package vector

import (
	"bytes"
	"math"
	"slices"
	"testing"

	"cachette/api"
	"cachette/wire"
)

// form: the numbers, each as wire has it.
func form(l ...uint64) []byte {
	var b []byte
	for _, n := range l {
		b = wire.Num(b, n)
	}
	return b
}

// P504: how many heads, and of each Writer, Len and Sum.
func TestBytes(t *testing.T) {
	for _, c := range []struct {
		v    Vector
		want []byte
	}{
		{nil, []byte{0}},
		{Vector{}, []byte{0}},
		{Vector{hd(0, 2, 5)}, []byte{1, 0, 2, 5}},
		{Vector{hd(7, api.MaxLog, 300)}, []byte{1, 7, 0xC8, 0x01, 0xAC, 0x02}},
		{Vector{hd(1, 1, 6), hd(3, 127, math.MaxUint64)}, form(2, 1, 1, 6, 3, 127, math.MaxUint64)},
	} {
		if got, k := Bytes(c.v); k != api.OK || !bytes.Equal(got, c.want) {
			t.Errorf("Bytes of %v: % X, %d, not % X", c.v, got, k, c.want)
		}
	}
}

// P504: BadArg, and nothing, of a vector that is not right.
func TestBytesWrong(t *testing.T) {
	for _, v := range wrongVectors() {
		if got, k := Bytes(v); k != api.BadArg || len(got) != 0 {
			t.Errorf("Bytes of %v: % X, %d", v, got, k)
		}
	}
}

// P504: every right vector comes back.
func TestReadBytes(t *testing.T) {
	for _, v := range rightVectors() {
		b, _ := Bytes(v)
		if got, k := Read(b); k != api.OK || !slices.Equal(got, v) {
			t.Errorf("Read of % X: %v, %d, not %v", b, got, k, v)
		}
	}
}

// nine: the form of nine heads, each a right one but the last.
func nine() []byte {
	b := form(9)
	for w := range uint64(9) {
		b = append(b, form(w, 1, 1)...)
	}
	return b
}

// P504: TooLarge, also where something else is wrong: more heads than there are members, a Writer or a Len above its greatest.
func TestReadTooLarge(t *testing.T) {
	for what, b := range map[string][]byte{
		"nine heads":                               nine(),
		"nine heads, and none is there":            form(9),
		"the most heads that a number can tell":    form(math.MaxUint64, 0, 1, 1),
		"a Writer one above":                       form(1, 8, 1, 1),
		"a Writer far above":                       form(1, math.MaxUint64, 1, 1),
		"a Writer above, beyond 32 bits":           form(1, 1<<32, 1, 1),
		"a Writer above, and no more":              form(1, 8),
		"a Writer above behind a right head":       form(2, 0, 1, 1, 8, 1, 1),
		"a Len one above":                          form(1, 0, 201, 1),
		"a Len far above":                          form(1, 0, math.MaxUint64, 1),
		"a Len above, beyond 32 bits":              form(1, 0, 1<<32+1, 1),
		"a Len above, and no more":                 form(1, 0, 201),
		"a Len above, and Sum 0":                   form(1, 0, 201, 0),
		"a Len above behind a Len 0":               form(2, 0, 0, 1, 1, 201, 1),
		"a Len above behind a Sum 0":               form(2, 0, 1, 0, 1, 201, 1),
		"a Len above of a writer named twice":      form(2, 0, 1, 1, 0, 201, 1),
		"a Len above of a writer that comes early": form(2, 3, 1, 1, 0, 201, 1),
		"a Len above, and a byte more":             form(1, 0, 201, 1, 0),
	} {
		if got, k := Read(b); k != api.TooLarge || len(got) != 0 {
			t.Errorf("%s: %v, %d", what, got, k)
		}
	}
}

// P504: Malformed: bytes that are no right vector's, though nothing in them is too large.
func TestReadMalformed(t *testing.T) {
	for what, b := range map[string][]byte{
		"nothing":                        nil,
		"an empty list":                  {},
		"a number that does not end":     {0x80},
		"how many in a second form":      {0x80, 0},
		"a byte behind no head":          {0, 0},
		"a byte behind a head":           form(1, 0, 1, 1, 0),
		"a head more than told":          form(1, 0, 1, 1, 1, 1, 1),
		"a head less than told":          form(2, 0, 1, 1),
		"no Writer":                      form(1),
		"no Len":                         form(1, 0),
		"no Sum":                         form(1, 0, 1),
		"Len 0":                          form(1, 0, 0, 5),
		"Sum 0":                          form(1, 0, 1, 0),
		"the zero head":                  form(1, 0, 0, 0),
		"a Len 0 behind a right head":    form(2, 0, 1, 1, 1, 0, 1),
		"a writer twice":                 form(2, 1, 1, 1, 1, 1, 1),
		"writers that fall":              form(2, 1, 1, 1, 0, 1, 1),
		"a Writer in a second form":      {1, 0x80, 0, 1, 1},
		"a Len in a second form":         {1, 0, 0x81, 0, 1},
		"a Sum in a second form":         {1, 0, 1, 0x81, 0},
		"a Sum beyond 64 bits":           append([]byte{1, 0, 1}, append(bytes.Repeat([]byte{0xFF}, 9), 2)...),
		"a second form ahead of an 8":    {2, 0, 1, 0x81, 0, 8, 1, 1},
		"eight heads of which two alike": append(form(8, 0, 1, 1, 1, 1, 1, 2, 1, 1, 3, 1, 1, 4, 1, 1, 5, 1, 1, 6, 1, 1), form(6, 1, 1)...),
	} {
		if got, k := Read(b); k != api.Malformed || len(got) != 0 {
			t.Errorf("%s: %v, %d", what, got, k)
		}
	}
}

// P504: of a right vector's Bytes that end early, or go on, none is one.
func TestReadCutOrLonger(t *testing.T) {
	for _, v := range rightVectors() {
		b, _ := Bytes(v)
		for n := range b {
			if got, k := Read(b[:n]); k != api.Malformed || len(got) != 0 {
				t.Errorf("% X: %v, %d", b[:n], got, k)
			}
		}
		for c := range 256 {
			longer := append(bytes.Clone(b), byte(c))
			if got, k := Read(longer); k != api.Malformed || len(got) != 0 {
				t.Errorf("% X: %v, %d", longer, got, k)
			}
		}
	}
}

// isOneForm: Read either answers a right vector whose Bytes are b, or a kind and nothing.
func isOneForm(t *testing.T, b []byte) {
	t.Helper()
	v, k := Read(b)
	if k == api.OK {
		if again, j := Bytes(v); j != api.OK || !bytes.Equal(again, b) {
			t.Errorf("% X is read as %v, whose Bytes are % X, %d", b, v, again, j)
		}
		return
	}
	if k != api.TooLarge && k != api.Malformed || len(v) != 0 {
		t.Errorf("% X: %v, %d", b, v, k)
	}
}

// P504: what was read has no other form, whichever byte of one is another.
func TestReadHasOneForm(t *testing.T) {
	for _, v := range rightVectors() {
		b, _ := Bytes(v)
		for i := range b {
			for c := range 256 {
				odd := bytes.Clone(b)
				odd[i] = byte(c)
				isOneForm(t, odd)
			}
		}
	}
}

// P504: whatever bytes come.
func FuzzRead(f *testing.F) {
	for _, v := range rightVectors() {
		b, _ := Bytes(v)
		f.Add(b)
	}
	f.Fuzz(isOneForm)
}
