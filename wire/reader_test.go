package wire_test

import (
	"bytes"
	"math"
	"strings"
	"testing"

	"cachette/api"
	"cachette/wire"
)

// isWrong: the reader has that kind, and is as the document says of one where something is wrong, whatever is asked of it.
func isWrong(t *testing.T, what string, r *wire.Reader, want api.Kind) {
	t.Helper()
	for range 2 {
		if got := r.Done(); got != want {
			t.Errorf("%s: Done %d, not %d", what, got, want)
		}
		if n := r.Left(); n != 0 {
			t.Errorf("%s: Left %d, not 0", what, n)
		}
		if n := r.Num(); n != 0 {
			t.Errorf("%s: then Num %d", what, n)
		}
		if n := r.Int(); n != 0 {
			t.Errorf("%s: then Int %d", what, n)
		}
		if n := r.Count(9) + r.Count(0) + r.Count(-1); n != 0 {
			t.Errorf("%s: then Count %d", what, n)
		}
		if n := len(r.Bytes(9)) + len(r.Bytes(0)) + len(r.Bytes(-1)); n != 0 {
			t.Errorf("%s: then Bytes, %d", what, n)
		}
		if s := r.Text(9) + r.Text(0) + r.Text(-1); s != "" {
			t.Errorf("%s: then Text %q", what, s)
		}
		if r.Bool() {
			t.Errorf("%s: then Bool true", what)
		}
	}
}

// P102: each call takes one form, in order.
func TestReadInOrder(t *testing.T) {
	b := wire.Num(nil, 300)
	b = wire.Int(b, -5)
	b = wire.Num(b, 8)
	b = wire.Bytes(b, []byte("abc"))
	b = wire.Text(b, "dé")
	b = wire.Bool(b, true)
	b = wire.Bool(b, false)
	r := wire.Read(b)
	if n := r.Num(); n != 300 {
		t.Errorf("Num: %d", n)
	}
	if n := r.Int(); n != -5 {
		t.Errorf("Int: %d", n)
	}
	if n := r.Count(8); n != 8 {
		t.Errorf("Count: %d", n)
	}
	if x := r.Bytes(3); string(x) != "abc" {
		t.Errorf("Bytes: %q", x)
	}
	if s := r.Text(3); s != "dé" {
		t.Errorf("Text: %q", s)
	}
	if !r.Bool() || r.Bool() {
		t.Error("Bool: not true, false")
	}
	if n, k := r.Left(), r.Done(); n != 0 || k != api.OK {
		t.Errorf("at the end: Left %d, Done %d", n, k)
	}
}

// P102: bytes at whose begin no number's form stands, for all calls that take one.
func TestReadMalformedNumbers(t *testing.T) {
	nine := strings.Repeat("\xFF", 9)
	for _, b := range []string{
		"",
		"\x80",
		"\xFF\xFF",
		nine,
		"\x80\x00",
		"\x81\x00",
		"\x80\x80\x00",
		nine + "\x00",
		nine + "\x02",
		nine + "\x03",
		nine + "\x7F",
		nine + "\x80",
		nine + "\x81",
		nine + "\x80\x00",
		nine + "\x81\x01",
		nine + "\xFF\xFF\xFF",
		strings.Repeat("\x80", 10) + "\x01",
	} {
		for call := range takes(0) {
			fails(t, call, math.MaxInt, b, api.Malformed)
		}
	}
}

// takes are the calls that take a form; each tells whether it answered nothing: 0, no bytes, "", false.
func takes(most int) map[string]func(r *wire.Reader) bool {
	return map[string]func(r *wire.Reader) bool{
		"Num":   func(r *wire.Reader) bool { return r.Num() == 0 },
		"Int":   func(r *wire.Reader) bool { return r.Int() == 0 },
		"Count": func(r *wire.Reader) bool { return r.Count(most) == 0 },
		"Bytes": func(r *wire.Reader) bool { return len(r.Bytes(most)) == 0 },
		"Text":  func(r *wire.Reader) bool { return r.Text(most) == "" },
		"Bool":  func(r *wire.Reader) bool { return !r.Bool() },
	}
}

// fails: that call of a new reader of b answers nothing, and the reader has that kind from then on.
func fails(t *testing.T, call string, most int, b string, want api.Kind) {
	t.Helper()
	r := wire.Read([]byte(b))
	what := call + " of " + hex(b)
	if !takes(most)[call](r) {
		t.Errorf("%s: it answered something", what)
	}
	isWrong(t, what, r, want)
}

func hex(b string) string {
	const digits = "0123456789ABCDEF"
	var s strings.Builder
	for i := range len(b) {
		s.WriteByte(digits[b[i]>>4])
		s.WriteByte(digits[b[i]&15])
	}
	return "<" + s.String() + ">"
}

// P102: a tenth byte, whatever it is.
func TestReadLongNumbers(t *testing.T) {
	for last := range 256 {
		r := wire.Read(append(bytes.Repeat([]byte{0xFF}, 9), byte(last)))
		n := r.Num()
		if last == 1 {
			if n != math.MaxUint64 || r.Done() != api.OK {
				t.Errorf("ten bytes, the last 1: %d, Done %d", n, r.Done())
			}
			continue
		}
		isWrong(t, "a tenth byte "+hex(string([]byte{byte(last)})), r, api.Malformed)
	}
	r := wire.Read(append(bytes.Repeat([]byte{0x80}, 8), 1))
	if n := r.Num(); n != 1<<56 || r.Done() != api.OK {
		t.Errorf("nine bytes: %d, Done %d", n, r.Done())
	}
}

// P102: a Bool is a byte 0 or 1, and no other one.
func TestReadBools(t *testing.T) {
	for c := range 256 {
		r := wire.Read([]byte{byte(c), 1})
		is := r.Bool()
		if c > 1 {
			isWrong(t, "Bool of "+hex(string([]byte{byte(c)})), r, api.Malformed)
			continue
		}
		if is != (c == 1) || r.Left() != 1 {
			t.Errorf("Bool of %d: %v, Left %d", c, is, r.Left())
		}
	}
}

// P102: fewer bytes than there must be, however many that is.
func TestReadBytesThatEndTooEarly(t *testing.T) {
	for _, b := range []string{
		"\x01",
		"\x02a",
		"\xC8\x01" + strings.Repeat("x", 199),
		string(wire.Num(nil, math.MaxInt64)) + "abc",
		string(wire.Num(nil, 1<<63)) + "abc",
		string(wire.Num(nil, math.MaxUint64)) + "abc",
	} {
		fails(t, "Bytes", math.MaxInt, b, api.Malformed)
		fails(t, "Text", math.MaxInt, b, api.Malformed)
	}
}

// P102: one more than is allowed, or none allowed.
func TestReadTooLarge(t *testing.T) {
	for _, c := range []struct {
		n    uint64
		most int
	}{
		{9, 8}, {1, 0}, {0, -1}, {5, -1}, {0, math.MinInt}, {200, 199},
		{1 << 63, math.MaxInt}, {math.MaxUint64, math.MaxInt}, {math.MaxUint64, -1},
	} {
		fails(t, "Count", c.most, string(wire.Num(nil, c.n))+"\x05", api.TooLarge)
		if c.n > 200 {
			continue
		}
		form := string(wire.Bytes(nil, make([]byte, c.n))) + "\x05"
		fails(t, "Bytes", c.most, form, api.TooLarge)
		fails(t, "Text", c.most, form, api.TooLarge)
	}
}

// P102: just as many as are allowed.
func TestReadAtMost(t *testing.T) {
	for _, n := range []int{0, 1, 8, 127, 128, 200} {
		r := wire.Read(wire.Num(nil, uint64(n)))
		if got := r.Count(n); got != n || r.Done() != api.OK {
			t.Errorf("Count of at most %d: %d, Done %d", n, got, r.Done())
		}
		r = wire.Read(wire.Text(nil, strings.Repeat("x", n)))
		if got := r.Text(n); len(got) != n || r.Done() != api.OK {
			t.Errorf("Text of at most %d: %d bytes, Done %d", n, len(got), r.Done())
		}
		r = wire.Read(wire.Bytes(nil, make([]byte, n)))
		if got := r.Bytes(n); len(got) != n || r.Done() != api.OK {
			t.Errorf("Bytes of at most %d: %d bytes, Done %d", n, len(got), r.Done())
		}
	}
	r := wire.Read(wire.Num(nil, math.MaxInt))
	if got := r.Count(math.MaxInt); got != math.MaxInt || r.Done() != api.OK {
		t.Errorf("Count of the greatest number: %d, Done %d", got, r.Done())
	}
}

// Rule 2: where no form stands, and there would be more than most, Malformed is named first.
func TestMalformedAheadOfTooLarge(t *testing.T) {
	for _, b := range []string{"", "\x80", "\x80\x00"} {
		fails(t, "Count", -1, b, api.Malformed)
	}
	for _, b := range []string{"", "\x80", "\x09a"} {
		for _, most := range []int{-1, 0, 8} {
			fails(t, "Bytes", most, b, api.Malformed)
			fails(t, "Text", most, b, api.Malformed)
		}
	}
}

// P102: the first wrong thing stays, of either kind, behind forms that were right too.
func TestFirstWrongStays(t *testing.T) {
	r := wire.Read([]byte{1, 9, 1, 2, 3})
	r.Num()
	r.Count(8)
	isWrong(t, "TooLarge first", r, api.TooLarge)
	r = wire.Read([]byte{1, 2, 1, 2, 3})
	r.Num()
	r.Bool()
	r.Count(-1)
	isWrong(t, "Malformed first", r, api.Malformed)
}

// P102: nil is as one that is Malformed; a reader of no bytes is not.
func TestNilAndEmptyReaders(t *testing.T) {
	isWrong(t, "nil", nil, api.Malformed)
	for what, r := range map[string]*wire.Reader{"none": wire.Read(nil), "an empty list": wire.Read([]byte{})} {
		if r.Left() != 0 || r.Done() != api.OK {
			t.Errorf("a reader of %s: Left %d, Done %d", what, r.Left(), r.Done())
		}
		r.Num()
		isWrong(t, "Num of "+what, r, api.Malformed)
	}
}

// Rule 4: a reader keeps its bytes apart, and so does the one who gets some of them.
func TestReaderSharesNothing(t *testing.T) {
	b := []byte{2, 'a', 'b', 2, 'c', 'd'}
	r := wire.Read(b)
	for i := range b {
		b[i] = 9
	}
	x := r.Bytes(9)
	if string(x) != "ab" {
		t.Fatalf("the reader has changed with its bytes: %q", x)
	}
	whole := x[:cap(x)]
	for i := range whole {
		whole[i] = 7
	}
	if s := r.Text(9); s != "cd" {
		t.Errorf("the reader has changed with its answer: %q", s)
	}
	if !bytes.Equal(b, bytes.Repeat([]byte{9}, 6)) {
		t.Errorf("what was handed in has changed: % X", b)
	}
	r = wire.Read([]byte{1, 'a'})
	twin := *r
	r.Bytes(1)[0] = 'z'
	if s := twin.Text(1); s != "a" {
		t.Errorf("an answer shares what the reader has: %q", s)
	}
	b = []byte{1, 'a'}
	wire.Read(b).Bytes(1)[0] = 'z'
	if string(b) != "\x01a" {
		t.Errorf("an answer shares what was handed in: %q", b)
	}
}

// P103: Left counts down; Done tells of bytes that are left, and changes nothing by telling it.
func TestLeftAndDone(t *testing.T) {
	r := wire.Read([]byte{0xAC, 2, 1, 'a', 1})
	for _, c := range []struct {
		left int
		done api.Kind
		take func()
	}{
		{5, api.Malformed, func() { r.Num() }},
		{3, api.Malformed, func() { r.Text(1) }},
		{1, api.Malformed, func() { r.Bool() }},
		{0, api.OK, func() { r.Bool() }},
		{0, api.Malformed, func() {}},
	} {
		for range 2 {
			if n, k := r.Left(), r.Done(); n != c.left || k != c.done {
				t.Errorf("Left %d, Done %d, not %d, %d", n, k, c.left, c.done)
			}
		}
		c.take()
	}
	r = wire.Read([]byte{9, 1, 1, 1})
	r.Count(8)
	if n, k := r.Left(), r.Done(); n != 0 || k != api.TooLarge {
		t.Errorf("TooLarge with bytes left: Left %d, Done %d", n, k)
	}
}
