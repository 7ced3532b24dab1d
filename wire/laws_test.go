package wire_test

import (
	"bytes"
	"math"
	"testing"

	"cachette/api"
	"cachette/wire"
)

// numbers are those around each power of two, and around the least and the greatest.
func numbers() []uint64 {
	l := []uint64{0, 1, 2, 300, math.MaxUint64 - 1, math.MaxUint64}
	for i := range 64 {
		p := uint64(1) << i
		l = append(l, p-1, p, p+1, ^p, ^p+1)
	}
	return l
}

// P104: what was put is taken as it was.
func TestPutIsTaken(t *testing.T) {
	for _, n := range numbers() {
		r := wire.Read(wire.Num(nil, n))
		if got := r.Num(); got != n || r.Done() != api.OK {
			t.Errorf("Num %d: %d, Done %d", n, got, r.Done())
		}
		i := int64(n)
		r = wire.Read(wire.Int(nil, i))
		if got := r.Int(); got != i || r.Done() != api.OK {
			t.Errorf("Int %d: %d, Done %d", i, got, r.Done())
		}
	}
	for n := range 300 {
		x := bytes.Repeat([]byte{byte(n)}, n)
		r := wire.Read(wire.Text(wire.Bytes(nil, x), string(x)))
		a, b := r.Bytes(n), r.Text(n)
		if !bytes.Equal(a, x) || b != string(x) || r.Done() != api.OK {
			t.Errorf("%d bytes: %d, %d, Done %d", n, len(a), len(b), r.Done())
		}
	}
	for _, is := range []bool{false, true} {
		r := wire.Read(wire.Bool(nil, is))
		if got := r.Bool(); got != is || r.Done() != api.OK {
			t.Errorf("Bool %v: %v, Done %d", is, got, r.Done())
		}
	}
}

// again takes a form from b by each call, and puts what was taken behind nothing.
func again(b []byte) map[string]func(r *wire.Reader) []byte {
	most := len(b)
	return map[string]func(r *wire.Reader) []byte{
		"Num":   func(r *wire.Reader) []byte { return wire.Num(nil, r.Num()) },
		"Int":   func(r *wire.Reader) []byte { return wire.Int(nil, r.Int()) },
		"Count": func(r *wire.Reader) []byte { return wire.Num(nil, uint64(r.Count(math.MaxInt))) },
		"Bytes": func(r *wire.Reader) []byte { return wire.Bytes(nil, r.Bytes(most)) },
		"Text":  func(r *wire.Reader) []byte { return wire.Text(nil, r.Text(most)) },
		"Bool":  func(r *wire.Reader) []byte { return wire.Bool(nil, r.Bool()) },
	}
}

// oneForm: whatever each call takes from b has just the form that it was taken from.
func oneForm(t *testing.T, b []byte) {
	t.Helper()
	for what, take := range again(b) {
		r := wire.Read(b)
		form := take(r)
		if k := r.Done(); k != api.OK && r.Left() == 0 {
			continue
		}
		if taken := b[:len(b)-r.Left()]; !bytes.Equal(form, taken) {
			t.Errorf("%s took % X, whose form is % X", what, taken, form)
		}
	}
}

// P104: what was taken has no other form.
func TestTakenHasOneForm(t *testing.T) {
	for n := range 1 << 16 {
		oneForm(t, []byte{byte(n >> 8), byte(n)})
	}
	edges := []byte{0, 1, 2, 0x7F, 0x80, 0x81, 0xFF}
	for _, head := range [][]byte{nil, bytes.Repeat([]byte{0x80}, 7), bytes.Repeat([]byte{0xFF}, 7)} {
		for n := range 7 * 7 * 7 * 7 {
			b := bytes.Clone(head)
			for range 4 {
				b = append(b, edges[n%7])
				n /= 7
			}
			oneForm(t, b)
		}
	}
}

// P104: of two things of one kind neither form begins with the other one, so that a list of them is parted in one way alone.
func TestFormsDoNotBeginAlike(t *testing.T) {
	seen := map[uint64]bool{}
	var forms [][]byte
	for _, n := range numbers() {
		if !seen[n] {
			seen[n] = true
			forms = append(forms, wire.Num(nil, n))
		}
	}
	for i, a := range forms {
		for j, b := range forms {
			if i != j && bytes.HasPrefix(a, b) {
				t.Errorf("% X begins with % X", a, b)
			}
		}
	}
}
