package entry

import (
	"math"
	"testing"

	"cachette/api"
)

// example: the entry of the chapter's example.
func example() api.Entry {
	return api.Entry{Writer: 1, At: at(5, 1), Body: []byte("x"), Sig: 9}
}

// later: a right entry that is not the first of its log, with something in each field.
func later() api.Entry {
	return api.Entry{Writer: 3, Index: 7, Prev: 300, At: at(9, 3), Epoch: 2, Body: []byte("body"), Sig: 77}
}

// at: that stamp.
func at(t int64, w int) api.Stamp {
	return api.Stamp{T: t, W: w}
}

// with: e, changed by do.
func with(e api.Entry, do func(e *api.Entry)) api.Entry {
	do(&e)
	return e
}

// of: a right entry of w at index.
func of(w, index int) api.Entry {
	e := api.Entry{Writer: w, Index: index, At: at(1, w), Body: []byte("b"), Sig: 5}
	if index > 0 {
		e.Prev = 8
	}
	return e
}

// rightEntries: right ones, with the edges of each field.
func rightEntries() []api.Entry {
	return []api.Entry{
		example(), later(),
		of(0, 0), of(7, 0), of(0, 1), of(0, 199), of(7, 199),
		{At: at(1, 0)},
		with(of(0, 1), func(e *api.Entry) { e.Prev = 1 }),
		with(of(0, 1), func(e *api.Entry) { e.Prev = math.MaxUint64 }),
		with(of(2, 0), func(e *api.Entry) { e.At.T = api.MaxTime }),
		with(of(2, 0), func(e *api.Entry) { e.Epoch = -1 }),
		with(of(2, 0), func(e *api.Entry) { e.Epoch = 19 }),
		with(of(2, 0), func(e *api.Entry) { e.Body = nil }),
		with(of(2, 0), func(e *api.Entry) { e.Body = []byte{} }),
		with(of(2, 0), func(e *api.Entry) { e.Body = make([]byte, 127) }),
		with(of(2, 0), func(e *api.Entry) { e.Body = make([]byte, 128) }),
		with(of(2, 0), func(e *api.Entry) { e.Body = make([]byte, 1100) }),
		with(of(2, 0), func(e *api.Entry) { e.Sig = 0 }),
		with(of(2, 0), func(e *api.Entry) { e.Sig = math.MaxUint64 }),
	}
}

// wrongEntries: entries of which none is right, by one field each, and a few by more.
func wrongEntries() []api.Entry {
	l := []api.Entry{{}, {Writer: -1, Index: -1, Epoch: -2}}
	for _, w := range []int{-1, 8, 1 << 32, math.MinInt, math.MaxInt} {
		l = append(l, of(w, 0), with(of(0, 0), func(e *api.Entry) { e.Writer = w }), with(of(0, 0), func(e *api.Entry) { e.At.W = w }))
	}
	for _, i := range []int{-1, 200, 1<<32 + 1, math.MinInt, math.MaxInt} {
		l = append(l, of(0, i), with(of(0, i), func(e *api.Entry) { e.Prev = 8 }))
	}
	for _, t := range []int64{0, -1, api.MaxTime + 1, math.MinInt64, math.MaxInt64} {
		l = append(l, with(of(1, 1), func(e *api.Entry) { e.At.T = t }))
	}
	for _, n := range []int{-2, 20, 1 << 32, math.MinInt, math.MaxInt} {
		l = append(l, with(of(1, 1), func(e *api.Entry) { e.Epoch = n }))
	}
	for _, n := range []int{1101, 4000} {
		l = append(l, with(of(1, 1), func(e *api.Entry) { e.Body = make([]byte, n) }))
	}
	return append(l,
		with(of(1, 0), func(e *api.Entry) { e.Prev = 1 }),
		with(of(1, 0), func(e *api.Entry) { e.Prev = math.MaxUint64 }),
		with(of(1, 1), func(e *api.Entry) { e.Prev = 0 }),
		with(of(1, 199), func(e *api.Entry) { e.Prev = 0 }),
		with(of(1, 1), func(e *api.Entry) { e.At = at(1, 0) }),
		with(of(1, 1), func(e *api.Entry) { e.At = at(1, 2) }),
		with(of(1, 1), func(e *api.Entry) { e.At = at(0, 0) }),
	)
}

// P601: what is right, at the edges that the chapter names, and one beyond each.
func TestRight(t *testing.T) {
	for _, e := range rightEntries() {
		if !Right(e) {
			t.Errorf("%v is not right", e)
		}
	}
	for _, e := range wrongEntries() {
		if Right(e) {
			t.Errorf("%v is right", e)
		}
	}
}

// P601: every writer's every place is right with a Prev just where something is ahead.
func TestRightPlaces(t *testing.T) {
	for w := range api.MaxMembers {
		for i := range api.MaxLog {
			e := of(w, i)
			if !Right(e) {
				t.Errorf("%v is not right", e)
			}
			e.Prev = 8 - e.Prev
			if Right(e) {
				t.Errorf("%v is right", e)
			}
		}
	}
}

// unlike: entries that are not e's like, each in one field alone (of a body each of the first bytes).
func unlike(e api.Entry) []api.Entry {
	longer := append(append([]byte{}, e.Body...), 0)
	l := []api.Entry{
		with(e, func(e *api.Entry) { e.Writer++ }),
		with(e, func(e *api.Entry) { e.Index++ }),
		with(e, func(e *api.Entry) { e.Prev++ }),
		with(e, func(e *api.Entry) { e.At.T++ }),
		with(e, func(e *api.Entry) { e.At.W++ }),
		with(e, func(e *api.Entry) { e.Epoch++ }),
		with(e, func(e *api.Entry) { e.Sig++ }),
		with(e, func(e *api.Entry) { e.Body = longer }),
	}
	for i := range min(len(e.Body), 4) {
		other := append([]byte{}, e.Body...)
		other[i]++
		l = append(l, with(e, func(e *api.Entry) { e.Body = other }), with(e, func(e *api.Entry) { e.Body = other[:i] }))
	}
	return l
}

// P604: alike in all, whichever field it is that is not, also of entries that are not right.
func TestSame(t *testing.T) {
	for _, e := range append(rightEntries(), wrongEntries()...) {
		again := with(e, func(e *api.Entry) { e.Body = append([]byte{}, e.Body...) })
		if !Same(e, again) || !Same(again, e) {
			t.Errorf("%v is not the same as itself", e)
		}
	}
	for _, e := range []api.Entry{{}, example(), later(), of(8, -1)} {
		for _, f := range unlike(e) {
			if Same(e, f) || Same(f, e) {
				t.Errorf("%v and %v are the same", e, f)
			}
		}
	}
}

// P604: a body without a byte is one, nil or not; the spare room of a body is none of it.
func TestSameBody(t *testing.T) {
	a, b := of(1, 1), of(1, 1)
	a.Body, b.Body = nil, []byte{}
	if !Same(a, b) || !Same(b, a) {
		t.Error("a nil body and an empty one are not alike")
	}
	a.Body, b.Body = []byte("xyz")[:2], []byte("xyw")[:2]
	if !Same(a, b) {
		t.Error("the spare room is compared")
	}
}
