package vector

import (
	"math"
	"slices"
	"testing"

	"cachette/api"
)

// hd: the head of w with that Len and Sum.
func hd(w, n int, sum uint64) api.Head {
	return api.Head{Writer: w, Len: n, Sum: sum}
}

// whole: a right vector that names all writers, with the edges of Len and Sum.
func whole() Vector {
	return Vector{
		hd(0, 1, 1), hd(1, api.MaxLog, math.MaxUint64), hd(2, 1, 127), hd(3, 128, 128),
		hd(4, 199, 300), hd(5, 2, 1<<63), hd(6, 127, 9), hd(7, api.MaxLog, 1),
	}
}

// wrongHeads: heads of which none is right, with the edges of each number.
func wrongHeads() []api.Head {
	return []api.Head{
		{},
		hd(-1, 1, 1), hd(api.MaxMembers, 1, 1), hd(math.MinInt, 1, 1), hd(math.MaxInt, 1, 1), hd(1<<32, 1, 1),
		hd(0, 0, 1), hd(0, -1, 1), hd(0, api.MaxLog+1, 1), hd(0, math.MinInt, 1), hd(0, math.MaxInt, 1), hd(0, 1<<32+1, 1),
		hd(0, 1, 0), hd(7, api.MaxLog, 0), hd(3, 0, 0), hd(8, 201, 0), hd(-1, 0, 0),
	}
}

// wrongVectors: vectors of which none is right: by one of their heads, or by the order of heads that are right.
func wrongVectors() []Vector {
	l := []Vector{
		{hd(1, 1, 1), hd(0, 1, 1)},
		{hd(1, 1, 1), hd(1, 1, 1)},
		{hd(0, 1, 1), hd(0, 2, 2)},
		{hd(0, 1, 1), hd(2, 1, 1), hd(1, 1, 1)},
		{hd(0, 1, 1), hd(3, 1, 1), hd(3, 2, 1), hd(4, 1, 1)},
		{hd(7, 1, 1), hd(0, 1, 1)},
		append(whole(), hd(7, 1, 1)),
		append(whole(), hd(8, 1, 1)),
		append(whole(), whole()...),
	}
	for _, h := range wrongHeads() {
		l = append(l, Vector{h}, Vector{h, hd(7, 1, 1)}, Vector{hd(0, 1, 1), h}, Vector{hd(0, 1, 1), h, hd(7, 1, 1)})
	}
	return l
}

// rightVectors: right ones that differ in which writers they name, and how far these go.
func rightVectors() []Vector {
	return []Vector{
		nil, {}, {hd(0, 1, 1)}, {hd(0, api.MaxLog, math.MaxUint64)}, {hd(7, 1, 1)}, {hd(7, 3, 4)},
		{hd(0, 2, 5), hd(7, 1, 1)}, {hd(2, 1, 1), hd(3, 1, 1), hd(6, 200, 2)}, whole(), whole()[1:], whole()[:7],
	}
}

// P501: heads that are right, and rise by Writer; none at all is right too.
func TestRight(t *testing.T) {
	for _, v := range rightVectors() {
		if !Right(v) {
			t.Errorf("%v is not right", v)
		}
	}
	for _, v := range wrongVectors() {
		if Right(v) {
			t.Errorf("%v is right", v)
		}
	}
}

// P501: the writer's head, wherever it stands.
func TestGet(t *testing.T) {
	for _, v := range rightVectors() {
		for _, h := range v {
			if got := Get(v, h.Writer); got != h {
				t.Errorf("Get of %d in %v: %v", h.Writer, v, got)
			}
		}
	}
}

// P501: the zero head with that Writer of a writer that is not named, be it a member's number or not.
func TestGetNotNamed(t *testing.T) {
	for _, v := range rightVectors() {
		named := make([]bool, api.MaxMembers)
		for _, h := range v {
			named[h.Writer] = true
		}
		for w := range api.MaxMembers {
			if got := Get(v, w); !named[w] && got != hd(w, 0, 0) {
				t.Errorf("Get of %d in %v: %v", w, v, got)
			}
		}
		for _, w := range []int{-1, api.MaxMembers, 9, math.MinInt, math.MaxInt} {
			if got := Get(v, w); got != hd(w, 0, 0) {
				t.Errorf("Get of %d in %v: %v", w, v, got)
			}
		}
	}
}

// P501: of a vector that is not right the zero head with that Writer, whomever it names.
func TestGetNotRight(t *testing.T) {
	for _, v := range wrongVectors() {
		for _, w := range []int{-1, 0, 1, 3, 7, 8, math.MinInt, math.MaxInt} {
			if got := Get(v, w); got != hd(w, 0, 0) {
				t.Errorf("Get of %d in %v: %v", w, v, got)
			}
		}
	}
}

// P501: h stands in place of that writer's head, at whichever end; whether the log becomes longer or shorter.
func TestPut(t *testing.T) {
	for _, c := range []struct {
		v    Vector
		h    api.Head
		want Vector
	}{
		{nil, hd(0, 1, 1), Vector{hd(0, 1, 1)}},
		{Vector{}, hd(7, api.MaxLog, math.MaxUint64), Vector{hd(7, api.MaxLog, math.MaxUint64)}},
		{Vector{hd(0, 2, 5)}, hd(0, 3, 8), Vector{hd(0, 3, 8)}},
		{Vector{hd(0, 2, 5)}, hd(0, 1, 8), Vector{hd(0, 1, 8)}},
		{Vector{hd(0, 2, 5)}, hd(0, 2, 6), Vector{hd(0, 2, 6)}},
		{Vector{hd(0, 2, 5)}, hd(0, 2, 5), Vector{hd(0, 2, 5)}},
		{Vector{hd(1, 2, 5), hd(3, 1, 1)}, hd(0, 9, 9), Vector{hd(0, 9, 9), hd(1, 2, 5), hd(3, 1, 1)}},
		{Vector{hd(1, 2, 5), hd(3, 1, 1)}, hd(1, 9, 9), Vector{hd(1, 9, 9), hd(3, 1, 1)}},
		{Vector{hd(1, 2, 5), hd(3, 1, 1)}, hd(2, 9, 9), Vector{hd(1, 2, 5), hd(2, 9, 9), hd(3, 1, 1)}},
		{Vector{hd(1, 2, 5), hd(3, 1, 1)}, hd(3, 9, 9), Vector{hd(1, 2, 5), hd(3, 9, 9)}},
		{Vector{hd(1, 2, 5), hd(3, 1, 1)}, hd(7, 9, 9), Vector{hd(1, 2, 5), hd(3, 1, 1), hd(7, 9, 9)}},
	} {
		if got, k := Put(c.v, c.h); k != api.OK || !slices.Equal(got, c.want) {
			t.Errorf("Put of %v in %v: %v, %d, not %v", c.h, c.v, got, k, c.want)
		}
	}
}

// P501: behind a Put the writer's head is h, and all others are as they were.
func TestPutThenGet(t *testing.T) {
	for _, v := range rightVectors() {
		for w := range api.MaxMembers {
			h := hd(w, 77, 88)
			got, k := Put(v, h)
			if k != api.OK || !Right(got) {
				t.Fatalf("Put of %v in %v: %v, %d", h, v, got, k)
			}
			for x := range api.MaxMembers {
				want := Get(v, x)
				if x == w {
					want = h
				}
				if Get(got, x) != want {
					t.Errorf("Put of %v in %v: of %d %v, not %v", h, v, x, Get(got, x), want)
				}
			}
		}
	}
}

// P501: BadArg, and nothing: a head, or a vector, that is not right.
func TestPutWrong(t *testing.T) {
	for _, h := range wrongHeads() {
		for _, v := range rightVectors() {
			if got, k := Put(v, h); k != api.BadArg || len(got) != 0 {
				t.Errorf("Put of %v in %v: %v, %d", h, v, got, k)
			}
		}
	}
	for _, v := range wrongVectors() {
		for _, h := range []api.Head{hd(0, 1, 1), hd(1, 1, 1), hd(7, 1, 1), {}} {
			if got, k := Put(v, h); k != api.BadArg || len(got) != 0 {
				t.Errorf("Put of %v in %v: %v, %d", h, v, got, k)
			}
		}
	}
}
