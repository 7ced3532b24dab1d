package vector

import (
	"slices"
	"testing"

	"cachette/api"
)

// P502, P503: the chapter's example.
func TestExample(t *testing.T) {
	a, b := Vector{hd(0, 2, 5)}, Vector{hd(1, 1, 6)}
	if got := Compare(a, b); got != 2 {
		t.Errorf("Compare: %d", got)
	}
	if got, k := Merge(a, b); k != api.OK || !slices.Equal(got, Vector{hd(0, 2, 5), hd(1, 1, 6)}) {
		t.Errorf("Merge: %v, %d", got, k)
	}
}

// P502: by the Lens of all writers, those that are not named at 0; Sums tell nothing.
func TestCompare(t *testing.T) {
	for _, c := range []struct {
		a, b Vector
		want int
	}{
		{nil, nil, 0},
		{Vector{}, nil, 0},
		{Vector{hd(0, 2, 5)}, Vector{hd(0, 2, 5)}, 0},
		{Vector{hd(0, 2, 5)}, Vector{hd(0, 2, 6)}, 0},
		{whole(), whole(), 0},
		{nil, Vector{hd(0, 1, 1)}, -1},
		{nil, Vector{hd(7, 1, 1)}, -1},
		{Vector{hd(0, 1, 9)}, Vector{hd(0, 2, 1)}, -1},
		{Vector{hd(0, 1, 9), hd(1, 4, 4)}, Vector{hd(0, 2, 1), hd(1, 4, 4)}, -1},
		{Vector{hd(0, 1, 9), hd(1, 3, 4)}, Vector{hd(0, 2, 1), hd(1, 4, 4)}, -1},
		{Vector{hd(1, 4, 4)}, Vector{hd(0, 2, 1), hd(1, 4, 4)}, -1},
		{whole()[:7], whole(), -1},
		{whole()[1:], whole(), -1},
		{Vector{hd(0, 2, 1)}, Vector{hd(1, 1, 1)}, 2},
		{Vector{hd(0, 1, 1)}, Vector{hd(7, 1, 1)}, 2},
		{Vector{hd(0, 2, 1), hd(1, 1, 1)}, Vector{hd(0, 1, 1), hd(1, 2, 1)}, 2},
		{Vector{hd(0, 2, 1), hd(3, 5, 5)}, Vector{hd(2, 1, 1), hd(3, 5, 5)}, 2},
		{whole()[:7], whole()[1:], 2},
	} {
		back := c.want
		if c.want == -1 {
			back = 1
		}
		if got := Compare(c.a, c.b); got != c.want {
			t.Errorf("Compare of %v and %v: %d, not %d", c.a, c.b, got, c.want)
		}
		if got := Compare(c.b, c.a); got != back {
			t.Errorf("Compare of %v and %v: %d, not %d", c.b, c.a, got, back)
		}
	}
}

// P502: the heads of want whose Len is above have's, in want's order.
func TestMissing(t *testing.T) {
	for _, c := range []struct {
		have, want Vector
		miss       []api.Head
	}{
		{nil, nil, nil},
		{whole(), whole(), nil},
		{whole(), nil, nil},
		{nil, whole(), whole()},
		{whole()[:7], whole(), whole()[7:]},
		{whole()[1:], whole(), whole()[:1]},
		{Vector{hd(0, 2, 5)}, Vector{hd(1, 1, 6)}, Vector{hd(1, 1, 6)}},
		{Vector{hd(0, 2, 5)}, Vector{hd(0, 1, 6)}, nil},
		{Vector{hd(0, 2, 5)}, Vector{hd(0, 2, 6)}, nil},
		{Vector{hd(0, 2, 5)}, Vector{hd(0, 3, 6)}, Vector{hd(0, 3, 6)}},
		{
			Vector{hd(0, 2, 5), hd(2, 9, 9), hd(3, 3, 3)},
			Vector{hd(0, 4, 6), hd(1, 1, 1), hd(2, 8, 8), hd(3, 3, 4), hd(7, 2, 2)},
			Vector{hd(0, 4, 6), hd(1, 1, 1), hd(7, 2, 2)},
		},
	} {
		if got := Missing(c.have, c.want); !slices.Equal(got, c.miss) {
			t.Errorf("Missing of %v and %v: %v, not %v", c.have, c.want, got, c.miss)
		}
	}
}

// conflicts: pairs with the least writer whose Lens are alike, but not the Sums; -1: there is none.
func conflicts() []struct {
	a, b Vector
	want int
} {
	return []struct {
		a, b Vector
		want int
	}{
		{nil, nil, -1},
		{whole(), whole(), -1},
		{whole(), nil, -1},
		{Vector{hd(0, 2, 5)}, Vector{hd(0, 2, 5)}, -1},
		{Vector{hd(0, 2, 5)}, Vector{hd(0, 3, 7)}, -1},
		{Vector{hd(0, 2, 5)}, Vector{hd(1, 2, 7)}, -1},
		{Vector{hd(0, 2, 5)}, Vector{hd(0, 2, 7)}, 0},
		{Vector{hd(7, 200, 5)}, Vector{hd(7, 200, 6)}, 7},
		{Vector{hd(0, 2, 5), hd(3, 1, 1)}, Vector{hd(0, 2, 5), hd(3, 1, 2)}, 3},
		{Vector{hd(0, 2, 5), hd(3, 1, 1)}, Vector{hd(0, 2, 6), hd(3, 1, 2)}, 0},
		{Vector{hd(0, 2, 5), hd(3, 1, 1), hd(4, 1, 1)}, Vector{hd(0, 3, 6), hd(3, 1, 2), hd(4, 1, 2)}, 3},
		{Vector{hd(1, 1, 1), hd(5, 2, 2)}, Vector{hd(0, 1, 9), hd(5, 2, 3), hd(6, 1, 1)}, 5},
	}
}

// P503: the least writer of which both have a Len that is alike, and not 0, but another Sum, whichever comes first.
func TestConflict(t *testing.T) {
	for _, c := range conflicts() {
		for range 2 {
			w, is := Conflict(c.a, c.b)
			if is != (c.want >= 0) || w != max(c.want, 0) {
				t.Errorf("Conflict of %v and %v: %d, %t, not %d", c.a, c.b, w, is, c.want)
			}
			c.a, c.b = c.b, c.a
		}
	}
}

// P503: Fork, and nothing, where there is a Conflict, and nowhere else.
func TestMergeFork(t *testing.T) {
	for _, c := range conflicts() {
		for range 2 {
			got, k := Merge(c.a, c.b)
			if (k == api.Fork) != (c.want >= 0) || k != api.Fork && k != api.OK {
				t.Errorf("Merge of %v and %v: %d", c.a, c.b, k)
			}
			if k != api.OK && len(got) != 0 {
				t.Errorf("Merge of %v and %v: %v beside %d", c.a, c.b, got, k)
			}
			c.a, c.b = c.b, c.a
		}
	}
}

// P503: of each writer the head of the greater Len, with its Sum.
func TestMerge(t *testing.T) {
	for _, c := range []struct{ a, b, want Vector }{
		{nil, nil, nil},
		{nil, whole(), whole()},
		{whole(), whole(), whole()},
		{whole()[:7], whole()[1:], whole()},
		{Vector{hd(0, 2, 5)}, Vector{hd(0, 3, 1)}, Vector{hd(0, 3, 1)}},
		{Vector{hd(0, 2, 5)}, Vector{hd(7, 2, 5)}, Vector{hd(0, 2, 5), hd(7, 2, 5)}},
		{
			Vector{hd(0, 2, 5), hd(2, 9, 9), hd(3, 3, 3), hd(6, 1, 1)},
			Vector{hd(0, 4, 1), hd(1, 1, 1), hd(2, 8, 10), hd(3, 3, 3), hd(7, 2, 2)},
			Vector{hd(0, 4, 1), hd(1, 1, 1), hd(2, 9, 9), hd(3, 3, 3), hd(6, 1, 1), hd(7, 2, 2)},
		},
	} {
		for range 2 {
			if got, k := Merge(c.a, c.b); k != api.OK || !slices.Equal(got, c.want) {
				t.Errorf("Merge of %v and %v: %v, %d, not %v", c.a, c.b, got, k, c.want)
			}
			c.a, c.b = c.b, c.a
		}
	}
}

// P502, P503: 3, nothing, false, BadArg: one of two vectors, or both, are not right.
func TestBothWrong(t *testing.T) {
	right := append(rightVectors(), Vector{hd(0, 1, 9), hd(1, 1, 9)})
	for _, v := range wrongVectors() {
		isRefused(t, v, v)
		for _, r := range right {
			isRefused(t, v, r)
			isRefused(t, r, v)
		}
	}
}

// isRefused: each call with two vectors says that one of them is not right.
func isRefused(t *testing.T, a, b Vector) {
	t.Helper()
	if got := Compare(a, b); got != 3 {
		t.Errorf("Compare of %v and %v: %d, not 3", a, b, got)
	}
	if got := Missing(a, b); len(got) != 0 {
		t.Errorf("Missing of %v and %v: %v", a, b, got)
	}
	if w, is := Conflict(a, b); w != 0 || is {
		t.Errorf("Conflict of %v and %v: %d, %t", a, b, w, is)
	}
	if got, k := Merge(a, b); k != api.BadArg || len(got) != 0 {
		t.Errorf("Merge of %v and %v: %v, %d", a, b, got, k)
	}
}
