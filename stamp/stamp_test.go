package stamp

import (
	"bytes"
	"math"
	"slices"
	"testing"

	"cachette/api"
	"cachette/wire"
)

// at: the stamp of t and w.
func at(t int64, w int) api.Stamp {
	return api.Stamp{T: t, W: w}
}

// inOrder: stamps, right and not, each ahead of the next one, with the edges of both numbers.
func inOrder() []api.Stamp {
	var l []api.Stamp
	for _, t := range []int64{math.MinInt64, math.MinInt64 + 1, -1, 0, 1, 2, 3, api.MaxTime - 1, api.MaxTime, api.MaxTime + 1, math.MaxInt64 - 1, math.MaxInt64} {
		for _, w := range []int{math.MinInt, -1, 0, 1, 6, 7, 8, 9, math.MaxInt} {
			l = append(l, at(t, w))
		}
	}
	return l
}

// P401: T from 1 to MaxTime, W from 0 to MaxMembers less 1, and no other stamp.
func TestRight(t *testing.T) {
	for _, s := range []api.Stamp{at(1, 0), at(1, 7), at(2, 3), at(api.MaxTime-1, 1), at(api.MaxTime, 0), at(api.MaxTime, 7)} {
		if !Right(s) {
			t.Errorf("%v is not right", s)
		}
	}
	for _, s := range []api.Stamp{
		{}, at(0, 1), at(0, 7), at(-1, 0), at(math.MinInt64, 0), at(api.MaxTime+1, 0), at(math.MaxInt64, 7),
		at(1, -1), at(1, 8), at(5, math.MinInt), at(5, math.MaxInt), at(1, 1<<32), at(api.MaxTime, 8), at(0, 8), at(-1, -1),
	} {
		if Right(s) {
			t.Errorf("%v is right", s)
		}
	}
}

// P401: the chapter's example.
func TestExample(t *testing.T) {
	a := at(3, 1)
	if !Less(a, at(3, 2)) || Compare(a, at(3, 2)) != -1 {
		t.Error("(3, 1) is not ahead of (3, 2)")
	}
	if !Less(at(2, 9), a) || Compare(a, at(2, 9)) != 1 {
		t.Error("(3, 1) is not behind (2, 9)")
	}
	if Less(a, a) || Compare(a, a) != 0 {
		t.Error("(3, 1) is not alike to itself")
	}
}

// P401, rule 6: of any two, right or not, Less and Compare tell by T, then by W, in their whole range.
func TestCompareAll(t *testing.T) {
	l := inOrder()
	for i, a := range l {
		for j, b := range l {
			want := 0
			if i < j {
				want = -1
			} else if i > j {
				want = 1
			}
			if got := Compare(a, b); got != want {
				t.Errorf("Compare of %v and %v: %d, not %d", a, b, got, want)
			}
			if got := Less(a, b); got != (i < j) {
				t.Errorf("Less of %v and %v: %t", a, b, got)
			}
		}
	}
}

// P401: the last in order, wherever it stands, of stamps below the zero one too; the zero stamp of none.
func TestMax(t *testing.T) {
	for _, c := range []struct {
		l    []api.Stamp
		want api.Stamp
	}{
		{nil, at(0, 0)},
		{[]api.Stamp{}, at(0, 0)},
		{[]api.Stamp{at(4, 2)}, at(4, 2)},
		{[]api.Stamp{at(0, 0)}, at(0, 0)},
		{[]api.Stamp{at(9, 1), at(4, 2), at(3, 7)}, at(9, 1)},
		{[]api.Stamp{at(3, 7), at(9, 1), at(4, 2)}, at(9, 1)},
		{[]api.Stamp{at(3, 7), at(4, 2), at(9, 1)}, at(9, 1)},
		{[]api.Stamp{at(4, 2), at(4, 3), at(4, 1)}, at(4, 3)},
		{[]api.Stamp{at(4, 2), at(4, 2)}, at(4, 2)},
		{[]api.Stamp{at(-3, 1), at(-2, 0)}, at(-2, 0)},
		{[]api.Stamp{at(-3, 1)}, at(-3, 1)},
		{[]api.Stamp{at(0, -2), at(0, -1)}, at(0, -1)},
		{[]api.Stamp{at(math.MinInt64, math.MinInt)}, at(math.MinInt64, math.MinInt)},
		{inOrder(), at(math.MaxInt64, math.MaxInt)},
	} {
		if got := Max(c.l); got != c.want {
			t.Errorf("Max of %v: %v, not %v", c.l, got, c.want)
		}
	}
}

// P401: a list in order, each stamp once, whatever order it comes in.
func TestSort(t *testing.T) {
	for _, c := range []struct{ l, want []api.Stamp }{
		{nil, nil},
		{[]api.Stamp{}, nil},
		{[]api.Stamp{at(2, 1)}, []api.Stamp{at(2, 1)}},
		{[]api.Stamp{at(2, 1), at(2, 1), at(2, 1)}, []api.Stamp{at(2, 1)}},
		{[]api.Stamp{at(0, 0), at(0, 0)}, []api.Stamp{at(0, 0)}},
		{[]api.Stamp{at(2, 0), at(1, 1), at(2, 0)}, []api.Stamp{at(1, 1), at(2, 0)}},
		{[]api.Stamp{at(3, 2), at(3, 1), at(2, 9), at(3, 2)}, []api.Stamp{at(2, 9), at(3, 1), at(3, 2)}},
		{[]api.Stamp{at(1, -1), at(0, 8), at(-5, 0), at(0, 8)}, []api.Stamp{at(-5, 0), at(0, 8), at(1, -1)}},
	} {
		if got := Sort(c.l); !slices.Equal(got, c.want) {
			t.Errorf("Sort of %v: %v, not %v", c.l, got, c.want)
		}
	}
}

// P401: the same answer of every order, with some of the stamps more than once.
func TestSortWhateverOrder(t *testing.T) {
	want := inOrder()
	n := len(want)
	for step := 1; step < n; step += 2 {
		var l []api.Stamp
		for i := range 2 * n {
			l = append(l, want[i*step%n])
		}
		l = append(l, want...)
		if got := Sort(l); !slices.Equal(got, want) {
			t.Fatalf("each %d-th: %v, not %v", step, got, want)
		}
	}
}

// P402: b, an Int of T, and a Num of W; of a W below 0, a Num of 0.
func TestPut(t *testing.T) {
	for _, c := range []struct {
		s    api.Stamp
		want []byte
	}{
		{at(0, 0), []byte{0, 0}},
		{at(1, 1), []byte{2, 1}},
		{at(-1, 7), []byte{1, 7}},
		{at(150, 3), []byte{0xac, 0x02, 3}},
		{at(api.MaxTime, 7), []byte{0x80, 0x80, 0x80, 0x80, 0x80, 0x40, 7}},
		{at(1, 300), []byte{2, 0xac, 0x02}},
		{at(1, -1), []byte{2, 0}},
		{at(1, math.MinInt), []byte{2, 0}},
	} {
		if got := Put(nil, c.s); !bytes.Equal(got, c.want) {
			t.Errorf("Put of %v: % x, not % x", c.s, got, c.want)
		}
	}
	if got := Put([]byte{9, 8}, at(1, 1)); !bytes.Equal(got, []byte{9, 8, 2, 1}) {
		t.Errorf("Put behind two bytes: % x", got)
	}
}

// P402, rule 6: numbers in their whole range are put by wire's forms.
func TestPutAll(t *testing.T) {
	for _, s := range inOrder() {
		want := wire.Int([]byte("b"), s.T)
		if s.W < 0 {
			want = wire.Num(want, 0)
		} else {
			want = wire.Num(want, uint64(s.W))
		}
		if got := Put([]byte("b"), s); !bytes.Equal(got, want) {
			t.Errorf("Put of %v: % x, not % x", s, got, want)
		}
	}
}

// P402: an Int and a Count are taken, and no byte more; what is taken need not be right.
func TestGet(t *testing.T) {
	for _, s := range []api.Stamp{at(0, 0), at(1, 0), at(5, 7), at(-1, 3), at(api.MaxTime, 7), at(api.MaxTime+1, 1), at(math.MaxInt64, 7), at(math.MinInt64, 0)} {
		r := wire.Read(append(Put(nil, s), 0xee))
		if got := Get(r); got != s || r.Left() != 1 {
			t.Errorf("Get of %v: %v, %d left", s, got, r.Left())
		}
	}
	r := wire.Read([]byte{2, 1, 4, 0})
	if a, b := Get(r), Get(r); a != at(1, 1) || b != at(2, 0) || r.Done() != api.OK {
		t.Errorf("two stamps: %v, %v, %d", a, b, r.Done())
	}
}

// P402: a W above MaxMembers less 1 is TooLarge, and a form that does not stand is Malformed.
func TestGetWrong(t *testing.T) {
	for what, c := range map[string]struct {
		b    []byte
		want api.Kind
	}{
		"one beyond the last member":     {[]byte{2, 8}, api.TooLarge},
		"more bytes behind it":           {[]byte{2, 8, 0, 0}, api.TooLarge},
		"far beyond":                     {Put(nil, at(1, math.MaxInt)), api.TooLarge},
		"beyond an int":                  {wire.Num([]byte{2}, math.MaxUint64), api.TooLarge},
		"nothing":                        {nil, api.Malformed},
		"no W":                           {[]byte{2}, api.Malformed},
		"a T that does not end":          {[]byte{0x80}, api.Malformed},
		"a T in a second form":           {[]byte{0x82, 0, 1}, api.Malformed},
		"a W that does not end":          {[]byte{2, 0x81}, api.Malformed},
		"a W in a second form":           {[]byte{2, 0x81, 0}, api.Malformed},
		"a T beyond 64 bits, and a W":    {append(bytes.Repeat([]byte{0xff}, 9), 2, 1), api.Malformed},
		"a T in a second form, and an 8": {[]byte{0x82, 0, 8}, api.Malformed},
	} {
		r := wire.Read(c.b)
		if got := Get(r); got.W != 0 {
			t.Errorf("%s: W %d", what, got.W)
		}
		if k := r.Done(); k != c.want || r.Left() != 0 {
			t.Errorf("%s: Done %d, not %d, %d left", what, k, c.want, r.Left())
		}
		if got := Get(r); got != (api.Stamp{}) {
			t.Errorf("%s: then Get %v", what, got)
		}
	}
}

// P402: a T that was taken ahead of a W that is wrong is told as it was taken.
func TestGetTellsWhatWasTaken(t *testing.T) {
	for _, b := range [][]byte{{6, 8}, {6}, {6, 0x80}} {
		if got := Get(wire.Read(b)); got != at(3, 0) {
			t.Errorf("Get of % x: %v", b, got)
		}
	}
	if got := Get(wire.Read([]byte{0x86, 0, 1})); got != (api.Stamp{}) {
		t.Errorf("Get of a wrong T: %v", got)
	}
}

// P402: a reader that is nil is as one that is Malformed.
func TestGetNil(t *testing.T) {
	if got := Get(nil); got != (api.Stamp{}) {
		t.Errorf("Get of nil: %v", got)
	}
}
