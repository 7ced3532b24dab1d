package stamp

import (
	"bytes"
	"math"
	"slices"
	"testing"

	"cachette/api"
	"cachette/wire"
)

// P404: Compare is a total order: of two that are not the same one is ahead, whichever comes first, and what is ahead of one is ahead of all behind that one.
func TestTotalOrder(t *testing.T) {
	l := inOrder()
	for _, a := range l {
		for _, b := range l {
			ab := Compare(a, b)
			if ab != -Compare(b, a) || (ab == 0) != (a == b) || ab < -1 || ab > 1 {
				t.Errorf("%v and %v: %d, and %d the other way", a, b, ab, Compare(b, a))
			}
			if Less(a, b) != (ab == -1) {
				t.Errorf("%v and %v: Less %t, Compare %d", a, b, Less(a, b), ab)
			}
		}
	}
	few := []api.Stamp{at(math.MinInt64, 0), at(-1, 5), at(0, 0), at(2, -1), at(2, 1), at(2, 9), at(3, 0), at(math.MaxInt64, math.MinInt)}
	for _, a := range few {
		for _, b := range few {
			for _, c := range few {
				if Compare(a, b) <= 0 && Compare(b, c) <= 0 && Compare(a, c) > 0 {
					t.Errorf("%v, %v, %v: the first is behind the last", a, b, c)
				}
			}
		}
	}
}

// P404: the last that Sort answers is Max, and sorting again changes nothing.
func TestSortedEndsWithMax(t *testing.T) {
	all := inOrder()
	for n := 1; n <= len(all); n++ {
		l := slices.Clone(all[:n])
		slices.Reverse(l)
		once := Sort(l)
		if once[len(once)-1] != Max(l) || !slices.Equal(Sort(once), once) {
			t.Errorf("%d stamps: the last is %v, Max %v", n, once[len(once)-1], Max(l))
		}
	}
}

// P404: what a clock ticks rises, and is behind all that it has seen, whoever said that.
func TestTicksRise(t *testing.T) {
	for w := range api.MaxMembers {
		c := clockOf(t, w)
		var met []api.Stamp
		n := uint64(w + 1)
		for i := range 400 {
			n = n*6364136223846793005 + 1442695040888963407
			s := at(int64(n>>33)%900+int64(i)/2, int(n>>20)%9)
			if n>>62 != 0 {
				if c.See(s) == api.OK {
					met = append(met, s)
				}
				continue
			}
			tick, k := c.Tick()
			if k != api.OK || !Right(tick) || len(met) > 0 && !Less(Max(met), tick) {
				t.Fatalf("the clock of %d ticks %v, %d, behind %v", w, tick, k, Max(met))
			}
			met = append(met, tick)
		}
	}
}

// P404: clocks that see each other's ticks never tick one stamp twice.
func TestTicksOfTwoAreTwo(t *testing.T) {
	a, b := clockOf(t, 0), clockOf(t, 1)
	var met []api.Stamp
	for i := range 60 {
		x, _ := a.Tick()
		y, _ := b.Tick()
		if i%3 == 0 {
			a.See(y)
		}
		if i%5 == 0 {
			b.See(x)
		}
		met = append(met, x, y)
	}
	if got := len(Sort(met)); got != len(met) {
		t.Errorf("%d ticks are %d stamps", len(met), got)
	}
}

// P402: what was put of a right stamp is taken as it was, and what was taken has no other form.
func FuzzGet(f *testing.F) {
	for _, s := range inOrder() {
		f.Add(Put(nil, s))
	}
	f.Fuzz(func(t *testing.T, b []byte) {
		r := wire.Read(b)
		s := Get(r)
		if r.Done() == api.OK && !bytes.Equal(Put(nil, s), b) {
			t.Fatalf("% x is taken as %v, which is put as % x", b, s, Put(nil, s))
		}
	})
}

// P402: every right stamp comes back.
func TestComesBack(t *testing.T) {
	for _, s := range inOrder() {
		r := wire.Read(Put(nil, s))
		got := Get(r)
		if Right(s) && (got != s || r.Done() != api.OK) {
			t.Errorf("%v comes back as %v, %d", s, got, r.Done())
		}
	}
}

// Rule 4: what is handed in is not changed, its spare room neither.
func TestLeavesWhatIsHandedIn(t *testing.T) {
	whole := []api.Stamp{at(5, 1), at(2, 0), at(5, 1), at(1, 1), at(77, 7), at(66, 6)}
	before := slices.Clone(whole)
	Sort(whole[:4])
	Max(whole[:4])
	if !slices.Equal(whole, before) {
		t.Errorf("the list became %v", whole)
	}
	bytesIn := bytes.Repeat([]byte{0xee}, 40)
	Put(bytesIn[:3], at(api.MaxTime, 7))
	if !bytes.Equal(bytesIn, bytes.Repeat([]byte{0xee}, 40)) {
		t.Errorf("the bytes became % x", bytesIn)
	}
}

// Rule 4: what is handed out is new memory, its spare room too.
func TestHandsOutNewMemory(t *testing.T) {
	in := []api.Stamp{at(1, 0), at(2, 0), at(3, 0)}
	out := Sort(in)
	out = out[:cap(out)]
	for i := range out {
		out[i] = at(99, 9)
	}
	if !slices.Equal(in, []api.Stamp{at(1, 0), at(2, 0), at(3, 0)}) {
		t.Errorf("the list became %v", in)
	}
	b := make([]byte, 1, 40)
	x, y := Put(b, at(1, 1)), Put(b, at(2, 2))
	x[0] = 7
	if b[0] != 0 || !bytes.Equal(x, []byte{7, 2, 1}) || !bytes.Equal(y, []byte{0, 4, 2}) {
		t.Errorf("two answers of Put share memory: % x, % x, % x", b, x, y)
	}
}
