package buffer

import (
	"math"
	"slices"
	"testing"

	"cachette/api"
	"cachette/entry"
)

// of: a right entry of writer w at index i.
func of(w, i int) api.Entry {
	e := api.Entry{Writer: w, Index: i, At: api.Stamp{T: int64(i + 1), W: w}, Body: []byte{'b', byte(i)}, Sig: 5}
	if i > 0 {
		e.Prev = uint64(100 + i)
	}
	return e
}

// with: e, changed by do.
func with(e api.Entry, do func(e *api.Entry)) api.Entry {
	do(&e)
	return e
}

// newBuffer: an empty buffer for most entries.
func newBuffer(t *testing.T, most int) *Buffer {
	t.Helper()
	b, k := New(most)
	if k != api.OK || b == nil {
		t.Fatalf("New of %d: %v, %d", most, b, k)
	}
	return b
}

// holding: a buffer with room for MaxHeld that holds l.
func holding(t *testing.T, l ...api.Entry) *Buffer {
	t.Helper()
	b := newBuffer(t, api.MaxHeld)
	for _, e := range l {
		holds(t, b, e, api.OK)
	}
	return b
}

// holds: Hold's answer.
func holds(t *testing.T, b *Buffer, e api.Entry, want api.Kind) {
	t.Helper()
	if k := b.Hold(e); k != want {
		t.Errorf("Hold of %v: %d, not %d", e, k, want)
	}
}

// isZero: e is the zero entry.
func isZero(e api.Entry) bool {
	return entry.Same(e, api.Entry{})
}

// has: b holds just those entries, which stand so, by whatever it is asked without a change.
func has(t *testing.T, b *Buffer, want ...api.Entry) {
	t.Helper()
	if got := b.All(); !slices.EqualFunc(got, want, entry.Same) {
		t.Errorf("All: %v, not %v", got, want)
	}
	if b.Len() != len(want) {
		t.Errorf("Len: %d, not %d", b.Len(), len(want))
	}
	e, is := b.First()
	if is != (len(want) > 0) {
		t.Errorf("First of %d: %v, %t", len(want), e, is)
	}
	if is && !entry.Same(e, want[0]) || !is && !isZero(e) {
		t.Errorf("First: %v, not that of %v", e, want)
	}
}

// takes: Take answers e, that is at its place.
func takes(t *testing.T, b *Buffer, e api.Entry) {
	t.Helper()
	if got, is := b.Take(e.Writer, e.Index); !is || !entry.Same(got, e) {
		t.Errorf("Take(%d, %d): %v, %t, not %v", e.Writer, e.Index, got, is, e)
	}
}

// takesNothing: there is nothing at that place.
func takesNothing(t *testing.T, b *Buffer, w, index int) {
	t.Helper()
	if got, is := b.Take(w, index); is || !isZero(got) {
		t.Errorf("Take(%d, %d): %v, %t", w, index, got, is)
	}
}

// runs: Run's answer.
func runs(t *testing.T, b *Buffer, w, index int, want ...api.Entry) {
	t.Helper()
	if got := b.Run(w, index); !slices.EqualFunc(got, want, entry.Same) {
		t.Errorf("Run(%d, %d): %v, not %v", w, index, got, want)
	}
}

// drops: Drop's answer.
func drops(t *testing.T, b *Buffer, w, below, want int) {
	t.Helper()
	if got := b.Drop(w, below); got != want {
		t.Errorf("Drop(%d, %d): %d, not %d", w, below, got, want)
	}
}

// numbers: some that are no writer, or no index, of any entry that is held.
func numbers() []int {
	return []int{math.MinInt, math.MinInt32, -200, -1, 200, 1 << 32, math.MaxInt - 1, math.MaxInt}
}

// wrongEntries: one for each way of not being right, and the zero one.
func wrongEntries() []api.Entry {
	return []api.Entry{
		{},
		with(of(1, 1), func(e *api.Entry) { e.Writer, e.At.W = -1, -1 }),
		with(of(1, 1), func(e *api.Entry) { e.Writer, e.At.W = 8, 8 }),
		with(of(1, 1), func(e *api.Entry) { e.Index = -1 }),
		with(of(1, 1), func(e *api.Entry) { e.Index = 200 }),
		with(of(1, 1), func(e *api.Entry) { e.Index = math.MaxInt }),
		with(of(1, 1), func(e *api.Entry) { e.Index = math.MinInt }),
		with(of(1, 1), func(e *api.Entry) { e.Prev = 0 }),
		with(of(1, 0), func(e *api.Entry) { e.Prev = 1 }),
		with(of(1, 1), func(e *api.Entry) { e.At.T = 0 }),
		with(of(1, 1), func(e *api.Entry) { e.At.T = api.MaxTime + 1 }),
		with(of(1, 1), func(e *api.Entry) { e.At.W = 2 }),
		with(of(1, 1), func(e *api.Entry) { e.Epoch = -2 }),
		with(of(1, 1), func(e *api.Entry) { e.Epoch = 20 }),
		with(of(1, 1), func(e *api.Entry) { e.Body = make([]byte, 1101) }),
	}
}

// others: entries at the place of of(1, 1) that differ from it in one field each.
func others() []api.Entry {
	return []api.Entry{
		with(of(1, 1), func(e *api.Entry) { e.Prev++ }),
		with(of(1, 1), func(e *api.Entry) { e.At.T++ }),
		with(of(1, 1), func(e *api.Entry) { e.Epoch = -1 }),
		with(of(1, 1), func(e *api.Entry) { e.Body = nil }),
		with(of(1, 1), func(e *api.Entry) { e.Body = []byte{'b', 2} }),
		with(of(1, 1), func(e *api.Entry) { e.Sig = 0 }),
	}
}

// P801: New: an empty buffer of each size from 1 to MaxHeld.
func TestNew(t *testing.T) {
	for most := 1; most <= api.MaxHeld; most++ {
		has(t, newBuffer(t, most))
	}
}

// P801: New: BadArg, and no buffer.
func TestNewWrong(t *testing.T) {
	for _, most := range append(numbers(), 0, 17) {
		if b, k := New(most); b != nil || k != api.BadArg {
			t.Errorf("New of %d: %v, %d", most, b, k)
		}
	}
}

// P801: Hold: entries at the edges of all that is right are held as they are.
func TestHold(t *testing.T) {
	l := []api.Entry{
		with(of(0, 0), func(e *api.Entry) { e.Epoch, e.Body, e.Sig = -1, nil, 0 }),
		with(of(0, 199), func(e *api.Entry) { e.Prev, e.At.T, e.Sig = math.MaxUint64, api.MaxTime, math.MaxUint64 }),
		with(of(7, 0), func(e *api.Entry) { e.Body = make([]byte, 1100) }),
		with(of(7, 199), func(e *api.Entry) { e.Epoch = 19 }),
	}
	b := holding(t, l...)
	has(t, b, l...)
	for _, e := range l {
		takes(t, b, e)
	}
	has(t, b)
}

// P801: Hold: BadArg, which changes nothing, whether there is room or not.
func TestHoldWrong(t *testing.T) {
	empty, full := newBuffer(t, 1), newBuffer(t, 1)
	holds(t, full, of(1, 1), api.OK)
	for _, e := range wrongEntries() {
		holds(t, empty, e, api.BadArg)
		holds(t, full, e, api.BadArg)
	}
	has(t, empty)
	has(t, full, of(1, 1))
}

// P801: Hold: Replay and Fork, whether there is room or not; the one that came first stays.
func TestHoldTwice(t *testing.T) {
	for _, most := range []int{2, 3, api.MaxHeld} {
		b := newBuffer(t, most)
		holds(t, b, of(1, 1), api.OK)
		holds(t, b, of(0, 5), api.OK)
		holds(t, b, of(1, 1), api.Replay)
		holds(t, b, of(0, 5), api.Replay)
		for _, e := range others() {
			holds(t, b, e, api.Fork)
		}
		has(t, b, of(0, 5), of(1, 1))
	}
}

// P801: Hold: a body without bytes is one body, nil or not.
func TestHoldWithoutBody(t *testing.T) {
	e := with(of(1, 1), func(e *api.Entry) { e.Body = nil })
	b := holding(t, e)
	holds(t, b, with(e, func(e *api.Entry) { e.Body = []byte{} }), api.Replay)
	has(t, b, e)
}

// P801: Hold: one writer's index is not another's, nor an index a writer's number.
func TestHoldBesides(t *testing.T) {
	b := holding(t, of(2, 1), of(1, 2), of(1, 1), of(2, 2))
	has(t, b, of(1, 1), of(1, 2), of(2, 1), of(2, 2))
}

// P801: Hold: as many as New was told, and no more, till one goes.
func TestHoldFull(t *testing.T) {
	for most := 1; most <= api.MaxHeld; most++ {
		b := newBuffer(t, most)
		var l []api.Entry
		for i := range most {
			holds(t, b, of(3, 2*i), api.OK)
			l = append(l, of(3, 2*i))
		}
		for _, e := range []api.Entry{of(3, 1), of(0, 0), of(7, 199)} {
			holds(t, b, e, api.TooLarge)
		}
		has(t, b, l...)
		takes(t, b, of(3, 0))
		holds(t, b, of(7, 199), api.OK)
		holds(t, b, of(3, 0), api.TooLarge)
		has(t, b, append(l[1:], of(7, 199))...)
	}
}

// P801: Hold: what is held no more may come again, or another one at its place.
func TestHoldAgain(t *testing.T) {
	for what, gone := range map[string]func(b *Buffer){
		"Take": func(b *Buffer) { b.Take(1, 1) },
		"Run":  func(b *Buffer) { b.Run(1, 1) },
		"Drop": func(b *Buffer) { b.Drop(1, 2) },
	} {
		for _, e := range append(others(), of(1, 1)) {
			b := holding(t, of(1, 1))
			gone(b)
			if k := b.Hold(e); k != api.OK {
				t.Errorf("Hold of %v behind %s: %d", e, what, k)
			}
			has(t, b, e)
		}
	}
}

// P802: Take: just the entry at that place, once; nothing elsewhere.
func TestTake(t *testing.T) {
	l := []api.Entry{of(0, 0), of(0, 7), of(1, 7), of(1, 199), of(7, 0)}
	for i, e := range l {
		b := holding(t, l...)
		takes(t, b, e)
		rest := slices.Delete(slices.Clone(l), i, i+1)
		has(t, b, rest...)
		takesNothing(t, b, e.Writer, e.Index)
		has(t, b, rest...)
	}
}

// P802: Take: where there is nothing, false and the zero entry, and nothing changes.
func TestTakeNothing(t *testing.T) {
	b := holding(t, of(1, 7), of(2, 3))
	for _, n := range numbers() {
		takesNothing(t, b, 1, n)
		takesNothing(t, b, n, 7)
		takesNothing(t, b, n, n)
	}
	for _, p := range []place{{1, 6}, {1, 8}, {0, 7}, {2, 7}, {1, 3}, {7, 1}, {3, 2}, {0, 0}} {
		takesNothing(t, b, p.writer, p.index)
	}
	has(t, b, of(1, 7), of(2, 3))
	takesNothing(t, newBuffer(t, 1), 0, 0)
}

// P802: First: by Writer, then Index, whatever their stamps and signatures; it stays.
func TestFirst(t *testing.T) {
	late := with(of(1, 9), func(e *api.Entry) { e.At.T, e.Sig, e.Prev = 99, 99, 99 })
	b := newBuffer(t, api.MaxHeld)
	has(t, b)
	for _, e := range []api.Entry{of(3, 0), of(2, 5), of(2, 4), of(1, 199), late} {
		holds(t, b, e, api.OK)
		for range 3 {
			if got, is := b.First(); !is || !entry.Same(got, e) {
				t.Errorf("First: %v, %t, not %v", got, is, e)
			}
		}
	}
	holds(t, b, of(4, 0), api.OK)
	has(t, b, late, of(1, 199), of(2, 4), of(2, 5), of(3, 0), of(4, 0))
}

// P803: the chapter's example.
func TestExample(t *testing.T) {
	b := holding(t, of(1, 3), of(1, 1), of(1, 2))
	runs(t, b, 1, 1, of(1, 1), of(1, 2), of(1, 3))
	has(t, b)
}

// P803: Run: up to the hole, of that writer alone; the others stay.
func TestRun(t *testing.T) {
	l := []api.Entry{of(0, 5), of(1, 3), of(1, 4), of(1, 5), of(1, 7), of(2, 6)}
	for _, c := range []struct {
		w, index   int
		want, rest []api.Entry
	}{
		{1, 3, l[1:4], []api.Entry{l[0], l[4], l[5]}},
		{1, 4, l[2:4], []api.Entry{l[0], l[1], l[4], l[5]}},
		{1, 5, l[3:4], []api.Entry{l[0], l[1], l[2], l[4], l[5]}},
		{1, 7, l[4:5], []api.Entry{l[0], l[1], l[2], l[3], l[5]}},
		{0, 5, l[:1], l[1:]},
		{2, 6, l[5:], l[:5]},
	} {
		b := holding(t, l...)
		runs(t, b, c.w, c.index, c.want...)
		has(t, b, c.rest...)
		runs(t, b, c.w, c.index)
		has(t, b, c.rest...)
	}
}

// P803: Run: where there is nothing at index itself, nothing is taken.
func TestRunNothing(t *testing.T) {
	l := []api.Entry{of(0, 0), of(1, 3), of(1, 4)}
	b := holding(t, l...)
	for _, n := range numbers() {
		runs(t, b, 1, n)
		runs(t, b, n, 3)
	}
	for _, p := range []place{{1, 2}, {1, 0}, {1, 5}, {0, 1}, {0, 3}, {2, 3}} {
		runs(t, b, p.writer, p.index)
	}
	has(t, b, l...)
	runs(t, newBuffer(t, 1), 0, 0)
}

// P803: Run: up to the last index that there can be, and from the first one on; as many as are held at most.
func TestRunEdges(t *testing.T) {
	b := holding(t, of(1, 0), of(1, 199), of(1, 198), of(2, 0))
	runs(t, b, 1, 198, of(1, 198), of(1, 199))
	runs(t, b, 1, 0, of(1, 0))
	has(t, b, of(2, 0))
	var l []api.Entry
	for i := range api.MaxHeld {
		l = append(l, of(4, i))
	}
	b = holding(t, l...)
	runs(t, b, 4, 0, l...)
	has(t, b)
}

// P804: Drop: those of that writer below the number, and how many they were.
func TestDrop(t *testing.T) {
	l := []api.Entry{of(0, 1), of(1, 0), of(1, 2), of(1, 3), of(1, 199), of(2, 1)}
	for _, c := range []struct {
		w, below, want int
		rest           []api.Entry
	}{
		{1, math.MinInt, 0, l}, {1, -1, 0, l}, {1, 0, 0, l},
		{1, 1, 1, []api.Entry{l[0], l[2], l[3], l[4], l[5]}},
		{1, 2, 1, []api.Entry{l[0], l[2], l[3], l[4], l[5]}},
		{1, 3, 2, []api.Entry{l[0], l[3], l[4], l[5]}},
		{1, 4, 3, []api.Entry{l[0], l[4], l[5]}},
		{1, 199, 3, []api.Entry{l[0], l[4], l[5]}},
		{1, 200, 4, []api.Entry{l[0], l[5]}},
		{1, math.MaxInt, 4, []api.Entry{l[0], l[5]}},
		{0, 1, 0, l}, {0, 2, 1, l[1:]}, {2, math.MaxInt, 1, l[:5]},
		{3, math.MaxInt, 0, l}, {-1, math.MaxInt, 0, l}, {8, 5, 0, l},
		{math.MinInt, math.MaxInt, 0, l}, {math.MaxInt, math.MaxInt, 0, l},
	} {
		b := holding(t, l...)
		drops(t, b, c.w, c.below, c.want)
		has(t, b, c.rest...)
		drops(t, b, c.w, c.below, 0)
		has(t, b, c.rest...)
	}
	drops(t, newBuffer(t, 1), 0, 1, 0)
}

// P804: Drop: all of a full buffer, and then there is room again.
func TestDropAll(t *testing.T) {
	b := newBuffer(t, api.MaxHeld)
	for range 3 {
		for i := range api.MaxHeld {
			holds(t, b, of(6, i), api.OK)
		}
		drops(t, b, 6, api.MaxHeld, api.MaxHeld)
		has(t, b)
	}
}

// P804: All, Len: as they stand, by Writer, then Index; asking changes nothing.
func TestAll(t *testing.T) {
	b := holding(t, of(7, 0), of(0, 199), of(3, 3), of(3, 30), of(0, 2), of(3, 4))
	for range 3 {
		has(t, b, of(0, 2), of(0, 199), of(3, 3), of(3, 4), of(3, 30), of(7, 0))
	}
}

// P801 to P804: of nil: Nil, whatever the entry; false, nothing, 0.
func TestNil(t *testing.T) {
	var b *Buffer
	for _, e := range append(wrongEntries(), of(1, 1)) {
		holds(t, b, e, api.Nil)
	}
	for _, n := range append(numbers(), 0, 1) {
		takesNothing(t, b, n, n)
		runs(t, b, n, n)
		drops(t, b, n, n, 0)
	}
	has(t, b)
}

// P801: a buffer that New did not make has no room, and panics nowhere.
func TestZero(t *testing.T) {
	var b Buffer
	holds(t, &b, of(1, 1), api.TooLarge)
	holds(t, &b, api.Entry{}, api.BadArg)
	takesNothing(t, &b, 1, 1)
	runs(t, &b, 1, 1)
	drops(t, &b, 1, 9, 0)
	has(t, &b)
}
