package buffer

import (
	"bytes"
	"cmp"
	"math/rand"
	"slices"
	"testing"

	"cachette/api"
	"cachette/entry"
)

// orders: calls do with each order of l.
func orders(l []api.Entry, do func(l []api.Entry)) {
	var from func(n int)
	from = func(n int) {
		if n == len(l) {
			do(l)
			return
		}
		for i := n; i < len(l); i++ {
			l[n], l[i] = l[i], l[n]
			from(n + 1)
			l[n], l[i] = l[i], l[n]
		}
	}
	from(0)
}

// emptied: what comes out if the first one is taken again and again.
func emptied(t *testing.T, b *Buffer) []api.Entry {
	t.Helper()
	var out []api.Entry
	for e, is := b.First(); is; e, is = b.First() {
		takes(t, b, e)
		takesNothing(t, b, e.Writer, e.Index)
		out = append(out, e)
		if len(out) > api.MaxHeld {
			t.Fatal("more comes out than was held")
		}
	}
	return out
}

// P805: whatever the order in which they came, each comes out once, and all ways out tell them as they stand.
func TestAllOrders(t *testing.T) {
	l := []api.Entry{of(0, 3), of(1, 0), of(1, 1), of(1, 2), of(1, 9), of(4, 1)}
	orders(slices.Clone(l), func(came []api.Entry) {
		b := holding(t, came...)
		has(t, b, l...)
		if got := emptied(t, b); !slices.EqualFunc(got, l, entry.Same) {
			t.Fatalf("out of %v: %v", came, got)
		}
		b = holding(t, came...)
		runs(t, b, 1, 0, l[1:4]...)
		has(t, b, l[0], l[4], l[5])
		b = holding(t, came...)
		drops(t, b, 1, 2, 2)
		has(t, b, l[0], l[3], l[4], l[5])
	})
}

// P805: as they come out is how they stand, whichever are taken out from the midst.
func TestTakenInAllOrders(t *testing.T) {
	l := []api.Entry{of(0, 3), of(1, 0), of(1, 1), of(2, 8), of(2, 9), of(4, 1)}
	orders(slices.Clone(l), func(taken []api.Entry) {
		b := holding(t, l...)
		rest := slices.Clone(l)
		for _, e := range taken {
			takes(t, b, e)
			rest = slices.DeleteFunc(rest, func(x api.Entry) bool { return entry.Same(x, e) })
			has(t, b, rest...)
		}
	})
}

// model: a buffer as the chapter tells it: entries as they stand, asked by plain rules.
type model struct {
	most int
	l    []api.Entry
}

// hold: P801, word by word.
func (m *model) hold(e api.Entry) api.Kind {
	if !entry.Right(e) {
		return api.BadArg
	}
	for _, x := range m.l {
		if x.Writer == e.Writer && x.Index == e.Index {
			if entry.Same(x, e) {
				return api.Replay
			}
			return api.Fork
		}
	}
	if len(m.l) == m.most {
		return api.TooLarge
	}
	m.l = append(m.l, e)
	slices.SortFunc(m.l, func(a, b api.Entry) int {
		return cmp.Or(cmp.Compare(a.Writer, b.Writer), cmp.Compare(a.Index, b.Index))
	})
	return api.OK
}

// out: those that go are held no more.
func (m *model) out(goes func(e api.Entry) bool) []api.Entry {
	var gone, rest []api.Entry
	for _, e := range m.l {
		if goes(e) {
			gone = append(gone, e)
		} else {
			rest = append(rest, e)
		}
	}
	m.l = rest
	return gone
}

// run: P803, word by word.
func (m *model) run(w, index int) []api.Entry {
	return m.out(func(e api.Entry) bool {
		if e.Writer != w || e.Index != index {
			return false
		}
		index++
		return true
	})
}

// drawn: an entry of few places, at times another one of that place, or one that is not right.
func drawn(r *rand.Rand) api.Entry {
	e := of(r.Intn(3), r.Intn(8))
	switch r.Intn(8) {
	case 0:
		e.Sig = 6
	case 1:
		e.Body = nil
	case 2:
		e.Epoch = 20
	}
	return e
}

// P801 to P805: a buffer and its model, whatever comes in and goes out, are alike all along; what comes in comes out once.
func TestAgainstModel(t *testing.T) {
	total := 0
	for seed := range int64(200) {
		r := rand.New(rand.NewSource(seed))
		m := &model{most: 1 + r.Intn(api.MaxHeld)}
		b := newBuffer(t, m.most)
		in, out := 0, 0
		for range 200 {
			w, i := r.Intn(3), r.Intn(10)-1
			switch r.Intn(12) {
			case 0:
				l := m.run(w, i)
				runs(t, b, w, i, l...)
				out += len(l)
			case 1:
				l := m.out(func(e api.Entry) bool { return e.Writer == w && e.Index < i })
				drops(t, b, w, i, len(l))
				out += len(l)
			case 2, 3:
				l := m.out(func(e api.Entry) bool { return e.Writer == w && e.Index == i })
				if len(l) == 0 {
					takesNothing(t, b, w, i)
				} else {
					takes(t, b, l[0])
				}
				out += len(l)
			default:
				e := drawn(r)
				k := m.hold(e)
				holds(t, b, e, k)
				if k == api.OK {
					in++
				}
			}
			has(t, b, m.l...)
		}
		if out += len(emptied(t, b)); in != out {
			t.Fatalf("seed %d: %d came in, %d came out", seed, in, out)
		}
		total += in
	}
	if total < 2000 {
		t.Errorf("only %d entries came in", total)
	}
}

// spare: e, its body with room behind it.
func spare(e api.Entry) api.Entry {
	e.Body = append(bytes.Clone(e.Body), 0xEE, 0xEE, 0xEE)[:len(e.Body)]
	return e
}

// scribble writes over b and its spare room.
func scribble(b []byte) {
	b = b[:cap(b)]
	for i := range b {
		b[i] = 0x55
	}
}

// Rule 4: what is handed in is not changed, its spare room neither, and not kept.
func TestKeepsNothingOfTheCaller(t *testing.T) {
	b := newBuffer(t, 2)
	e := spare(of(1, 1))
	holds(t, b, e, api.OK)
	holds(t, b, e, api.Replay)
	b.All()
	if !bytes.Equal(e.Body[:5], []byte{'b', 1, 0xEE, 0xEE, 0xEE}) {
		t.Errorf("the body became % X", e.Body[:5])
	}
	scribble(e.Body)
	has(t, b, of(1, 1))
	e = spare(of(1, 1))
	takes(t, b, e)
	if !bytes.Equal(e.Body[:5], []byte{'b', 1, 0xEE, 0xEE, 0xEE}) {
		t.Errorf("the body became % X", e.Body[:5])
	}
}

// Rule 4: what is handed out is new memory, its spare room too: writing into it changes nothing.
func TestHandsOutNewMemory(t *testing.T) {
	l := []api.Entry{of(0, 0), of(1, 1), of(1, 2), of(2, 5)}
	b := holding(t, l...)
	first, _ := b.First()
	scribble(first.Body)
	has(t, b, l...)
	all := b.All()
	for _, e := range all {
		scribble(e.Body)
	}
	all = all[:cap(all)]
	for i := range all {
		all[i] = api.Entry{}
	}
	has(t, b, l...)
	taken, _ := b.Take(2, 5)
	scribble(taken.Body)
	has(t, b, l[:3]...)
	run := b.Run(1, 1)
	scribble(run[0].Body)
	if !entry.Same(run[1], of(1, 2)) {
		t.Errorf("two lists of one answer share memory: %v", run[1])
	}
	run = run[:cap(run)]
	for i := range run {
		run[i] = api.Entry{}
	}
	has(t, b, l[0])
}

// Rule 4: what was taken is the caller's alone: what comes in later does not write into it.
func TestTakenIsTheCallers(t *testing.T) {
	b := holding(t, of(1, 1), of(1, 2))
	taken, _ := b.Take(1, 1)
	run := b.Run(1, 2)
	for i := range api.MaxHeld {
		holds(t, b, of(5, i), api.OK)
	}
	if !entry.Same(taken, of(1, 1)) || len(run) != 1 || !entry.Same(run[0], of(1, 2)) {
		t.Errorf("what was taken became %v, %v", taken, run)
	}
}

// Rule 5: two buffers share nothing.
func TestApart(t *testing.T) {
	a, b := holding(t, of(1, 1)), newBuffer(t, 1)
	has(t, b)
	holds(t, b, of(1, 1), api.OK)
	takes(t, a, of(1, 1))
	has(t, a)
	has(t, b, of(1, 1))
}

// Rule 8 of the language: nothing of what went is kept in the room behind the last one.
func TestForgets(t *testing.T) {
	b := holding(t, of(1, 1), of(1, 2), of(2, 1))
	b.Take(1, 1)
	b.Run(1, 2)
	b.Drop(2, 9)
	for _, e := range b.held.line[:cap(b.held.line)] {
		if !isZero(e) {
			t.Errorf("%v is still there", e)
		}
	}
}
