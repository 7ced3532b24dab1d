package undo

import (
	"bytes"
	"math/rand"
	"slices"
	"strings"
	"testing"

	"cachette/api"
	"cachette/op"
	"cachette/tree"
)

// orders calls each with all orders of l, which it changes in place.
func orders(l []api.Op, n int, each func([]api.Op)) {
	if n == len(l) {
		each(l)
		return
	}
	for i := n; i < len(l); i++ {
		l[n], l[i] = l[i], l[n]
		orders(l, n+1, each)
		l[n], l[i] = l[i], l[n]
	}
}

// meeting: seven operations that hang on each other.
func meeting() []api.Op {
	a, b, c := at(1, 0), at(1, 1), at(2, 0)
	return []api.Op{
		mk(a, root, true, "a"), mk(b, a, true, "b"), mk(c, b, false, "c"),
		mv(at(3, 0), b, root, "b"), mv(at(3, 1), a, b, "in"), wr(at(3, 2), c, "x"), rm(at(4, 0), c),
	}
}

// P1704: the tree is one, in whatever order seven come; and in whatever order they go again.
func TestAllOrders(t *testing.T) {
	ops := meeting()
	want := tree.Build(ops)
	orders(slices.Clone(ops), 0, func(order []api.Op) {
		l := filled(order...)
		if !tree.Same(l.Tree(), want) || l.Len() != len(ops) {
			t.Fatalf("in the order of\n%s:\n%snot:\n%s", tell(order), grown(l.Tree()), grown(want))
		}
		for i, o := range order[:4] {
			l.Remove(o.At)
			if left := tree.Build(order[i+1:]); !tree.Same(l.Tree(), left) {
				t.Fatalf("of\n%s%d went:\n%snot:\n%s", tell(order), i+1, grown(l.Tree()), grown(left))
			}
		}
	})
}

// P1704: which ones came and went again does not tell: of all that stay, the tree is one.
func TestAllThatStay(t *testing.T) {
	ops := some()
	r := rand.New(rand.NewSource(17))
	for set := range 1 << len(ops) {
		var stay, gone []api.Op
		for i, o := range ops {
			if set>>i&1 == 1 {
				stay = append(stay, o)
			} else {
				gone = append(gone, o)
			}
		}
		all := slices.Clone(ops)
		r.Shuffle(len(all), func(i, j int) { all[i], all[j] = all[j], all[i] })
		l := filled(all...)
		r.Shuffle(len(gone), func(i, j int) { gone[i], gone[j] = gone[j], gone[i] })
		for _, o := range gone {
			l.Remove(o.At)
		}
		holds(t, l, stay...)
		if t.Failed() {
			t.Fatalf("those that came:\n%s", tell(all))
		}
	}
}

// anyOp: a right operation of few nodes, of a few times.
func anyOp(r *rand.Rand) api.Op {
	s := at(int64(1+r.Intn(12)), r.Intn(3))
	node, parent := at(int64(1+r.Intn(4)), r.Intn(3)), at(int64(1+r.Intn(4)), r.Intn(3))
	if r.Intn(3) == 0 {
		parent = root
	}
	name := string([]byte{byte('a' + r.Intn(3))})
	if s.T <= 4 && r.Intn(3) > 0 {
		return mk(s, parent, r.Intn(4) > 0, name)
	}
	switch r.Intn(5) {
	case 0:
		return rm(s, node)
	case 1:
		return wr(s, node, name)
	}
	return mv(s, node, parent, name)
}

// model: operations in order, by the chapter's plain words.
type model []api.Op

// later: how many are of a later At.
func (m model) later(s api.Stamp) int {
	n := 0
	for _, o := range m {
		if o.At.T > s.T || o.At.T == s.T && o.At.W > s.W {
			n++
		}
	}
	return n
}

// find: where the one of that At is, -1 where there is none.
func (m model) find(s api.Stamp) int {
	return slices.IndexFunc(m, func(o api.Op) bool { return o.At == s })
}

// insert: P1701, word by word.
func (m *model) insert(o api.Op) (int, api.Kind) {
	if !op.Right(o) {
		return 0, api.BadArg
	}
	if m.find(o.At) >= 0 {
		return 0, api.Replay
	}
	n := m.later(o.At)
	*m = slices.Insert(*m, len(*m)-n, o)
	return n, api.OK
}

// remove: P1702, word by word.
func (m *model) remove(s api.Stamp) (int, api.Kind) {
	i := m.find(s)
	if i < 0 {
		return 0, api.NotFound
	}
	n := m.later(s)
	*m = slices.Delete(*m, i, i+1)
	return n, api.OK
}

// P1701 to P1704: a log and its model, whatever comes and goes, are alike all along; copies that are left behind stay as they were.
func TestAgainstModel(t *testing.T) {
	for seed := range int64(300) {
		r := rand.New(rand.NewSource(seed))
		l, m := New(), model{}
		left, leftAs := New(), model{}
		for range 80 {
			o := anyOp(r)
			if r.Intn(20) == 0 {
				o.Name += "/"
			}
			n, k := 0, api.OK
			want, wantKind := 0, api.OK
			if r.Intn(3) > 0 {
				n, k = l.Insert(o)
				want, wantKind = m.insert(o)
			} else {
				n, k = l.Remove(o.At)
				want, wantKind = m.remove(o.At)
			}
			if n != want || k != wantKind {
				t.Fatalf("of %s: %d, %d, not %d, %d", tell([]api.Op{o}), n, k, want, wantKind)
			}
			holds(t, l, m...)
			if r.Intn(10) == 0 {
				holds(t, left, leftAs...)
				left, leftAs = l, slices.Clone(m)
				l = l.Copy()
			}
			if t.Failed() {
				t.Fatalf("seed %d", seed)
			}
		}
	}
}

// makers: n operations that each make a file in the root, from that time on.
func makers(from int64, n int) []api.Op {
	var out []api.Op
	for i := range n {
		out = append(out, mk(at(from+int64(i), 1), root, false, "f"))
	}
	return out
}

// P1704: with MaxNodes that make something, all are there, in whatever order they come.
func TestMostNodes(t *testing.T) {
	ops := makers(10, api.MaxNodes)
	want := tree.Build(ops)
	rand.New(rand.NewSource(1)).Shuffle(len(ops), func(i, j int) { ops[i], ops[j] = ops[j], ops[i] })
	l := filled(ops...)
	if !tree.Same(l.Tree(), want) || l.Tree().Len() != api.MaxNodes || l.Len() != api.MaxNodes {
		t.Errorf("%d operations, %d items", l.Len(), l.Tree().Len())
	}
}

// P1701, P1702: one more than MaxNodes is among them, but not in the tree, as Build passes it over; once another one goes, it is.
func TestBeyondMostNodes(t *testing.T) {
	ops := makers(10, api.MaxNodes+2)
	l := filled(ops...)
	last, lastBut := ops[len(ops)-1].At, ops[len(ops)-2].At
	write := wr(at(9000, 2), lastBut, "x")
	inserts(t, l, write, 0)
	is := func(what string, items int, there ...bool) {
		t.Helper()
		_, a := l.Tree().Get(lastBut)
		_, b := l.Tree().Get(last)
		if l.Tree().Len() != items || a != there[0] || b != there[1] {
			t.Errorf("%s: %d items, %t, %t", what, l.Tree().Len(), a, b)
		}
		holds(t, l, l.Ops()...)
	}
	is("two too many", api.MaxNodes, false, false)
	removes(t, l, ops[7].At, len(ops)-8+1)
	is("one too many", api.MaxNodes, true, false)
	removes(t, l, ops[0].At, len(ops)-2+1)
	is("none too many", api.MaxNodes, true, true)
	if it, _ := l.Tree().Get(lastBut); string(it.Data) != "x" {
		t.Errorf("not written: %q", it.Data)
	}
	inserts(t, l, mk(at(1, 0), root, true, "early"), api.MaxNodes+1)
	is("one too many again", api.MaxNodes, true, false)
	inserts(t, l, mk(at(2, 0), at(1, 0), true, "early"), api.MaxNodes+1)
	is("two too many again", api.MaxNodes, false, false)
	removes(t, l, last, 1)
	is("the last went", api.MaxNodes, false, false)
}

// scribbled: Data with spare room, which the caller writes into later.
func scribbled(text string) []byte {
	return append(make([]byte, 0, 64), text...)
}

// scribble: all of b, spare room too, is written over.
func scribble(b []byte) {
	b = b[:cap(b)]
	for i := range b {
		b[i] = '#'
	}
}

// Rule 4: what is handed in is not kept, and not changed, nor its spare room.
func TestHandedIn(t *testing.T) {
	f := mk(at(1, 0), root, false, "f")
	l := filled(f)
	o := wr(at(2, 0), f.At, "")
	o.Data = scribbled("text")
	whole := strings.Clone(string(o.Data[:cap(o.Data)]))
	inserts(t, l, o, 0)
	inserts(t, l, rm(at(1, 1), f.At), 1)
	if string(o.Data[:cap(o.Data)]) != whole {
		t.Error("what was handed in has changed")
	}
	scribble(o.Data)
	holds(t, l, f, rm(at(1, 1), f.At), wr(at(2, 0), f.At, "text"))
	// Done again, it writes what it wrote.
	removes(t, l, at(1, 1), 1)
	holds(t, l, f, wr(at(2, 0), f.At, "text"))
}

// Rule 4: what is handed out is new memory, spare room too; nobody sees what the caller writes into it.
func TestHandedOut(t *testing.T) {
	f := mk(at(1, 0), root, false, "f")
	ops := []api.Op{f, wr(at(2, 0), f.At, "one"), wr(at(3, 0), f.At, "two"), rm(at(4, 0), f.At)}
	l := filled(ops...)
	c := l.Copy()
	for _, x := range []*Log{l, c} {
		got := x.Ops()
		for _, o := range got {
			scribble(o.Data)
		}
		clear(got[:cap(got)])
		for _, it := range x.Tree().All() {
			scribble(it.Data)
		}
	}
	holds(t, l, ops...)
	holds(t, c, ops...)
	// What is kept to undo is nobody's, too.
	removes(t, l, at(4, 0), 0)
	removes(t, l, at(3, 0), 0)
	holds(t, l, ops[:2]...)
	removes(t, c, at(3, 0), 1)
	holds(t, c, ops[0], ops[1], ops[3])
}

// Rule 4: no two lists of one answer share memory.
func TestHandedOutApart(t *testing.T) {
	f := mk(at(1, 0), root, false, "f")
	l := filled(f, wr(at(2, 0), f.At, "one"), wr(at(3, 0), f.At, "two"))
	got := l.Ops()
	_ = append(got[1].Data, "more"...)
	scribble(got[1].Data)
	if !bytes.Equal(got[2].Data, []byte("two")) {
		t.Errorf("%q", got[2].Data)
	}
}
