package tree

import (
	"bytes"
	"maps"
	"math/rand"
	"slices"
	"testing"

	"cachette/api"
)

// model: a tree as the chapter tells it: items in no order, asked by plain rules.
type model []Item

// find: where the item of n is, -1 where there is none.
func (m model) find(n api.Stamp) int {
	return slices.IndexFunc(m, func(it Item) bool { return it.Node == n })
}

// within: the chapter's word: it, and all items whose Parent is within it, till there are no more.
func (m model) within(n api.Stamp) map[api.Stamp]bool {
	all := map[api.Stamp]bool{n: true}
	for grew := true; grew; {
		grew = false
		for _, it := range m {
			if all[it.Parent] && !all[it.Node] {
				all[it.Node], grew = true, true
			}
		}
	}
	return all
}

// isWithin: P1603, word by word.
func (m model) isWithin(n, x api.Stamp) bool {
	switch {
	case x == n:
		return true
	case n == root:
		return m.find(x) >= 0
	case m.find(n) < 0 || m.find(x) < 0:
		return false
	}
	return m.within(n)[x]
}

// hangs: P1604: what is within the root, when all that is gone is left out.
func (m model) hangs(n api.Stamp) bool {
	left := slices.DeleteFunc(slices.Clone(m), func(it Item) bool { return it.Gone })
	return left.within(root)[n]
}

// do: P1601, word by word.
func (m *model) do(o api.Op) (Item, bool, api.Kind) {
	i := m.find(o.Node)
	was := Item{}
	if i >= 0 {
		was = (*m)[i]
	}
	p := m.find(o.Parent)
	noParent := o.Parent != root && (p < 0 || !(*m)[p].Dir)
	switch {
	case o.Kind == 1 && i < 0 && !noParent:
		if len(*m) == api.MaxNodes {
			return Item{}, false, api.TooLarge
		}
		*m = append(*m, Item{Node: o.Node, Parent: o.Parent, Name: o.Name, Dir: o.Dir})
	case o.Kind == 2 && i >= 0 && !noParent && !m.within(o.Node)[o.Parent]:
		(*m)[i].Parent, (*m)[i].Name, (*m)[i].Gone = o.Parent, o.Name, false
	case o.Kind == 3 && i >= 0:
		(*m)[i].Gone = true
	case o.Kind == 4 && i >= 0 && !was.Dir:
		(*m)[i].Data, (*m)[i].By = o.Data, o.At
	}
	return was, i >= 0, api.OK
}

// set: P1602, word by word.
func (m *model) set(it Item, there bool) {
	*m = slices.DeleteFunc(slices.Clone(*m), func(x Item) bool { return x.Node == it.Node })
	if there {
		*m = append(*m, it)
	}
}

// inOrder: its items, by their stamps.
func (m model) inOrder() []Item {
	out := slices.Clone(m)
	slices.SortFunc(out, func(a, b Item) int {
		if a.Node.T < b.Node.T || a.Node.T == b.Node.T && a.Node.W < b.Node.W {
			return -1
		}
		return 1
	})
	return out
}

// alikeInAll: u and its model answer alike, whatever they are asked of these stamps.
func alikeInAll(t *testing.T, u *Tree, m model, l []api.Stamp) {
	t.Helper()
	has(t, u, m.inOrder()...)
	for _, n := range l {
		if got := u.Hangs(n); got != m.hangs(n) {
			t.Errorf("Hangs of %v: %t", n, got)
		}
		if got, there := u.Get(n); there != (m.find(n) >= 0) || there && told(got) != told(m[m.find(n)]) {
			t.Errorf("Get of %v: %s, %t", n, told(got), there)
		}
		kids(t, u, n, slices.DeleteFunc(m.inOrder(), func(it Item) bool { return it.Gone || it.Parent != n })...)
		for _, x := range l {
			within(t, u, n, x, m.isWithin(n, x))
		}
	}
	if t.Failed() {
		t.Fatalf("of:\n%s", tell(u.All()))
	}
}

// both: a tree and its model do o, and answer alike.
func both(t *testing.T, u *Tree, m *model, o api.Op) {
	t.Helper()
	was, wasThere, want := m.do(o)
	got, there, k := u.Do(o)
	if told(got) != told(was) || there != wasThere || k != want {
		t.Fatalf("Do of %v: %s, %t, %d, not %s, %t, %d", o, told(got), there, k, told(was), wasThere, want)
	}
}

// nodes: few, so that operations meet.
func nodes() []api.Stamp {
	return []api.Stamp{at(1, 0), at(1, 1), at(2, 1), at(3, 0), at(4, 2), at(5, 0), at(6, 1)}
}

// anyOp: a right operation of few nodes.
func anyOp(r *rand.Rand, when int64) api.Op {
	l := nodes()
	n, p := l[r.Intn(len(l))], l[r.Intn(len(l))]
	if r.Intn(3) == 0 {
		p = root
	}
	s, name := at(when, r.Intn(api.MaxMembers)), string([]byte{byte('a' + r.Intn(3))})
	switch r.Intn(7) {
	case 0, 1:
		return mk(n, p, r.Intn(4) > 0, name)
	case 2, 3, 4:
		return mv(s, n, p, name)
	case 5:
		return rm(s, n)
	}
	return wr(s, n, name)
}

// P1601 to P1604: a tree and its model, whatever operations are done, are alike all along.
func TestAgainstModel(t *testing.T) {
	asked := append(nodes(), root, at(9, 0), at(0, 1))
	for seed := range int64(300) {
		r := rand.New(rand.NewSource(seed))
		u, m := New(), model{}
		for i := range int64(60) {
			both(t, u, &m, anyOp(r, 10+i))
			alikeInAll(t, u, m, asked)
		}
	}
}

// P1602, P1603, P1604: likewise, if items are set as they come: in rings, in files, in what is not there.
func TestAgainstModelWithSet(t *testing.T) {
	asked := append(nodes(), root, at(9, 0), at(0, 1))
	parents := append(asked, at(-1, -1))
	for seed := range int64(300) {
		r := rand.New(rand.NewSource(seed))
		u, m := New(), model{}
		for i := range int64(60) {
			if r.Intn(2) == 0 {
				both(t, u, &m, anyOp(r, 10+i))
			} else {
				it := Item{Node: nodes()[r.Intn(7)], Parent: parents[r.Intn(len(parents))], Dir: r.Intn(2) == 0, Gone: r.Intn(3) == 0, Name: "s", Data: []byte{byte(i)}, By: at(i, 0)}
				there := r.Intn(4) > 0
				if k := u.Set(it, there); k != api.OK {
					t.Fatalf("Set of %s: %d", told(it), k)
				}
				m.set(it, there)
			}
			alikeInAll(t, u, m, asked)
		}
	}
}

// P1601 to P1604: all rows of five of these.
func TestAllRows(t *testing.T) {
	a, b, c := at(1, 0), at(2, 0), at(3, 0)
	l := []api.Op{
		mk(a, root, true, "a"), mk(b, a, true, "b"), mk(c, b, false, "c"), mk(b, root, false, "b"),
		mv(at(4, 0), a, b, "in"), mv(at(5, 0), b, root, "out"), mv(at(6, 0), c, a, "up"),
		rm(at(7, 0), a), rm(at(8, 0), b), wr(at(9, 0), c, "x"),
	}
	for row := range 100_000 {
		u, m := New(), model{}
		for range 5 {
			both(t, u, &m, l[row%len(l)])
			row /= len(l)
		}
		alikeInAll(t, u, m, []api.Stamp{root, a, b, c, at(4, 0)})
	}
}

// someOps: right operations, in order, each of an At of its own, some of nodes that are made later, or never.
func someOps(r *rand.Rand, n int) []api.Op {
	var l []api.Op
	var made []api.Stamp
	node := func(i int) api.Stamp {
		if len(made) == 0 || r.Intn(6) == 0 {
			i += r.Intn(5)
			return at(int64(1+i/3), i%3)
		}
		return made[r.Intn(len(made))]
	}
	for i := range n {
		s, p, name := at(int64(1+i/3), i%3), node(i), string([]byte{byte('a' + i%20)})
		if r.Intn(4) == 0 {
			p = root
		}
		switch r.Intn(8) {
		case 0, 1:
			l = append(l, mk(s, p, r.Intn(5) > 0, name))
			made = append(made, s)
		case 2, 3, 4, 5:
			l = append(l, mv(s, node(i), p, name))
		case 6:
			l = append(l, rm(s, node(i)))
		default:
			l = append(l, wr(s, node(i), name))
		}
	}
	return l
}

// P1606: no item of a tree that is built is within itself: its parent is not within it, and going up leads to the root.
func TestBuiltHasNoRing(t *testing.T) {
	refused := 0
	for seed := range int64(300) {
		l := someOps(rand.New(rand.NewSource(seed)), 100)
		u := Build(l)
		m := model(u.All())
		joined := m.within(root)
		for _, it := range m {
			if u.Within(it.Node, it.Parent) || m.within(it.Node)[it.Parent] || !joined[it.Node] {
				t.Fatalf("%s is within itself, in:\n%s", told(it), tell(m))
			}
			if p, there := u.Get(it.Parent); it.Parent != root && (!there || !p.Dir) {
				t.Fatalf("%s is in no directory, in:\n%s", told(it), tell(m))
			}
		}
		refused += rings(l)
	}
	if refused < 300 {
		t.Errorf("only %d moves would have made a ring", refused)
	}
}

// rings: how many of the moves of l would have made a ring.
func rings(l []api.Op) int {
	n, m := 0, model{}
	for _, o := range l {
		if o.Kind == 2 && m.find(o.Node) >= 0 && m.within(o.Node)[o.Parent] {
			n++
		}
		m.do(o)
	}
	return n
}

// P1605, P1606: a tree hangs on which operations there are alone, not on their order; it is what they do, one behind the other, by their Ats.
func TestWhateverOrder(t *testing.T) {
	for seed := range int64(200) {
		r := rand.New(rand.NewSource(seed))
		l := someOps(r, 60)
		m := model{}
		for _, o := range l {
			m.do(o)
		}
		want := Build(l)
		has(t, want, m.inOrder()...)
		for range 5 {
			r.Shuffle(len(l), func(i, j int) { l[i], l[j] = l[j], l[i] })
			u := Build(append(slices.Clone(l), l[:20]...)) // some twice
			has(t, u, m.inOrder()...)
			if !Same(u, want) || !Same(want, u) {
				t.Fatal("another order makes another tree")
			}
		}
	}
}

// P1606: all orders of six operations that lean on each other.
func TestAllOrders(t *testing.T) {
	a, b := at(1, 1), at(1, 2)
	l := []api.Op{mk(a, root, true, "a"), mk(b, root, true, "b"), mv(at(2, 1), a, b, "x"), mv(at(2, 2), b, a, "y"), rm(at(3, 1), a), mv(at(4, 1), a, root, "z")}
	want := []Item{dir(a, root, "z"), dir(b, root, "b")}
	var from func(n int)
	from = func(n int) {
		if n == len(l) {
			has(t, Build(l), want...)
		}
		for i := n; i < len(l); i++ {
			l[n], l[i] = l[i], l[n]
			from(n + 1)
			l[n], l[i] = l[i], l[n]
		}
	}
	from(0)
}

// P1601, P1602: what Do answers is what it takes to undo it.
func TestUndone(t *testing.T) {
	for seed := range int64(200) {
		r := rand.New(rand.NewSource(seed))
		u := New()
		var before []string
		var was []Item
		var there []bool
		for i := range int64(80) {
			o := anyOp(r, 10+i)
			before = append(before, tell(u.All()))
			it, is, _ := u.Do(o)
			it.Node = o.Node // which there was none of
			was, there = append(was, it), append(there, is)
		}
		for i := len(was) - 1; i >= 0; i-- {
			if k := u.Set(was[i], there[i]); k != api.OK || tell(u.All()) != before[i] {
				t.Fatalf("the %d-th: %d, now:\n%snot:\n%s", i, k, tell(u.All()), before[i])
			}
		}
	}
}

// spare: a copy of b whose spare room has something in it.
func spare(b string) []byte {
	return append([]byte(b), 0xee, 0xee, 0xee)[:len(b)]
}

// Rule 4: what is handed in is not changed, its spare room neither, and not kept.
func TestKeepsNothing(t *testing.T) {
	n, s := at(1, 1), at(2, 1)
	want := written(file(n, root, "a"), "data", s)
	write := func() api.Op {
		o := wr(s, n, "")
		o.Data = spare("data")
		return o
	}
	isLeft := func(u *Tree, data []byte) {
		t.Helper()
		if !bytes.Equal(data[:7], []byte("data\xee\xee\xee")) {
			t.Errorf("it became %q", data[:7])
		}
		clear(data[:7])
		has(t, u, want)
	}
	u := New()
	u.Do(mk(n, root, false, "a"))
	o := write()
	u.Do(o)
	isLeft(u, o.Data)

	l := []api.Op{write(), mk(n, root, false, "a"), write()}
	u = Build(l[:2])
	if l[0].Kind != 4 || l[1].Kind != 1 || l[2].Kind != 4 {
		t.Errorf("the list became %v", l)
	}
	isLeft(u, l[0].Data)

	it := want
	it.Data = spare("data")
	isLeft(tree(t, it), it.Data)
}

// Rule 4: what is handed out is the caller's, each list in it, spare room too.
func TestHandsOutNewMemory(t *testing.T) {
	a, b := dir(at(1, 1), root, "a"), written(file(at(2, 1), root, "b"), "bb", at(4, 1))
	c := written(file(at(3, 1), root, "c"), "cc", at(4, 1))
	u := tree(t, a, b, c)
	var lists [][]byte
	for _, get := range []func() []Item{
		u.All,
		func() []Item { return u.Kids(root) },
		func() []Item { it, _ := u.Get(b.Node); return []Item{it} },
		func() []Item { it, _, _ := u.Do(wr(at(4, 1), b.Node, "bb")); return []Item{it} },
		func() []Item { it, _, _ := u.Do(mv(at(5, 1), b.Node, root, "b")); return []Item{it} },
		func() []Item { it, _, _ := u.Do(mk(b.Node, root, true, "x")); return []Item{it} },
	} {
		l := get()
		for _, it := range l {
			lists = append(lists, it.Data[:cap(it.Data)])
		}
		l = l[:cap(l)]
		for i := range l {
			l[i] = Item{Name: "scribbled"}
		}
		has(t, u, a, b, c)
	}
	for i, p := range lists {
		for j := range p {
			p[j] = byte(200 + i)
		}
	}
	for i, p := range lists {
		if slices.ContainsFunc(p, func(x byte) bool { return x != byte(200+i) }) {
			t.Error("two lists share memory")
		}
	}
	has(t, u, a, b, c)
	if !Same(u, tree(t, a, b, c)) {
		t.Error("it became another tree")
	}
}

// Rule 4: trees share nothing: what is done to one, the other does not see.
func TestTreesAreApart(t *testing.T) {
	l := []api.Op{mk(at(1, 1), root, true, "a"), mk(at(2, 1), at(1, 1), false, "b"), wr(at(3, 1), at(2, 1), "bb")}
	u, v := Build(l), Build(l)
	want := u.All()
	u.Do(wr(at(4, 1), at(2, 1), "cc"))
	u.Do(rm(at(5, 1), at(1, 1)))
	u.Do(mk(at(6, 1), root, false, "d"))
	u.Set(want[1], false)
	has(t, v, want...)
}

// Rule 5: what is asked changes nothing, and is answered alike again.
func TestAskedAgain(t *testing.T) {
	u := Build(someOps(rand.New(rand.NewSource(5)), 100))
	before := maps.Clone(u.items)
	all, some := tell(u.All()), tell(u.Kids(root))
	for range 50 {
		if tell(u.All()) != all || tell(u.Kids(root)) != some || !Same(u, u) {
			t.Fatal("another answer")
		}
	}
	for n := range before {
		u.Hangs(n)
		u.Within(root, n)
		u.Within(n, root)
		u.Get(n)
	}
	if !maps.EqualFunc(before, u.items, func(a, b Item) bool { return told(a) == told(b) }) {
		t.Error("asking changed something")
	}
}
