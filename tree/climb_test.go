package tree

import (
	"testing"

	"cachette/api"
)

// within: Within's answer.
func within(t *testing.T, u *Tree, n, m api.Stamp, want bool) {
	t.Helper()
	if got := u.Within(n, m); got != want {
		t.Errorf("is %v within %v? %t", m, n, got)
	}
}

// hang: which of all items hang.
func hang(t *testing.T, u *Tree, want ...Item) {
	t.Helper()
	var got []Item
	for _, it := range u.All() {
		if u.Hangs(it.Node) {
			got = append(got, it)
		}
	}
	if tell(got) != tell(want) {
		t.Errorf("what hangs:\n%snot:\n%s", tell(got), tell(want))
	}
	if !u.Hangs(root) {
		t.Error("the root does not hang")
	}
}

// P1603: a node is within itself, its parent and all above that, and within nothing else.
func TestWithin(t *testing.T) {
	a, b := dir(at(1, 1), root, "a"), dir(at(2, 1), at(1, 1), "b")
	c, d := dir(at(3, 1), b.Node, "c"), file(at(4, 1), at(3, 1), "d")
	e, f := dir(at(5, 1), root, "e"), file(at(6, 1), at(1, 1), "f")
	above := map[api.Stamp][]api.Stamp{
		root:   {root},
		a.Node: {root, a.Node},
		b.Node: {root, a.Node, b.Node},
		c.Node: {root, a.Node, b.Node, c.Node},
		d.Node: {root, a.Node, b.Node, c.Node, d.Node},
		e.Node: {root, e.Node},
		f.Node: {root, a.Node, f.Node},
	}
	for _, u := range []*Tree{
		tree(t, a, b, c, d, e, f),
		tree(t, a, gone(b), c, gone(d), gone(e), f), // who is gone is where it was
	} {
		for m, l := range above {
			for n := range above {
				want := false
				for _, x := range l {
					want = want || x == n
				}
				within(t, u, n, m, want)
			}
		}
	}
}

// P1603: of stamps that are not there: false, but of two that are alike.
func TestWithinNotThere(t *testing.T) {
	a, b := dir(at(1, 1), root, "a"), file(at(2, 1), at(1, 1), "b")
	orphan, its := dir(at(3, 1), at(9, 1), "orphan"), file(at(4, 1), at(3, 1), "its")
	u := tree(t, a, b, orphan, its)
	for _, x := range append(wrongStamps(), at(9, 1), at(1, 2), at(2, 2)) {
		for _, y := range []api.Stamp{root, a.Node, b.Node, orphan.Node, its.Node, at(8, 1), at(9, 3)} {
			if x != root {
				within(t, u, x, y, false) // nothing is within what is not there, an orphan neither
				within(t, u, y, x, false)
			}
		}
		within(t, u, x, x, true)
		within(t, New(), x, x, true)
	}
	within(t, u, orphan.Node, its.Node, true)
	within(t, u, its.Node, orphan.Node, false)
	within(t, u, a.Node, orphan.Node, false)
}

// P1603: the root has all that is there within it, also what no chain joins to it; and it is within nothing but itself.
func TestWithinRoot(t *testing.T) {
	l := []Item{
		dir(at(1, 1), root, "a"), file(at(2, 1), at(1, 1), "b"), gone(file(at(3, 1), root, "gone")),
		dir(at(4, 1), at(9, 9), "an orphan"), dir(at(5, 1), at(5, 1), "its own"), dir(at(6, 1), at(7, 1), "ring"), dir(at(7, 1), at(6, 1), "ring"),
	}
	u := tree(t, l...)
	for _, it := range l {
		within(t, u, root, it.Node, true)
		within(t, u, it.Node, root, false)
	}
	within(t, u, root, root, true)
	within(t, u, root, at(8, 1), false)
	within(t, u, root, at(9, 9), false)
	within(t, New(), root, root, true)
}

// P1603, P1604: rings, which Set may make, are gone round for so long, and no longer.
func TestRings(t *testing.T) {
	a, b, c := dir(at(1, 1), at(2, 1), "a"), dir(at(2, 1), at(3, 1), "b"), dir(at(3, 1), at(1, 1), "c")
	own, in, out := dir(at(4, 1), at(4, 1), "own"), file(at(5, 1), at(1, 1), "in"), dir(at(6, 1), root, "out")
	u := tree(t, a, b, c, own, in, out)
	ring := []Item{a, b, c}
	for _, x := range ring {
		for _, y := range ring {
			within(t, u, x.Node, y.Node, true)
		}
		within(t, u, x.Node, in.Node, true)
		within(t, u, in.Node, x.Node, false)
		within(t, u, own.Node, x.Node, false)
		within(t, u, x.Node, own.Node, false)
		within(t, u, out.Node, x.Node, false)
	}
	within(t, u, own.Node, own.Node, true)
	within(t, u, out.Node, own.Node, false)
	hang(t, u, out)
}

// line: so many directories, each in the one ahead of it, the first one in the root.
func line(t *testing.T, n int) (*Tree, []Item) {
	t.Helper()
	var l []Item
	parent := root
	for i := range n {
		it := dir(at(int64(i+1), i%api.MaxMembers), parent, "d")
		l, parent = append(l, it), it.Node
	}
	return tree(t, l...), l
}

// P1603, P1604: chains are followed for MaxNodes and 1 steps.
func TestLongChains(t *testing.T) {
	const most = api.MaxNodes + 1
	u, l := line(t, most+100)
	for i, x := range l {
		for j, y := range l {
			within(t, u, x.Node, y.Node, i <= j && j-i <= most)
		}
		within(t, u, root, x.Node, true)
	}
	hang(t, u, l[:most]...) // the i-th is i + 1 steps below the root
	if !u.Hangs(l[most-1].Node) || u.Hangs(l[most].Node) {
		t.Error("another count of steps")
	}
}

// P1603, P1604: the deepest tree that operations make is within the bound.
func TestDeepestTree(t *testing.T) {
	u, l := line(t, api.MaxNodes)
	last := l[len(l)-1].Node
	for _, it := range l {
		within(t, u, it.Node, last, true)
	}
	hang(t, u, l...)
	u.Set(gone(l[0]), true)
	hang(t, u)
}

// P1604: what is there, not gone, and in what hangs.
func TestHangs(t *testing.T) {
	a, b := dir(at(1, 1), root, "a"), dir(at(2, 1), at(1, 1), "b")
	c, d := dir(at(3, 1), b.Node, "c"), file(at(4, 1), at(3, 1), "d")
	e, f := file(at(5, 1), root, "e"), file(at(6, 1), at(1, 1), "f")
	hang(t, tree(t, a, b, c, d, e, f), a, b, c, d, e, f)
	hang(t, tree(t, gone(a), b, c, d, e, f), e)
	hang(t, tree(t, a, gone(b), c, d, e, f), a, e, f)
	hang(t, tree(t, a, b, gone(c), d, e, f), a, b, e, f)
	hang(t, tree(t, a, b, c, gone(d), e, f), a, b, c, e, f)
	hang(t, tree(t, a, b, c, d, gone(e), f), a, b, c, d, f)
	hang(t, tree(t, a, c, d, e, f), a, e, f) // what is in b, which is not there, does not hang
	hang(t, tree(t, b, c, d, f))
	u := tree(t, a, b, c, d, e, f)
	for _, n := range append(wrongStamps()[1:], at(1, 2), at(7, 1)) {
		if u.Hangs(n) {
			t.Errorf("%v hangs", n)
		}
	}
}
