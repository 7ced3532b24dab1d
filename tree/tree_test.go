package tree

import (
	"fmt"
	"math"
	"slices"
	"strings"
	"testing"

	"cachette/api"
	"cachette/sample"
)

var root = api.Stamp{}

// Stamps, and right operations of the four kinds.
var at, mk, mv, rm, wr = sample.At, sample.Make, sample.Move, sample.Remove, sample.Write

// file and dir: items as they are made.
func file(n, parent api.Stamp, name string) Item {
	return Item{Node: n, Parent: parent, Name: name}
}
func dir(n, parent api.Stamp, name string) Item {
	return Item{Node: n, Parent: parent, Name: name, Dir: true}
}

// gone: it, removed; written: it, with that content.
func gone(it Item) Item {
	it.Gone = true
	return it
}
func written(it Item, data string, by api.Stamp) Item {
	it.Data, it.By = []byte(data), by
	return it
}

// told: all that it has, as text.
func told(it Item) string {
	return fmt.Sprintf("%v in %v as %q, dir %t, gone %t, %q by %v", it.Node, it.Parent, it.Name, it.Dir, it.Gone, it.Data, it.By)
}

// tell: all that all have, an item a line.
func tell(l []Item) string {
	var b strings.Builder
	for _, it := range l {
		b.WriteString(told(it) + "\n")
	}
	return b.String()
}

// tree: of those items.
func tree(t *testing.T, l ...Item) *Tree {
	t.Helper()
	u := New()
	for _, it := range l {
		if k := u.Set(it, true); k != api.OK {
			t.Fatalf("Set of %s: %d", told(it), k)
		}
	}
	return u
}

// has: u has just those items, which stand so, by whatever it is asked for them.
func has(t *testing.T, u *Tree, want ...Item) {
	t.Helper()
	if got := u.All(); tell(got) != tell(want) {
		t.Errorf("All:\n%snot:\n%s", tell(got), tell(want))
	}
	if u.Len() != len(want) {
		t.Errorf("Len: %d, not %d", u.Len(), len(want))
	}
	for _, it := range want {
		if got, there := u.Get(it.Node); !there || told(got) != told(it) {
			t.Errorf("Get of %v: %s, %t, not %s", it.Node, told(got), there, told(it))
		}
	}
}

// hasNot: nothing of those stamps is there.
func hasNot(t *testing.T, u *Tree, l ...api.Stamp) {
	t.Helper()
	for _, n := range l {
		if got, there := u.Get(n); there || told(got) != told(Item{}) {
			t.Errorf("Get of %v: %s, %t", n, told(got), there)
		}
	}
}

// wrongStamps: no node has them.
func wrongStamps() []api.Stamp {
	return []api.Stamp{
		root, at(0, 1), at(0, 7), at(-1, 0), at(math.MinInt64, 0), at(api.MaxTime+1, 0), at(math.MaxInt64, 7),
		at(1, -1), at(1, 8), at(5, math.MinInt), at(5, math.MaxInt), at(1, 1<<32), at(0, 8), at(-1, -1),
	}
}

// edges: right stamps at the ends of both numbers, in order.
func edges() []api.Stamp {
	return []api.Stamp{at(1, 0), at(1, 7), at(2, 0), at(api.MaxTime, 0), at(api.MaxTime, 7)}
}

// Words of nil: the zero item, false, Nil, nothing, 0.
func TestNil(t *testing.T) {
	var u *Tree
	n := at(1, 1)
	make1 := api.Op{Kind: 1, At: n, Node: n, Name: "a"}
	for _, o := range []api.Op{make1, {}} {
		if it, there, k := u.Do(o); told(it) != told(Item{}) || there || k != api.Nil {
			t.Errorf("Do of %v: %s, %t, %d", o, told(it), there, k)
		}
	}
	for _, it := range []Item{file(n, root, "a"), {}} {
		if k := u.Set(it, true); k != api.Nil {
			t.Errorf("Set: %d", k)
		}
		if k := u.Set(it, false); k != api.Nil {
			t.Errorf("Set: %d", k)
		}
	}
	hasNot(t, u, n, root)
	has(t, u)
	for _, a := range []api.Stamp{n, root} {
		if u.Within(a, n) || u.Within(a, root) || u.Hangs(a) || len(u.Kids(a)) != 0 {
			t.Errorf("of nil something is within %v, or hangs", a)
		}
	}
	if Same(u, New()) || Same(New(), u) || Same(u, u) {
		t.Error("nil is the same as a tree")
	}
}

// P1603, P1604: a new tree, and the zero one, are of nothing, and take what comes.
func TestNew(t *testing.T) {
	n := at(1, 1)
	for _, u := range []*Tree{New(), {}, Build(nil), Build([]api.Op{})} {
		if u == nil {
			t.Fatal("no tree")
		}
		has(t, u)
		hasNot(t, u, n, root)
		if !u.Hangs(root) || u.Hangs(n) || len(u.Kids(root)) != 0 || !Same(u, New()) || !Same(New(), u) {
			t.Error("it has something")
		}
		if k := u.Set(file(n, root, "a"), false); k != api.OK {
			t.Errorf("Set: %d", k)
		}
		if _, there, k := u.Do(api.Op{Kind: 3, At: n, Node: n}); there || k != api.OK {
			t.Errorf("Do: %t, %d", there, k)
		}
		has(t, u)
		if k := u.Set(file(n, root, "a"), true); k != api.OK {
			t.Errorf("Set: %d", k)
		}
		has(t, u, file(n, root, "a"))
	}
	a, b := New(), New()
	a.Set(file(n, root, "a"), true)
	has(t, b)
	zero := new(Tree)
	zero.Do(api.Op{Kind: 1, At: n, Node: n, Name: "a"})
	has(t, zero, file(n, root, "a"))
}

// anyItem: of that node, whatever it has: right or not, by what operations could make, or not.
func anyItems(n api.Stamp) []Item {
	return []Item{
		{Node: n},
		file(n, root, "a"),
		dir(n, n, "a"),
		gone(dir(n, at(9, 9), "")),
		written(dir(n, root, "a/b"), "a directory's", at(-1, -1)),
		written(gone(file(n, at(0, 3), strings.Repeat("x", 1000))), strings.Repeat("y", api.MaxContent+1), at(math.MaxInt64, math.MinInt)),
		written(file(n, root, ".."), "", n),
	}
}

// P1602: the item of that stamp is it, whatever it has; what was there is replaced as a whole.
func TestSet(t *testing.T) {
	other := written(file(at(5, 5), root, "other"), "x", at(6, 6))
	for _, n := range edges() {
		for _, first := range anyItems(n) {
			for _, it := range anyItems(n) {
				u := tree(t, other, first, it)
				want := []Item{it, other}
				if n.T > other.Node.T {
					want = []Item{other, it}
				}
				has(t, u, want...)
			}
		}
	}
}

// P1602: of there false, it is not there, whatever else it has.
func TestSetNotThere(t *testing.T) {
	for _, n := range edges() {
		other := dir(at(5, 5), n, "other")
		for _, it := range anyItems(n) {
			u := tree(t, other, file(n, root, "a"))
			for range 2 { // the second time there is nothing to take away
				if k := u.Set(it, false); k != api.OK {
					t.Errorf("Set of %s: %d", told(it), k)
				}
				has(t, u, other)
				hasNot(t, u, n)
			}
			u.Set(it, true)
			if got, there := u.Get(n); !there || told(got) != told(it) || u.Len() != 2 {
				t.Errorf("set again: %s, %t, not %s", told(got), there, told(it))
			}
		}
	}
}

// P1602: BadArg: Node is not a right stamp; nothing has changed.
func TestSetBadArg(t *testing.T) {
	a := dir(at(1, 1), root, "a")
	for _, n := range wrongStamps() {
		for _, it := range anyItems(n) {
			for _, there := range []bool{true, false} {
				u := tree(t, a)
				if k := u.Set(it, there); k != api.BadArg {
					t.Errorf("Set of %s, %t: %d", told(it), there, k)
				}
				has(t, u, a)
				hasNot(t, u, n)
			}
		}
	}
}

// P1602: Set knows no limit of how many there are.
func TestSetMany(t *testing.T) {
	u := New()
	var want []Item
	for i := range 3 * api.MaxNodes {
		it := file(at(int64(i+1), i%api.MaxMembers), root, "a")
		want = append(want, it)
		if k := u.Set(it, true); k != api.OK {
			t.Fatalf("the %d-th: %d", i, k)
		}
	}
	has(t, u, want...)
}

// P1603: what Get does not find, it answers nothing of; a stamp is another one by either number.
func TestGet(t *testing.T) {
	a, b := dir(at(1, 1), root, "a"), written(file(at(2, 3), at(1, 1), "b"), "x", at(4, 4))
	u := tree(t, b, a)
	has(t, u, a, b)
	hasNot(t, u, wrongStamps()...)
	hasNot(t, u, at(1, 0), at(1, 2), at(1, 3), at(2, 1), at(2, 2), at(3, 3), at(4, 4))
	u.Set(gone(a), true)
	has(t, u, gone(a), b)
}

// P1603: All tells them by T, then W, in whatever order they came, those that are gone too.
func TestAllInOrder(t *testing.T) {
	var want []Item
	for _, n := range []api.Stamp{at(1, 0), at(1, 1), at(1, 7), at(2, 0), at(2, 5), at(9, 3), at(10, 2), at(100, 1), at(api.MaxTime, 0), at(api.MaxTime, 7)} {
		it := dir(n, root, "x")
		it.Gone = n.W == 1
		want = append(want, it)
	}
	for step := range want {
		turned := append(slices.Clone(want[step:]), want[:step]...)
		has(t, tree(t, turned...), want...)
		slices.Reverse(turned)
		has(t, tree(t, turned...), want...)
	}
}

// kids: of that node those.
func kids(t *testing.T, u *Tree, n api.Stamp, want ...Item) {
	t.Helper()
	if got := u.Kids(n); tell(got) != tell(want) {
		t.Errorf("Kids of %v:\n%snot:\n%s", n, tell(got), tell(want))
	}
}

// P1603: Kids: those that are not gone, with that Parent, by their stamps; not theirs.
func TestKids(t *testing.T) {
	a, b := dir(at(5, 1), root, "a"), dir(at(5, 0), root, "b")
	c := written(file(at(6, 1), a.Node, "c"), "cc", at(9, 1))
	d, e := gone(file(at(6, 0), a.Node, "d")), dir(at(1, 7), a.Node, "c")
	f, g := file(at(8, 1), e.Node, "f"), gone(dir(at(3, 3), root, "g"))
	h := file(at(2, 2), g.Node, "h")
	i := file(at(7, 7), at(1, 2), "an orphan")
	u := tree(t, a, b, c, d, e, f, g, h, i)
	kids(t, u, root, b, a)
	kids(t, u, a.Node, e, c)
	kids(t, u, e.Node, f)
	for _, it := range []Item{b, c, d, f, h, i} {
		kids(t, u, it.Node)
	}
	kids(t, u, g.Node, h)   // who is gone has kids
	kids(t, u, at(1, 2), i) // also who is not there
	kids(t, u, at(5, 2))    // other stamps have none
	kids(t, u, at(-1, -1))
	u.Set(gone(b), true)
	kids(t, u, root, a)
	u.Set(dir(b.Node, b.Node, "its own"), true)
	kids(t, u, b.Node, dir(b.Node, b.Node, "its own"))
	kids(t, u, root, a)
}

// P1605: Same: each field of an item matters; none is alike, nil or empty.
func TestSameFields(t *testing.T) {
	whole := Item{Node: at(4, 4), Parent: at(2, 2), Name: "n", Dir: true, Gone: true, Data: []byte("data"), By: at(7, 7)}
	other := file(at(9, 1), root, "other")
	for what, do := range map[string]func(it *Item){
		"Node's T":    func(it *Item) { it.Node.T++ },
		"Node's W":    func(it *Item) { it.Node.W++ },
		"Parent's T":  func(it *Item) { it.Parent.T++ },
		"Parent's W":  func(it *Item) { it.Parent.W++ },
		"Name":        func(it *Item) { it.Name = "m" },
		"Dir":         func(it *Item) { it.Dir = false },
		"Gone":        func(it *Item) { it.Gone = false },
		"other Data":  func(it *Item) { it.Data = []byte("datb") },
		"longer Data": func(it *Item) { it.Data = []byte("data\x00") },
		"no Data":     func(it *Item) { it.Data = nil },
		"By's T":      func(it *Item) { it.By.T++ },
		"By's W":      func(it *Item) { it.By.W++ },
	} {
		it := whole
		do(&it)
		a, b := tree(t, whole, other), tree(t, other, it)
		if Same(a, b) || Same(b, a) {
			t.Errorf("%s does not matter", what)
		}
		b.Set(it, false)
		b.Set(whole, true)
		if !Same(a, b) || !Same(b, a) || !Same(a, a) {
			t.Errorf("%s: alike items are not the same", what)
		}
	}
	a, b := tree(t, Item{Node: at(1, 1)}), tree(t, Item{Node: at(1, 1), Data: []byte{}})
	if !Same(a, b) || !Same(b, a) {
		t.Error("no Data is another one")
	}
}

// P1605: Same: one more, one less, others.
func TestSameCounts(t *testing.T) {
	a, b, c := dir(at(1, 1), root, "a"), dir(at(2, 1), root, "a"), dir(at(3, 1), root, "a")
	l := []*Tree{New(), tree(t, a), tree(t, b), tree(t, a, b), tree(t, b, c), tree(t, a, c), tree(t, a, b, c)}
	for i, u := range l {
		for j, v := range l {
			if Same(u, v) != (i == j) {
				t.Errorf("Same of the %d-th and the %d-th: %t", i, j, i != j)
			}
		}
	}
	if !Same(tree(t, a, b, c), tree(t, c, b, a)) {
		t.Error("the order in which they came matters")
	}
}
