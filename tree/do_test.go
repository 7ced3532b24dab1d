package tree

import (
	"strings"
	"testing"

	"cachette/api"
)

// does: Do's answer is the item as it was (nil: none was there), and OK; behind it u has just those items.
func does(t *testing.T, u *Tree, o api.Op, was *Item, want ...Item) {
	t.Helper()
	wanted := Item{}
	if was != nil {
		wanted = *was
	}
	got, there, k := u.Do(o)
	if told(got) != told(wanted) || there != (was != nil) || k != api.OK {
		t.Errorf("Do of %v: %s, %t, %d, not %s", o, told(got), there, k, told(wanted))
	}
	has(t, u, want...)
}

// refuses: Do's answer is that kind, and nothing else; nothing has changed.
func refuses(t *testing.T, u *Tree, o api.Op, want api.Kind) {
	t.Helper()
	before := tell(u.All())
	if got, there, k := u.Do(o); told(got) != told(Item{}) || there || k != want {
		t.Errorf("Do of %v: %s, %t, %d, not %d", o, told(got), there, k, want)
	}
	if after := tell(u.All()); after != before {
		t.Errorf("refused, but now there is:\n%snot:\n%s", after, before)
	}
}

// Some items: a directory with one in it, with a file in that, and a file beside.
func some() (a, b, c, d Item) {
	a = dir(at(1, 1), root, "a")
	b = dir(at(2, 1), a.Node, "b")
	c = written(file(at(3, 1), b.Node, "c"), "cc", at(5, 2))
	d = file(at(4, 1), root, "d")
	return a, b, c, d
}

// P1601, kind 1: a new item, not gone, without Data; of it there was none.
func TestMake(t *testing.T) {
	u := New()
	does(t, u, mk(at(2, 3), root, true, "a"), nil, dir(at(2, 3), root, "a"))
	does(t, u, mk(at(3, 0), at(2, 3), false, "b"), nil, dir(at(2, 3), root, "a"), file(at(3, 0), at(2, 3), "b"))
	// Names may be alike, and a parent may be of a later time, by another member.
	does(t, u, mk(at(1, 7), at(2, 3), true, "b"), nil, dir(at(1, 7), at(2, 3), "b"), dir(at(2, 3), root, "a"), file(at(3, 0), at(2, 3), "b"))
	for _, n := range edges() {
		does(t, New(), mk(n, root, true, "a"), nil, dir(n, root, "a"))
		does(t, New(), mk(n, root, false, strings.Repeat("x", api.MaxName)), nil, file(n, root, strings.Repeat("x", api.MaxName)))
	}
}

// P1601, kind 1: a directory that is gone takes what is made in it.
func TestMakeInGone(t *testing.T) {
	a, b, _, _ := some()
	a, b = gone(a), gone(b)
	n := at(9, 1)
	does(t, tree(t, a, b), mk(n, a.Node, true, "x"), nil, a, b, dir(n, a.Node, "x"))
	does(t, tree(t, a, b), mk(n, b.Node, false, "x"), nil, a, b, file(n, b.Node, "x"))
}

// P1601, kind 1: nothing, if Node is there, gone or not, whatever else the operation says.
func TestMakeOfWhatIsThere(t *testing.T) {
	a, b, c, d := some()
	for _, x := range []Item{c, gone(c), d, gone(d), b, gone(b)} {
		u := tree(t, a, b, c, d, x)
		want := u.All()
		for _, p := range []api.Stamp{root, a.Node, x.Node, d.Node, at(9, 1)} {
			does(t, u, mk(x.Node, p, true, "new"), &x, want...)
			does(t, u, mk(x.Node, p, false, "new"), &x, want...)
		}
	}
}

// P1601, kind 1: nothing, if Parent is not there, or is no directory.
func TestMakeWithoutParent(t *testing.T) {
	a, b, c, d := some()
	u := tree(t, a, b, c, gone(d))
	n := at(9, 1)
	for _, p := range []api.Stamp{c.Node, d.Node, at(1, 2), at(8, 1), n} { // n: in itself
		does(t, u, mk(n, p, true, "x"), nil, a, b, c, gone(d))
		does(t, u, mk(n, p, false, "x"), nil, a, b, c, gone(d))
	}
}

// full: MaxNodes items: a directory, in it a file, one that is gone, and more files.
func full(t *testing.T) *Tree {
	t.Helper()
	u := New()
	u.Do(mk(at(1, 1), root, true, "d"))
	for i := 2; i <= api.MaxNodes; i++ {
		if u.Len() != i-1 {
			t.Fatalf("%d, not %d", u.Len(), i-1)
		}
		if _, there, k := u.Do(mk(at(int64(i), 1), at(1, 1), i == 4, "x")); there || k != api.OK {
			t.Fatalf("the %d-th: %t, %d", i, there, k)
		}
	}
	u.Do(rm(at(1000, 1), at(3, 1)))
	if u.Len() != api.MaxNodes {
		t.Fatalf("%d", u.Len())
	}
	return u
}

// P1601, kind 1: TooLarge: there are MaxNodes, those that are gone counted; ahead of it, what does nothing.
func TestMakeTooLarge(t *testing.T) {
	u := full(t)
	n := at(2000, 1)
	refuses(t, u, mk(n, root, true, "x"), api.TooLarge)
	refuses(t, u, mk(n, at(1, 1), false, "x"), api.TooLarge)
	all := u.All()
	does(t, u, mk(n, n, true, "x"), nil, all...)               // no such parent
	does(t, u, mk(n, at(2, 1), true, "x"), nil, all...)        // a file
	does(t, u, mk(at(3, 1), root, true, "x"), &all[2], all...) // there
	u.Set(all[9], false)
	if _, there, k := u.Do(mk(n, root, true, "x")); there || k != api.OK || u.Len() != api.MaxNodes {
		t.Errorf("the last one: %t, %d, %d", there, k, u.Len())
	}
	refuses(t, u, mk(at(2001, 1), root, true, "x"), api.TooLarge)
	u.Set(all[9], true)
	u.Set(dir(at(2002, 1), root, "more"), true)
	refuses(t, u, mk(at(2001, 1), root, true, "x"), api.TooLarge) // Set put more there
}

// P1601: the limit is of what is made alone.
func TestFullTreeChanges(t *testing.T) {
	u := full(t)
	all := u.All()
	step := func(i int, o api.Op, do func(it *Item)) {
		t.Helper()
		was := all[i]
		do(&all[i])
		does(t, u, o, &was, all...)
	}
	step(1, wr(at(3000, 1), all[1].Node, "data"), func(it *Item) { it.Data, it.By = []byte("data"), at(3000, 1) })
	step(2, mv(at(3001, 1), all[2].Node, root, "back"), func(it *Item) { it.Parent, it.Name, it.Gone = root, "back", false })
	step(1, mv(at(3002, 1), all[1].Node, all[3].Node, "in"), func(it *Item) { it.Parent, it.Name = all[3].Node, "in" })
	step(0, rm(at(3003, 1), all[0].Node), func(it *Item) { it.Gone = true })
}

// P1601, kind 2: Parent and Name are these; all else stays.
func TestMove(t *testing.T) {
	a, b, c, d := some()
	s := at(9, 1)
	moved := func(it Item, parent api.Stamp, name string) Item {
		it.Parent, it.Name = parent, name
		return it
	}
	does(t, tree(t, a, b, c, d), mv(s, c.Node, root, "new"), &c, a, b, moved(c, root, "new"), d)
	does(t, tree(t, a, b, c, d), mv(s, c.Node, b.Node, "new"), &c, a, b, moved(c, b.Node, "new"), d)
	does(t, tree(t, a, b, c, d), mv(s, c.Node, b.Node, "c"), &c, a, b, c, d)
	does(t, tree(t, a, b, c, d), mv(s, c.Node, a.Node, "b"), &c, a, b, moved(c, a.Node, "b"), d)
	does(t, tree(t, a, b, c, d), mv(s, b.Node, root, "b"), &b, a, moved(b, root, "b"), c, d)
	does(t, tree(t, a, b, c, d), mv(s, d.Node, b.Node, "c"), &d, a, b, c, moved(d, b.Node, "c"))
	does(t, tree(t, a, b, c, d), mv(s, a.Node, root, "z"), &a, moved(a, root, "z"), b, c, d)
	// At does not matter: an earlier one moves a later node.
	does(t, tree(t, a, b, c, d), mv(at(1, 0), d.Node, a.Node, "d"), &d, a, b, c, moved(d, a.Node, "d"))
}

// P1601, kind 2: what was removed is there again, in whatever is there.
func TestMoveOfGone(t *testing.T) {
	a, b, c, d := some()
	s := at(9, 1)
	gc, gb := gone(c), gone(b)
	does(t, tree(t, a, b, gc, d), mv(s, c.Node, b.Node, "c"), &gc, a, b, c, d)
	does(t, tree(t, a, gb, gc, d), mv(s, c.Node, b.Node, "c"), &gc, a, gb, c, d)
	does(t, tree(t, a, gb, c, d), mv(s, b.Node, a.Node, "b"), &gb, a, b, c, d)
	ga := gone(a)
	does(t, tree(t, ga, b, c, d), mv(s, d.Node, a.Node, "d"), &d, ga, b, c, file(d.Node, a.Node, "d"))
}

// P1601, kind 2: nothing, if Node is not there, Parent is not there or is no directory, or is within Node; who is gone stays gone.
func TestMoveOfNothing(t *testing.T) {
	a, b, c, d := some()
	s := at(9, 1)
	for _, gones := range []bool{false, true} {
		if gones {
			a, b, c, d = gone(a), gone(b), gone(c), gone(d)
		}
		u := tree(t, a, b, c, d)
		stays := func(o api.Op, was *Item) {
			t.Helper()
			does(t, u, o, was, a, b, c, d)
		}
		stays(mv(s, at(1, 2), root, "x"), nil)
		stays(mv(s, s, root, "x"), nil)
		stays(mv(s, at(8, 1), b.Node, "x"), nil)
		stays(mv(s, at(8, 1), at(8, 1), "x"), nil)
		stays(mv(s, d.Node, at(1, 2), "x"), &d)
		stays(mv(s, d.Node, s, "x"), &d)
		stays(mv(s, d.Node, c.Node, "x"), &d) // a file
		stays(mv(s, c.Node, d.Node, "x"), &c)
		stays(mv(s, d.Node, d.Node, "x"), &d)
		stays(mv(s, a.Node, d.Node, "x"), &a)
		stays(mv(s, a.Node, a.Node, "a"), &a) // into itself
		stays(mv(s, b.Node, b.Node, "x"), &b)
		stays(mv(s, a.Node, b.Node, "x"), &a) // into what is in it
		stays(mv(s, a.Node, c.Node, "x"), &a)
	}
}

// P1601, kind 2: a directory in the deepest tree is moved into none of all that is within it, but into each beside.
func TestMoveInDeepestTree(t *testing.T) {
	u := New()
	parent := root
	var l []api.Stamp
	for i := range api.MaxNodes {
		n := at(int64(i+1), 1)
		if _, _, k := u.Do(mk(n, parent, true, "d")); k != api.OK {
			t.Fatalf("the %d-th: %d", i, k)
		}
		l, parent = append(l, n), n
	}
	before := tell(u.All())
	for i, n := range l {
		for _, p := range l[i:] {
			if _, there, k := u.Do(mv(at(1000, 1), n, p, "x")); !there || k != api.OK {
				t.Fatalf("%t, %d", there, k)
			}
		}
	}
	if tell(u.All()) != before {
		t.Error("something was moved into itself")
	}
	for i := len(l) - 1; i > 0; i-- {
		u.Do(mv(at(1000, 1), l[i], l[0], "x"))
		if it, _ := u.Get(l[i]); it.Parent != l[0] || it.Name != "x" {
			t.Errorf("not moved: %s", told(it))
		}
	}
}

// P1601, kind 3: Gone, and nothing else; what is within it stays.
func TestRemove(t *testing.T) {
	a, b, c, d := some()
	s := at(9, 1)
	does(t, tree(t, a, b, c, d), rm(s, c.Node), &c, a, b, gone(c), d)
	does(t, tree(t, a, b, c, d), rm(s, d.Node), &d, a, b, c, gone(d))
	does(t, tree(t, a, b, c, d), rm(s, a.Node), &a, gone(a), b, c, d)
	ga, gc := gone(a), gone(c)
	does(t, tree(t, ga, b, c, d), rm(s, a.Node), &ga, ga, b, c, d)
	does(t, tree(t, a, b, gc, d), rm(s, c.Node), &gc, a, b, gc, d)
	does(t, tree(t, a, b, c, d), rm(at(1, 0), d.Node), &d, a, b, c, gone(d))
	for _, n := range []api.Stamp{at(1, 2), at(8, 1), s} {
		does(t, tree(t, a, b, c, d), rm(s, n), nil, a, b, c, d)
	}
}

// P1601, kind 4: a file's Data, By At, and nothing else, also of one that is gone; an earlier At does it, too.
func TestWrite(t *testing.T) {
	a, b, c, d := some()
	most := strings.Repeat("m", api.MaxContent)
	for _, s := range append(edges(), at(9, 1), at(5, 2)) {
		for _, data := range []string{"x", "", "cc", "\x00", most} {
			does(t, tree(t, a, b, c, d), wr(s, c.Node, data), &c, a, b, written(c, data, s), d)
			does(t, tree(t, a, b, c, d), wr(s, d.Node, data), &d, a, b, c, written(d, data, s))
			gd := gone(d)
			does(t, tree(t, a, b, c, gd), wr(s, d.Node, data), &gd, a, b, c, written(gd, data, s))
		}
	}
}

// P1601, kind 4: nothing, if Node is not there, or is a directory.
func TestWriteOfNoFile(t *testing.T) {
	a, b, c, d := some()
	s := at(9, 1)
	gb := gone(b)
	for _, data := range []string{"x", ""} {
		does(t, tree(t, a, b, c, d), wr(s, a.Node, data), &a, a, b, c, d)
		does(t, tree(t, a, gb, c, d), wr(s, b.Node, data), &gb, a, gb, c, d)
		for _, n := range []api.Stamp{at(1, 2), at(8, 1), s} {
			does(t, tree(t, a, b, c, d), wr(s, n, data), nil, a, b, c, d)
		}
	}
}

// wrongOps: each not right in one way.
func wrongOps() []api.Op {
	s, n, p := at(9, 1), at(4, 1), at(1, 1)
	l := []api.Op{
		{}, {At: s, Node: n}, {Kind: 5, At: s, Node: n}, {Kind: -1, At: s, Node: n}, {Kind: 1 << 40, At: s, Node: n},
		{Kind: 1, At: s, Node: n, Name: "x"}, {Kind: 1, At: s, Node: s}, {Kind: 1, At: s, Node: s, Name: "x", Data: []byte("x")},
		{Kind: 2, At: s, Node: n, Name: "x", Dir: true}, {Kind: 2, At: s, Node: n, Name: "x", Data: []byte("x")}, mv(s, root, p, "x"),
		{Kind: 3, At: s, Node: n, Name: "x"}, {Kind: 3, At: s, Node: n, Parent: p}, {Kind: 3, At: s, Node: n, Dir: true}, {Kind: 3, At: s, Node: n, Data: []byte("x")}, rm(s, root),
		{Kind: 4, At: s, Node: n, Name: "x"}, {Kind: 4, At: s, Node: n, Parent: p}, {Kind: 4, At: s, Node: n, Dir: true}, wr(s, root, "x"), wr(s, n, strings.Repeat("x", api.MaxContent+1)),
	}
	for _, name := range []string{"", ".", "..", "a/b", "a~1.1", "\x1f", "\x7f", strings.Repeat("x", api.MaxName+1)} {
		l = append(l, mk(s, p, true, name), mv(s, n, p, name))
	}
	for _, w := range wrongStamps() {
		l = append(l, mk(w, p, true, "x"), mv(w, n, p, "x"), rm(w, n), wr(w, n, "x"), mv(s, w, p, "x"), rm(s, w), wr(s, w, "x"))
		if w != root {
			l = append(l, mk(s, w, true, "x"), mv(s, n, w, "x"))
		}
	}
	return l
}

// P1601: BadArg: not right; ahead of what it would do, and of the limit.
func TestDoBadArg(t *testing.T) {
	a, b, c, d := some()
	u, most := tree(t, a, b, c, d), full(t)
	for _, o := range wrongOps() {
		refuses(t, u, o, api.BadArg)
		refuses(t, most, o, api.BadArg)
		refuses(t, New(), o, api.BadArg)
	}
}

// The chapter's example: a moved into b; then b into a does nothing.
func TestExample(t *testing.T) {
	a, b := dir(at(1, 1), root, "a"), dir(at(2, 1), root, "b")
	u := tree(t, a, b)
	in := dir(a.Node, b.Node, "a")
	does(t, u, mv(at(3, 1), a.Node, b.Node, "a"), &a, in, b)
	does(t, u, mv(at(4, 1), b.Node, a.Node, "b"), &b, in, b)
}

// builds: what is built of l has just those items.
func builds(t *testing.T, l []api.Op, want ...Item) {
	t.Helper()
	u := Build(l)
	has(t, u, want...)
	if !Same(u, tree(t, want...)) {
		t.Error("what is built is not the same as its items")
	}
}

// P1605: Build does them in order of their Ats, in whatever order they come.
func TestBuild(t *testing.T) {
	a, b, c := at(1, 1), at(1, 2), at(2, 0)
	l := []api.Op{
		mk(a, root, true, "a"), mk(b, a, true, "b"), mk(c, b, false, "c"),
		wr(at(3, 0), c, "first"), wr(at(3, 1), c, "second"),
		mv(at(4, 0), a, b, "ring"), mv(at(4, 1), b, root, "b"), mv(at(4, 2), a, b, "in"),
		rm(at(5, 0), b), mv(at(6, 0), b, root, "again"), rm(at(7, 0), a),
	}
	want := []Item{gone(dir(a, b, "in")), dir(b, root, "again"), written(file(c, b, "c"), "second", at(3, 1))}
	for i := range l {
		turned := append(append([]api.Op{}, l[i:]...), l[:i]...)
		builds(t, turned, want...)
		for x, y := 0, len(turned)-1; x < y; x, y = x+1, y-1 {
			turned[x], turned[y] = turned[y], turned[x]
		}
		builds(t, turned, want...)
	}
}

// P1605: what is done ahead of what makes its node does nothing: a later one that comes first is no earlier one.
func TestBuildTooEarly(t *testing.T) {
	n := at(5, 1)
	builds(t, []api.Op{wr(at(4, 1), n, "x"), rm(at(5, 0), n), mv(at(4, 7), n, root, "y"), mk(n, root, false, "a")}, file(n, root, "a"))
	builds(t, []api.Op{mk(at(4, 1), n, false, "in"), mk(n, root, true, "a")}, dir(n, root, "a"))
}

// P1605: of one At only the first in the list is done.
func TestBuildOneAt(t *testing.T) {
	n, s := at(1, 1), at(2, 1)
	made, x, y, none := mk(n, root, false, "a"), wr(s, n, "x"), wr(s, n, "y"), api.Op{At: s}
	builds(t, []api.Op{x, made, y, x}, written(file(n, root, "a"), "x", s))
	builds(t, []api.Op{made, y, x, none}, written(file(n, root, "a"), "y", s))
	builds(t, []api.Op{made, none, x}, file(n, root, "a")) // also if that is not right
}

// P1605: what Do refuses is passed over: what is not right, and what is above the limit; what comes behind is done.
func TestBuildPassesOver(t *testing.T) {
	n := at(1, 1)
	l := append(wrongOps(), mk(n, root, false, "a"), wr(at(api.MaxTime, 7), n, "x"))
	for i, o := range l {
		if o.At == n && o.Kind != 1 || o.At == at(api.MaxTime, 7) && o.Kind != 4 {
			t.Fatalf("the %d-th stands in the way", i)
		}
	}
	builds(t, l, written(file(n, root, "a"), "x", at(api.MaxTime, 7)))

	l = []api.Op{wr(at(api.MaxTime, 7), at(1, 0), "x")}
	var want []Item
	for i := range api.MaxNodes + 50 {
		s := at(int64(i+1), 0)
		l = append(l, mk(s, root, false, "a"), wr(at(int64(i+1), 1), s, "y"))
		if i < api.MaxNodes {
			want = append(want, written(file(s, root, "a"), "y", at(int64(i+1), 1)))
		}
	}
	want[0] = written(want[0], "x", at(api.MaxTime, 7))
	builds(t, l, want...)
}
