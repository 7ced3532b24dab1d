package names

import (
	"fmt"
	"math"
	"slices"
	"strings"
	"testing"

	"cachette/api"
	"cachette/sample"
	"cachette/tree"
)

var root = api.Stamp{}

// Stamps, and right operations of the four kinds.
var at, mk, mv, rm, wr = sample.At, sample.Make, sample.Move, sample.Remove, sample.Write

// tell: all that the entries have, an entry a line.
func tell(l []Entry) string {
	var b strings.Builder
	for _, e := range l {
		fmt.Fprintf(&b, "%q is %v, dir %t, %d bytes\n", e.Name, e.Node, e.Dir, e.Size)
	}
	return b.String()
}

// listed: List's answer is just those.
func listed(t *testing.T, u *tree.Tree, dir api.Stamp, want ...Entry) {
	t.Helper()
	if got, k := List(u, dir); tell(got) != tell(want) || k != api.OK {
		t.Errorf("List of %v: %d\n%snot:\n%s", dir, k, tell(got), tell(want))
	}
}

// shown: Shown's answer.
func shown(t *testing.T, u *tree.Tree, node api.Stamp, want string, kind api.Kind) {
	t.Helper()
	if got, k := Shown(u, node); got != want || k != kind {
		t.Errorf("Shown of %v: %q, %d, not %q, %d", node, got, k, want, kind)
	}
}

// found: Find's answer.
func found(t *testing.T, u *tree.Tree, dir api.Stamp, name string, want Entry, kind api.Kind) {
	t.Helper()
	if got, k := Find(u, dir, name); got != want || k != kind {
		t.Errorf("Find of %q in %v: %v, %d, not %v, %d", name, dir, got, k, want, kind)
	}
}

// free: Free's answer.
func free(t *testing.T, u *tree.Tree, dir api.Stamp, name string, want bool) {
	t.Helper()
	if got := Free(u, dir, name); got != want {
		t.Errorf("Free of %q in %v: %t", name, dir, got)
	}
}

// clash: Clashes' answer.
func clash(t *testing.T, u *tree.Tree, dir api.Stamp, want ...string) {
	t.Helper()
	if got := Clashes(u, dir); !slices.Equal(got, want) {
		t.Errorf("Clashes in %v: %q, not %q", dir, got, want)
	}
}

// refused: dir can't be listed, and each call that lists says so.
func refused(t *testing.T, u *tree.Tree, dir api.Stamp, want api.Kind) {
	t.Helper()
	if got, k := List(u, dir); len(got) != 0 || k != want {
		t.Errorf("List of %v: %v, %d, not %d", dir, got, k, want)
	}
	for _, name := range []string{"a", "b", "x", "new", "", ".", "a~1.1", "~"} {
		found(t, u, dir, name, Entry{}, want)
		free(t, u, dir, name, false)
	}
	clash(t, u, dir)
}

// set: u has the item, however it came to be so.
func set(t *testing.T, u *tree.Tree, it tree.Item) {
	t.Helper()
	if k := u.Set(it, true); k != api.OK {
		t.Fatalf("Set of %v: %d", it, k)
	}
}

// some: a directory with one and two files in it, beside a file and a directory that is gone.
func some() *tree.Tree {
	a := at(1, 1)
	return tree.Build([]api.Op{
		mk(a, root, true, "a"), mk(at(2, 0), a, true, "b"), mk(at(2, 1), a, false, "c"), mk(at(2, 2), a, false, "x"),
		mk(at(3, 0), root, false, "f"), mk(at(4, 0), root, true, "gone"), mk(at(5, 0), at(4, 0), true, "in"), mk(at(5, 1), at(4, 0), false, "in"),
		wr(at(6, 0), at(2, 1), "four"), wr(at(6, 1), at(3, 0), strings.Repeat("x", api.MaxContent)), rm(at(7, 0), at(4, 0)),
	})
}

// P1801: kids, each with its shown name and how many bytes it has, by shown names.
func TestList(t *testing.T) {
	u := some()
	listed(t, u, root, Entry{"a", at(1, 1), true, 0}, Entry{"f", at(3, 0), false, api.MaxContent})
	listed(t, u, at(1, 1), Entry{"b", at(2, 0), true, 0}, Entry{"c", at(2, 1), false, 4}, Entry{"x", at(2, 2), false, 0})
	listed(t, u, at(2, 0))
	listed(t, tree.New(), root)
	listed(t, &tree.Tree{}, root)
}

// P1801: byte by byte: neither by stamps, nor by letters, nor by runes' classes; a mark's ~ is behind all that a name may have but the bytes from 128 on.
func TestListInOrder(t *testing.T) {
	names := []string{" ", "!", "-", "...", "0", "10", "9", "A", "B", "Z", "_", "a", "a b", "a-", "a}", "aa", "b", "z", "}", "\x80", "a\x80", "é", "\xff"}
	slices.Sort(names)
	var ops []api.Op
	for i, name := range names {
		ops = append(ops, mk(at(int64(100-i), 1), root, false, name))
	}
	var want []Entry
	for i, name := range names {
		want = append(want, Entry{name, at(int64(100-i), 1), false, 0})
	}
	listed(t, tree.Build(ops), root, want...)
}

// P1801: the shown name decides, not the Name: "a~3.1" comes behind "aa", but ahead of "a\x80".
func TestListByShownNames(t *testing.T) {
	u := tree.Build([]api.Op{
		mk(at(1, 1), root, false, "a\x80"), mk(at(2, 1), root, false, "a"), mk(at(3, 1), root, true, "a"),
		mk(at(20, 1), root, false, "a"), mk(at(100, 1), root, false, "a"), mk(at(4, 1), root, false, "aa"), mk(at(4, 2), root, false, "a}"),
	})
	listed(t, u, root,
		Entry{"a", at(2, 1), false, 0}, Entry{"aa", at(4, 1), false, 0}, Entry{"a}", at(4, 2), false, 0},
		Entry{"a~100.1", at(100, 1), false, 0}, Entry{"a~20.1", at(20, 1), false, 0}, Entry{"a~3.1", at(3, 1), true, 0},
		Entry{"a\x80", at(1, 1), false, 0})
}

// P1801, the chapter's example.
func TestExample(t *testing.T) {
	u := tree.Build([]api.Op{mk(at(2, 1), root, false, "a"), mk(at(1, 1), root, false, "a")})
	listed(t, u, root, Entry{"a", at(1, 1), false, 0}, Entry{"a~2.1", at(2, 1), false, 0})
	shown(t, u, at(1, 1), "a", api.OK)
	shown(t, u, at(2, 1), "a~2.1", api.OK)
}

// P1801, P1802: the first by T, then by W, has its Name, whoever came in last, and whatever it is; the other ones have a mark.
func TestFirstByStamps(t *testing.T) {
	u := tree.Build([]api.Op{
		mk(at(5, 2), root, true, "a"), mk(at(5, 1), root, false, "a"), mk(at(6, 0), root, false, "a"),
		mk(at(1, 1), root, true, "d"), mk(at(4, 7), at(1, 1), false, "a"), mk(at(4, 6), at(1, 1), false, "b"),
	})
	listed(t, u, root,
		Entry{"a", at(5, 1), false, 0}, Entry{"a~5.2", at(5, 2), true, 0}, Entry{"a~6.0", at(6, 0), false, 0}, Entry{"d", at(1, 1), true, 0})
	// What comes in by a move is first if its stamp is, though it came last.
	u.Do(mv(at(9, 1), at(4, 7), root, "a"))
	listed(t, u, root,
		Entry{"a", at(4, 7), false, 0}, Entry{"a~5.1", at(5, 1), false, 0}, Entry{"a~5.2", at(5, 2), true, 0}, Entry{"a~6.0", at(6, 0), false, 0}, Entry{"d", at(1, 1), true, 0})
	// Who is gone, or elsewhere, or under another name does not count.
	u.Do(rm(at(10, 1), at(4, 7)))
	u.Do(mv(at(11, 1), at(5, 1), at(1, 1), "a"))
	u.Do(mv(at(12, 1), at(5, 2), root, "c"))
	listed(t, u, root, Entry{"a", at(6, 0), false, 0}, Entry{"c", at(5, 2), true, 0}, Entry{"d", at(1, 1), true, 0})
	listed(t, u, at(1, 1), Entry{"a", at(5, 1), false, 0}, Entry{"b", at(4, 6), false, 0})
}

// P1801, P1802, P1803: NotFound: what is not there, is gone, or is in what is gone; it need not be a directory.
func TestNotFound(t *testing.T) {
	u := some()
	for _, dir := range []api.Stamp{
		at(9, 1), at(1, 0), at(1, 2), at(4, 0), at(5, 0), at(5, 1), at(0, 1), at(1, -1), at(-1, 1), at(1, api.MaxMembers),
		at(api.MaxTime, 1), at(api.MaxTime+1, 1), at(math.MaxInt64, math.MaxInt), at(math.MinInt64, math.MinInt),
	} {
		refused(t, u, dir, api.NotFound)
		refused(t, tree.New(), dir, api.NotFound)
		refused(t, &tree.Tree{}, dir, api.NotFound)
		shown(t, u, dir, "", api.NotFound)
		shown(t, tree.New(), dir, "", api.NotFound)
	}
	u.Do(rm(at(20, 1), at(1, 1)))
	for _, n := range []api.Stamp{at(1, 1), at(2, 0), at(2, 1), at(2, 2)} {
		refused(t, u, n, api.NotFound)
		shown(t, u, n, "", api.NotFound)
	}
}

// P1801: what came to be below itself, or below what is not there, does not hang.
func TestNotHanging(t *testing.T) {
	u := tree.New()
	for _, it := range []tree.Item{
		{Node: at(1, 1), Parent: at(2, 1), Name: "a", Dir: true}, {Node: at(2, 1), Parent: at(1, 1), Name: "a", Dir: true},
		{Node: at(3, 1), Parent: at(3, 1), Name: "a", Dir: true}, {Node: at(4, 1), Parent: at(9, 1), Name: "a", Dir: true},
	} {
		set(t, u, it)
	}
	for _, it := range u.All() {
		refused(t, u, it.Node, api.NotFound)
		shown(t, u, it.Node, "", api.NotFound)
	}
	listed(t, u, root)
}

// P1801, P1802, P1803: NotDir: a file that hangs.
func TestNotDir(t *testing.T) {
	u := some()
	for _, f := range []api.Stamp{at(2, 1), at(2, 2), at(3, 0)} {
		refused(t, u, f, api.NotDir)
	}
	// No operation makes kids of a file; of those that Set makes, nothing is listed, but each is shown so in its Parent.
	set(t, u, tree.Item{Node: at(8, 1), Parent: at(3, 0), Name: "a"})
	set(t, u, tree.Item{Node: at(8, 2), Parent: at(3, 0), Name: "a"})
	refused(t, u, at(3, 0), api.NotDir)
	shown(t, u, at(8, 1), "a", api.OK)
	shown(t, u, at(8, 2), "a~8.2", api.OK)
}

// P1801, P1802, P1803: no tree.
func TestNilTree(t *testing.T) {
	for _, n := range []api.Stamp{root, at(1, 1), at(-1, 99)} {
		refused(t, nil, n, api.Nil)
		shown(t, nil, n, "", api.Nil)
	}
}

// P1801: Size is that of a directory, too, and of more than operations write: how many bytes Data has.
func TestSize(t *testing.T) {
	u := tree.New()
	set(t, u, tree.Item{Node: at(1, 1), Name: "a", Dir: true, Data: []byte("three")})
	set(t, u, tree.Item{Node: at(2, 1), Name: "b", Data: make([]byte, 5000)})
	set(t, u, tree.Item{Node: at(3, 1), Name: "c", Data: []byte{}})
	listed(t, u, root, Entry{"a", at(1, 1), true, 5}, Entry{"b", at(2, 1), false, 5000}, Entry{"c", at(3, 1), false, 0})
}

// P1801, P1802: names that Set makes may be shown alike: they stand by stamps, and the first one is found.
func TestShownAlike(t *testing.T) {
	u := tree.New()
	for i, name := range []string{"a~4.1", "b", "a", "a", "a~4.1"} {
		set(t, u, tree.Item{Node: at(int64(i+1), 1), Name: name, Data: make([]byte, i)})
	}
	listed(t, u, root,
		Entry{"a", at(3, 1), false, 2}, Entry{"a~4.1", at(1, 1), false, 0}, Entry{"a~4.1", at(4, 1), false, 3}, Entry{"a~4.1~5.1", at(5, 1), false, 4}, Entry{"b", at(2, 1), false, 1})
	found(t, u, root, "a~4.1", Entry{"a~4.1", at(1, 1), false, 0}, api.OK)
	shown(t, u, at(4, 1), "a~4.1", api.OK)
	clash(t, u, root, "a", "a~4.1")
}

// P1802: Shown tells the root of nothing: NotFound.
func TestShownOfRoot(t *testing.T) {
	shown(t, some(), root, "", api.NotFound)
	shown(t, tree.New(), root, "", api.NotFound)
}

// P1802: Shown tells the name in its own Parent, where others may be that have the same elsewhere.
func TestShown(t *testing.T) {
	u := some()
	for _, it := range []struct {
		node api.Stamp
		want string
	}{{at(1, 1), "a"}, {at(2, 0), "b"}, {at(2, 1), "c"}, {at(2, 2), "x"}, {at(3, 0), "f"}} {
		shown(t, u, it.node, it.want, api.OK)
	}
	u.Do(mk(at(30, 5), at(2, 0), false, "c"))
	u.Do(mk(at(31, 5), at(1, 1), false, "c"))
	shown(t, u, at(30, 5), "c", api.OK)
	shown(t, u, at(31, 5), "c~31.5", api.OK)
}

// P1802: Find tells what is shown so, not what has that Name.
func TestFind(t *testing.T) {
	u := tree.Build([]api.Op{
		mk(at(1, 1), root, true, "d"), mk(at(2, 1), at(1, 1), false, "a"), mk(at(3, 1), at(1, 1), true, "a"), mk(at(4, 1), at(1, 1), false, "b"),
		wr(at(5, 1), at(2, 1), "xyz"),
	})
	found(t, u, root, "d", Entry{"d", at(1, 1), true, 0}, api.OK)
	found(t, u, at(1, 1), "a", Entry{"a", at(2, 1), false, 3}, api.OK)
	found(t, u, at(1, 1), "a~3.1", Entry{"a~3.1", at(3, 1), true, 0}, api.OK)
	found(t, u, at(1, 1), "b", Entry{"b", at(4, 1), false, 0}, api.OK)
	for _, name := range []string{"", "d", "A", "a~2.1", "a~3.2", "a~4.1", "b~4.1", "a~03.1", "a~3.1 ", "a~3", "~3.1", ".", "..", "/", "/a", "a\x00", strings.Repeat("a", 1000)} {
		found(t, u, at(1, 1), name, Entry{}, api.NotFound)
	}
	found(t, u, root, "a", Entry{}, api.NotFound)
	found(t, u, at(3, 1), "a", Entry{}, api.NotFound)
	found(t, tree.New(), root, "a", Entry{}, api.NotFound)
}

// P1803: Free: no kid has that Name; one that is gone, or elsewhere, does not count.
func TestFree(t *testing.T) {
	u := some()
	for _, name := range []string{"a", "f"} {
		free(t, u, root, name, false)
	}
	for _, name := range []string{"gone", "in", "b", "c", "A", "aa", " ", strings.Repeat("x", api.MaxName)} {
		free(t, u, root, name, true)
		free(t, tree.New(), root, name, true)
	}
	free(t, u, at(1, 1), "a", true)
	free(t, u, at(1, 1), "b", false)
	free(t, u, at(2, 0), "b", true)
}

// P1803: what is no name is never free.
func TestFreeOfNoName(t *testing.T) {
	for _, name := range []string{"", ".", "..", "/", "a/b", "a~1.1", "~", "\x00", "a\x1f", "\x7f", strings.Repeat("x", api.MaxName+1)} {
		free(t, some(), root, name, false)
		free(t, some(), at(1, 1), name, false)
		free(t, tree.New(), root, name, false)
	}
}

// P1803: a mark: ~, T, a point, W, with a - ahead of what is below 0.
func TestMark(t *testing.T) {
	for _, c := range []struct {
		s    api.Stamp
		want string
	}{
		{root, "~0.0"}, {at(2, 1), "~2.1"}, {at(1, 0), "~1.0"}, {at(-3, 4), "~-3.4"}, {at(3, -4), "~3.-4"}, {at(-1, -1), "~-1.-1"}, {at(10, 12), "~10.12"},
		{at(api.MaxTime, 7), "~1099511627776.7"},
		{at(math.MaxInt64, math.MaxInt64), "~9223372036854775807.9223372036854775807"},
		{at(math.MinInt64, math.MinInt64), "~-9223372036854775808.-9223372036854775808"},
	} {
		if got := Mark(c.s); got != c.want {
			t.Errorf("Mark of %v: %q, not %q", c.s, got, c.want)
		}
	}
}

// P1803: Names that more than one has, each once, rising; those of others, or of what is gone, are none.
func TestClashes(t *testing.T) {
	d := at(1, 1)
	u := tree.Build([]api.Op{
		mk(d, root, true, "d"),
		mk(at(2, 1), d, false, "z"), mk(at(3, 1), d, true, "z"),
		mk(at(4, 1), d, false, "b"), mk(at(5, 1), d, false, "b"), mk(at(6, 1), d, false, "b"), mk(at(6, 2), d, false, "b"),
		mk(at(7, 1), d, false, "one"), mk(at(8, 1), root, false, "one"),
		mk(at(9, 1), d, false, "went"), mk(at(9, 2), d, false, "went"), rm(at(10, 1), at(9, 1)),
		mk(at(11, 1), d, false, "a\x80"), mk(at(11, 2), d, false, "a\x80"), mk(at(12, 1), d, false, "a"), mk(at(12, 2), d, false, "a"),
	})
	clash(t, u, d, "a", "a\x80", "b", "z")
	clash(t, u, root)
	clash(t, u, at(3, 1))
	clash(t, tree.New(), root)
}
