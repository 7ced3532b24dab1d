package names

import (
	"fmt"
	"math/rand"
	"slices"
	"testing"

	"cachette/api"
	"cachette/op"
	"cachette/tree"
)

// model: the chapter's plain words, on all items of a tree, in order of their stamps.
type model []tree.Item

// hangs: is n the root, or there, not gone, and in what hangs? (Of trees that operations made.)
func (m model) hangs(n api.Stamp) bool {
	if n == root {
		return true
	}
	it := m.of(n)
	return it != nil && !it.Gone && m.hangs(it.Parent)
}

// of: the item of n, nil if there is none.
func (m model) of(n api.Stamp) *tree.Item {
	for i := range m {
		if m[i].Node == n {
			return &m[i]
		}
	}
	return nil
}

// kind: List's.
func (m model) kind(dir api.Stamp) api.Kind {
	switch {
	case !m.hangs(dir):
		return api.NotFound
	case dir != root && !m.of(dir).Dir:
		return api.NotDir
	}
	return api.OK
}

// shown: the name of an item, or that with its mark, if an earlier one of its Parent has the same.
func (m model) shown(it tree.Item) string {
	for _, x := range m {
		if !x.Gone && x.Parent == it.Parent && x.Name == it.Name {
			if x.Node == it.Node {
				return it.Name
			}
			return fmt.Sprintf("%s~%d.%d", it.Name, it.Node.T, it.Node.W)
		}
	}
	return "" // it is gone
}

// list: P1801's entries.
func (m model) list(dir api.Stamp) []Entry {
	var out []Entry
	for _, it := range m {
		if !it.Gone && it.Parent == dir {
			out = append(out, Entry{m.shown(it), it.Node, it.Dir, len(it.Data)})
		}
	}
	slices.SortFunc(out, func(a, b Entry) int {
		if a.Name < b.Name {
			return -1
		}
		return 1
	})
	return out
}

// clashes: P1803's.
func (m model) clashes(dir api.Stamp) []string {
	count := map[string]int{}
	for _, it := range m {
		if !it.Gone && it.Parent == dir {
			count[it.Name]++
		}
	}
	var out []string
	for name, n := range count {
		if n > 1 {
			out = append(out, name)
		}
	}
	slices.Sort(out)
	return out
}

// asModel: a directory of u is as its model says, whatever is asked of it; and the laws hold in it.
func asModel(t *testing.T, u *tree.Tree, m model, dir api.Stamp) {
	t.Helper()
	if k := m.kind(dir); k != api.OK {
		refused(t, u, dir, k)
		return
	}
	want := m.list(dir)
	listed(t, u, dir, want...)
	clash(t, u, dir, m.clashes(dir)...)
	for i, e := range want {
		shown(t, u, e.Node, e.Name, api.OK)
		found(t, u, dir, e.Name, e, api.OK)
		if i > 0 && want[i-1].Name >= e.Name {
			t.Errorf("%q is shown twice", e.Name)
		}
	}
	for _, name := range []string{"a", "b", "c", "nobody"} {
		free(t, u, dir, name, !slices.ContainsFunc(want, func(e Entry) bool { return m.of(e.Node).Name == name }))
	}
}

// anyOp: a right operation of few nodes and names, so that many clash.
func anyOp(r *rand.Rand, when int64) api.Op {
	s := at(when, r.Intn(3))
	node, parent := at(int64(1+r.Intn(12)), r.Intn(3)), at(int64(1+r.Intn(12)), r.Intn(3))
	if r.Intn(2) == 0 {
		parent = root
	}
	name := string([]byte{byte('a' + r.Intn(3))})
	if when <= 12 {
		return mk(s, parent, r.Intn(3) > 0, name)
	}
	switch r.Intn(6) {
	case 0:
		return rm(s, node)
	case 1:
		return wr(s, node, name+name)
	}
	return mv(s, node, parent, name)
}

// P1801 to P1804: directories of trees that operations made are as the chapter's words say, and no two kids are shown alike.
func TestAgainstModel(t *testing.T) {
	for seed := range int64(400) {
		r := rand.New(rand.NewSource(seed))
		var ops []api.Op
		for range 60 {
			ops = append(ops, anyOp(r, int64(1+r.Intn(24))))
		}
		u := tree.Build(ops)
		m := model(u.All())
		dirs := []api.Stamp{root, at(30, 0), at(1, 7)}
		for _, it := range m {
			dirs = append(dirs, it.Node)
		}
		for _, dir := range dirs {
			asModel(t, u, m, dir)
		}
		if t.Failed() {
			t.Fatalf("seed %d", seed)
		}
	}
}

// P1804: where all that can be there has one name, the root's first kid alone has it, and each is found.
func TestAllOfOneName(t *testing.T) {
	var ops []api.Op
	for i := range api.MaxNodes {
		ops = append(ops, mk(at(int64(1+i/3), i%3), root, i%2 == 0, "x"))
	}
	rand.New(rand.NewSource(18)).Shuffle(len(ops), func(i, j int) { ops[i], ops[j] = ops[j], ops[i] })
	u := tree.Build(ops)
	l, k := List(u, root)
	if len(l) != api.MaxNodes || k != api.OK {
		t.Fatalf("%d entries, %d", len(l), k)
	}
	shownAs := map[string]api.Stamp{}
	for _, e := range l {
		shownAs[e.Name] = e.Node
		found(t, u, root, e.Name, e, api.OK)
		shown(t, u, e.Node, e.Name, api.OK)
		if (e.Name == "x") != (e.Node == at(1, 0)) {
			t.Errorf("%v is shown as %q", e.Node, e.Name)
		}
	}
	if len(shownAs) != len(l) {
		t.Errorf("%d names of %d entries", len(shownAs), len(l))
	}
	clash(t, u, root, "x")
	free(t, u, root, "x", false)
}

// P1804: a name that op knows has no mark in it, so that none is shown as another one with its mark.
func TestNoNameHasAMark(t *testing.T) {
	for _, s := range []api.Stamp{at(1, 0), at(api.MaxTime, 7), root} {
		if op.Name("a"+Mark(s)) || op.Name(Mark(s)) {
			t.Errorf("%q is a name", "a"+Mark(s))
		}
	}
}

// P1804: where a name is free, what comes in under it is shown under it, and all others as they were.
func TestFreeIsShown(t *testing.T) {
	u := tree.Build([]api.Op{mk(at(5, 1), root, false, "a"), mk(at(6, 1), root, false, "a"), mk(at(7, 1), root, false, "b")})
	before, _ := List(u, root)
	for _, s := range []api.Stamp{at(1, 1), at(9, 1)} {
		free(t, u, root, "c", true)
		u.Do(mk(s, root, true, "c"))
		listed(t, u, root, append(slices.Clone(before), Entry{"c", s, true, 0})...)
		free(t, u, root, "c", false)
		u.Do(rm(at(20, 1), s))
	}
}

// Rule 5: it hangs on which operations there are alone, and asking changes nothing.
func TestAskedAgain(t *testing.T) {
	u := some()
	all := fmt.Sprint(u.All())
	l, _ := List(u, at(1, 1))
	for range 20 {
		listed(t, u, at(1, 1), l...)
		Shown(u, at(2, 1))
		Find(u, at(1, 1), "c")
		Free(u, at(1, 1), "c")
		Clashes(u, at(1, 1))
	}
	if fmt.Sprint(u.All()) != all {
		t.Error("the tree has changed")
	}
}

// Rule 4: what is handed out is new memory, spare room too: nobody sees what the caller writes into it.
func TestHandedOut(t *testing.T) {
	u := tree.Build([]api.Op{mk(at(1, 1), root, false, "a"), mk(at(2, 1), root, false, "a"), mk(at(3, 1), root, false, "b"), mk(at(4, 1), root, false, "b"), mk(at(5, 1), root, false, "c")})
	want, _ := List(u, root)
	got, _ := List(u, root)
	clear(got[:cap(got)])
	_ = append(got[:1], got...)
	names := Clashes(u, root)
	clear(names[:cap(names)])
	listed(t, u, root, want...)
	clash(t, u, root, "a", "b")
}
