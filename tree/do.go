package tree

import (
	"cachette/api"
	"cachette/op"
)

// The kinds of operations; 0 is none.
const (
	_ = iota
	makes
	moves
	removes
	writes
)

// Do does what o does, and answers the item of its node as it was ahead of it, and whether it was there.
func (t *Tree) Do(o api.Op) (Item, bool, api.Kind) {
	if t == nil {
		return Item{}, false, api.Nil
	}
	if !op.Right(o) {
		return Item{}, false, api.BadArg
	}
	was, there := t.Get(o.Node)
	does := [...]func(api.Op) api.Kind{makes: t.create, moves: t.move, removes: t.remove, writes: t.write}
	if k := does[o.Kind](o); k != api.OK {
		return Item{}, false, k
	}
	return was, there, api.OK
}

// Build answers the tree that operations make, done in order; what Do refuses is passed over.
func Build(l []api.Op) *Tree {
	t := New()
	for _, o := range op.Sort(l) {
		t.Do(o)
	}
	return t
}

// create: the node of o is there from now on.
func (t *Tree) create(o api.Op) api.Kind {
	if t.has(o.Node) || !t.takesKids(o.Parent) {
		return api.OK
	}
	// Set may have put more there than operations can.
	if t.Len() >= api.MaxNodes {
		return api.TooLarge
	}
	t.put(Item{Node: o.Node, Parent: o.Parent, Name: o.Name, Dir: o.Dir})
	return api.OK
}

// move: the node comes to another place, also back from where it was removed; not into itself, so that no ring is made.
func (t *Tree) move(o api.Op) api.Kind {
	it, there := t.look(o.Node)
	if !there || !t.takesKids(o.Parent) || t.Within(o.Node, o.Parent) {
		return api.OK
	}
	it.Parent, it.Name, it.Gone = o.Parent, o.Name, false
	t.put(it)
	return api.OK
}

// remove: the node is gone, but stays an item, since a later operation may move it, or something into it.
func (t *Tree) remove(o api.Op) api.Kind {
	if it, there := t.look(o.Node); there {
		it.Gone = true
		t.put(it)
	}
	return api.OK
}

// write: the node, if it is a file, has another content.
func (t *Tree) write(o api.Op) api.Kind {
	if it, there := t.look(o.Node); there && !it.Dir {
		it.Data, it.By = o.Data, o.At
		t.put(it)
	}
	return api.OK
}

// takesKids: is n the root, or a directory that is there? One that was removed is there.
func (t *Tree) takesKids(n api.Stamp) bool {
	it, there := t.look(n)
	return n == op.Root() || there && it.Dir
}
