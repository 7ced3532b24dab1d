package names

import (
	"slices"
	"strconv"

	"cachette/api"
	"cachette/tree"
)

// Mark answers what stands behind a name that an earlier kid has, too: no name has a ~, so that none is like a name with a mark.
func Mark(s api.Stamp) string {
	return "~" + strconv.FormatInt(s.T, 10) + "." + strconv.Itoa(s.W)
}

// entries: the kids of dir, each with its shown name, by their stamps.
func entries(t *tree.Tree, dir api.Stamp) []Entry {
	var out []Entry
	m := met{}
	for _, it := range t.Kids(dir) {
		e := Entry{Name: it.Name, Node: it.Node, Dir: it.Dir, Size: len(it.Data)}
		if m.meet(it.Name) > 1 {
			e.Name += Mark(it.Node)
		}
		out = append(out, e)
	}
	return out
}

// met tells how often each name was met.
type met map[string]int

// meet answers how often the name has been met, with this time.
func (m met) meet(name string) int {
	m[name]++
	return m[name]
}

// asked is what entries and kids are asked for: a name, or a node.
type asked struct {
	name string
	node api.Stamp
}

// shown: is e shown under the name?
func (a asked) shown(e Entry) bool {
	return e.Name == a.name
}

// stands: is e the node's?
func (a asked) stands(e Entry) bool {
	return e.Node == a.node
}

// has: is it the name that it has, whatever it is shown under?
func (a asked) has(it tree.Item) bool {
	return it.Name == a.name
}

// first: the first entry that is asked for.
func first(l []Entry, is func(Entry) bool) (Entry, api.Kind) {
	i := slices.IndexFunc(l, is)
	if i < 0 {
		return Entry{}, api.NotFound
	}
	return l[i], api.OK
}
