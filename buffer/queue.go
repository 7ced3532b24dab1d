package buffer

import (
	"container/heap"
	"slices"

	"cachette/api"
)

// place is a writer's index.
type place struct {
	writer, index int
}

// placeOf answers where e stands.
func placeOf(e api.Entry) place {
	return place{e.Writer, e.Index}
}

// ahead tells whether p stands ahead of q.
func (p place) ahead(q place) bool {
	if p.writer != q.writer {
		return p.writer < q.writer
	}
	return p.index < q.index
}

// holds tells whether e stands at p.
func (p place) holds(e api.Entry) bool {
	return placeOf(e) == p
}

// isBehind tells whether p is behind e in one log.
func (p place) isBehind(e api.Entry) bool {
	return e.Writer == p.writer && e.Index < p.index
}

// line has entries as the library's heap asks for them.
type line []api.Entry

func (l line) Len() int           { return len(l) }
func (l line) Less(i, j int) bool { return placeOf(l[i]).ahead(placeOf(l[j])) }
func (l line) Swap(i, j int)      { l[i], l[j] = l[j], l[i] }

// Push puts x, an entry, behind the last one.
func (l *line) Push(x any) {
	*l = append(*l, x.(api.Entry))
}

// Pop takes the last one out.
func (l *line) Pop() any {
	n := len(*l) - 1
	last := (*l)[n]
	(*l)[n] = api.Entry{} // its body is the caller's from now on
	*l = (*l)[:n]
	return last
}

// queue is a heap by the methods of its line: the entry that stands ahead of all others is at 0.
type queue struct {
	line
}

// put puts e, at whose place there must be none.
func (q *queue) put(e api.Entry) {
	heap.Push(q, e)
}

// first answers the entry ahead of all others; there must be one.
func (q *queue) first() api.Entry {
	return q.line[0]
}

// look answers an entry that is wanted, which stays; false, if there is none.
func (q *queue) look(wanted func(api.Entry) bool) (api.Entry, bool) {
	i := slices.IndexFunc(q.line, wanted)
	if i < 0 {
		return api.Entry{}, false
	}
	return q.line[i], true
}

// take takes an entry out that is wanted; false, if there is none.
func (q *queue) take(wanted func(api.Entry) bool) (api.Entry, bool) {
	i := slices.IndexFunc(q.line, wanted)
	if i < 0 {
		return api.Entry{}, false
	}
	return heap.Remove(q, i).(api.Entry), true
}

// inOrder answers the entries as they stand; they stay.
func (q *queue) inOrder() []api.Entry {
	rest := queue{slices.Clone(q.line)}
	out := make([]api.Entry, 0, rest.Len())
	for rest.Len() > 0 {
		out = append(out, heap.Pop(&rest).(api.Entry))
	}
	return out
}
