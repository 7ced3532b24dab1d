package op

import (
	"cachette/api"
	"cachette/stamp"
	"cachette/wire"
)

// part: of an operation's text, as it is put, and as it is taken: both are told at once, so that they can't part ways.
type part struct {
	put  func(b []byte) []byte
	take func(r *wire.Reader)
}

// hand puts what its operation has behind bytes, and takes it from a reader.
type hand struct {
	o *api.Op
}

// Text answers the text of o: its kind, and what that has.
func Text(o api.Op) ([]byte, api.Kind) {
	if !Right(o) {
		return nil, api.BadArg
	}
	b := wire.Num(nil, uint64(o.Kind))
	for _, p := range (hand{&o}).parts() {
		b = p.put(b)
	}
	return b, api.OK
}

// Read answers the operation of that At whose Text b is.
func Read(b []byte, at api.Stamp) (api.Op, api.Kind) {
	r := wire.Read(b)
	// At is the node of an operation that makes one; all others take theirs from the text.
	o := api.Op{Kind: r.Count(writes), At: at, Node: at}
	for _, p := range (hand{&o}).parts() {
		p.take(r)
	}
	// Whether the operation is right is asked only once all is taken: what wire's reader says comes first.
	if k := r.Done(); k != api.OK {
		return api.Op{}, k
	}
	if !Right(o) {
		return api.Op{}, api.Malformed
	}
	return o, api.OK
}

// parts answers what the operation's kind has behind it, in order.
func (h hand) parts() []part {
	node := part{h.putNode, h.takeNode}
	parent := part{h.putParent, h.takeParent}
	name := part{h.putName, h.takeName}
	switch h.o.Kind {
	case makes:
		return []part{parent, {h.putDir, h.takeDir}, name}
	case moves:
		return []part{node, parent, name}
	case removes:
		return []part{node}
	case writes:
		return []part{node, {h.putData, h.takeData}}
	}
	return nil
}

func (h hand) putNode(b []byte) []byte   { return stamp.Put(b, h.o.Node) }
func (h hand) putParent(b []byte) []byte { return stamp.Put(b, h.o.Parent) }
func (h hand) putDir(b []byte) []byte    { return wire.Bool(b, h.o.Dir) }
func (h hand) putName(b []byte) []byte   { return wire.Text(b, h.o.Name) }
func (h hand) putData(b []byte) []byte   { return wire.Bytes(b, h.o.Data) }

func (h hand) takeNode(r *wire.Reader)   { h.o.Node = stamp.Get(r) }
func (h hand) takeParent(r *wire.Reader) { h.o.Parent = stamp.Get(r) }
func (h hand) takeDir(r *wire.Reader)    { h.o.Dir = r.Bool() }
func (h hand) takeName(r *wire.Reader)   { h.o.Name = r.Text(api.MaxName) }
func (h hand) takeData(r *wire.Reader)   { h.o.Data = r.Bytes(api.MaxContent) }
