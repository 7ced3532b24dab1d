package op

import (
	"math"
	"slices"
	"testing"

	"cachette/api"
)

// P1503: alike in each field, of operations that are right or not.
func TestSame(t *testing.T) {
	l := append(rightOps(), api.Op{}, api.Op{Kind: -5, At: at(-1, -1), Name: "/", Data: []byte{1}})
	for _, o := range l {
		if !Same(o, with(o, func(o *api.Op) { o.Data = slices.Clone(o.Data) })) {
			t.Errorf("%v is not the same as itself", o)
		}
		for what, do := range map[string]func(o *api.Op){
			"Kind":        func(o *api.Op) { o.Kind++ },
			"At's T":      func(o *api.Op) { o.At.T++ },
			"At's W":      func(o *api.Op) { o.At.W++ },
			"Node's T":    func(o *api.Op) { o.Node.T++ },
			"Node's W":    func(o *api.Op) { o.Node.W++ },
			"Parent's T":  func(o *api.Op) { o.Parent.T++ },
			"Parent's W":  func(o *api.Op) { o.Parent.W++ },
			"Dir":         func(o *api.Op) { o.Dir = !o.Dir },
			"Name":        func(o *api.Op) { o.Name += "x" },
			"longer Data": func(o *api.Op) { o.Data = append(slices.Clone(o.Data), 0) },
			"other Data": func(o *api.Op) {
				o.Data = append([]byte{9}, o.Data...)
				o.Data[0]++
			},
		} {
			if p := with(o, do); Same(o, p) || Same(p, o) {
				t.Errorf("%s: %v is the same as %v", what, o, p)
			}
		}
	}
}

// P1503: Data of as many bytes, but others, is not the same; none is the same, nil or empty.
func TestSameData(t *testing.T) {
	if a, b := wr(at(9, 1), at(4, 2), "ab"), wr(at(9, 1), at(4, 2), "ac"); Same(a, b) || Same(b, a) {
		t.Error("other bytes are the same")
	}
	for _, o := range four()[:3] {
		none := with(o, func(o *api.Op) { o.Data = []byte{} })
		if !Same(o, none) || !Same(none, o) {
			t.Errorf("%v is not the same with an empty list", o)
		}
	}
}

// stampsInOrder: right and not, each ahead of the next one.
func stampsInOrder() []api.Stamp {
	var l []api.Stamp
	for _, t := range []int64{math.MinInt64, -1, 0, 1, 2, api.MaxTime, api.MaxTime + 1, math.MaxInt64} {
		for _, w := range []int{math.MinInt, -1, 0, 1, 7, 8, math.MaxInt} {
			l = append(l, at(t, w))
		}
	}
	return l
}

// P1503: Less asks At alone, whatever else the operations have.
func TestLess(t *testing.T) {
	l := stampsInOrder()
	for i, a := range l {
		for j, b := range l {
			// What the later one has beside At is ahead of what the earlier one has, in all fields.
			x := api.Op{Kind: 4, At: a, Node: at(9, 7), Parent: at(9, 7), Dir: true, Name: "z", Data: []byte("z")}
			y := api.Op{Kind: 1, At: b, Node: at(1, 0), Name: "a"}
			if got := Less(x, y); got != (i < j) {
				t.Errorf("Less of %v and %v: %t", a, b, got)
			}
			if got := Less(y, x); got != (j < i) {
				t.Errorf("Less of %v and %v: %t", b, a, got)
			}
		}
	}
}

// areSame: are both lists the same operations, in the same order?
func areSame(a, b []api.Op) bool {
	return slices.EqualFunc(a, b, Same)
}

// P1503: in order, of each At the first one in the list.
func TestSort(t *testing.T) {
	a, b, c := rm(at(1, 0), at(5, 5)), rm(at(1, 1), at(4, 4)), rm(at(2, 0), at(3, 3))
	first, second, third := wr(at(1, 1), at(6, 6), "first"), wr(at(1, 1), at(6, 6), "second"), mk(at(1, 1), Root(), true, "third")
	for _, x := range []struct{ l, want []api.Op }{
		{nil, nil},
		{[]api.Op{}, nil},
		{[]api.Op{a}, []api.Op{a}},
		{[]api.Op{a, a}, []api.Op{a}},
		{[]api.Op{c, b, a}, []api.Op{a, b, c}},
		{[]api.Op{b, a, c}, []api.Op{a, b, c}},
		{[]api.Op{first, second, third}, []api.Op{first}},
		{[]api.Op{third, second, first}, []api.Op{third}},
		{[]api.Op{second, first, third, first}, []api.Op{second}},
		{[]api.Op{c, first, a, second, c, b, third, a}, []api.Op{a, first, c}},
		{[]api.Op{b, c, first, a}, []api.Op{a, b, c}},
		{[]api.Op{{}, {Name: "x"}}, []api.Op{{}}},
		{[]api.Op{{Name: "x"}, {}}, []api.Op{{Name: "x"}}},
		{[]api.Op{{At: at(0, -1)}, {At: at(-9, 8)}, {}}, []api.Op{{At: at(-9, 8)}, {At: at(0, -1)}, {}}},
	} {
		if got := Sort(x.l); !areSame(got, x.want) {
			t.Errorf("Sort of %v: %v, not %v", x.l, got, x.want)
		}
	}
}

// P1503: of many that come in whatever order, several of each At, the first ones, by the stamps in their whole range.
func TestSortWhateverOrder(t *testing.T) {
	order := stampsInOrder()
	n := len(order)
	for step := 1; step < n; step += 2 {
		if n%7 == 0 && step%7 == 0 {
			continue // it would not meet them all
		}
		var l []api.Op
		for round := range 5 {
			for i := range n {
				l = append(l, api.Op{At: order[(i*step+round)%n], Kind: round, Data: []byte{byte(round), byte(i)}})
			}
		}
		got := Sort(l)
		if len(got) != n {
			t.Fatalf("step %d: %d operations, not %d", step, len(got), n)
		}
		for i, o := range got {
			first := slices.IndexFunc(l, func(x api.Op) bool { return x.At == order[i] })
			if !Same(o, l[first]) {
				t.Fatalf("step %d: the %d-th is %v, not %v", step, i, o, l[first])
			}
		}
	}
}
