package op

import (
	"bytes"
	"math/rand"
	"slices"
	"strings"
	"testing"

	"cachette/api"
)

// isOneForm: if b is read, of some At, it is the Text of what is read, and that is right and of that At; whatever is told, nothing is beside an error.
func isOneForm(t *testing.T, b []byte, s api.Stamp) bool {
	t.Helper()
	o, k := Read(b, s)
	if k != api.OK {
		if k != api.Malformed && k != api.TooLarge || !Same(o, api.Op{}) {
			t.Fatalf("Read of % x at %v: %v, %d", b, s, o, k)
		}
		return false
	}
	if again, j := Text(o); j != api.OK || !bytes.Equal(again, b) || !Right(o) || o.At != s {
		t.Fatalf("Read of % x at %v: %v, whose Text is % x, %d", b, s, o, again, j)
	}
	return true
}

// P1504: what is read of a text has that text, of all short ones.
func TestShortTexts(t *testing.T) {
	edges := []byte{0, 1, 2, 3, 4, 5, 7, 8, 'a', '.', '~', 0x7f, 0x80, 0x81, 0xff}
	n, read := len(edges), 0
	for size := range 6 {
		all := 1
		for range size {
			all *= n
		}
		for i := range all {
			b := make([]byte, size)
			for j := range b {
				b[j], i = edges[i%n], i/n
			}
			if isOneForm(t, b, at(9, 1)) {
				read++
			}
		}
	}
	if read < 100 {
		t.Errorf("only %d were read", read)
	}
}

// changed: b, with some bytes changed, left out or put in.
func changed(r *rand.Rand, b []byte) []byte {
	b = bytes.Clone(b)
	for range 1 + r.Intn(3) {
		i := r.Intn(len(b) + 1)
		switch r.Intn(4) {
		case 0:
			b = slices.Insert(b, i, byte(r.Intn(256)))
		case 1:
			if i < len(b) {
				b = slices.Delete(b, i, i+1)
			}
		case 2:
			if i < len(b) {
				b[i] = byte(r.Intn(10))
			}
		default:
			if i < len(b) {
				b[i] ^= 1 << r.Intn(8)
			}
		}
	}
	return b
}

// P1504: of right texts that were changed a little, too.
func TestChangedTexts(t *testing.T) {
	r := rand.New(rand.NewSource(1504))
	read, refused := 0, 0
	for _, o := range rightOps() {
		b, _ := Text(o)
		for range 200 {
			if isOneForm(t, changed(r, b), o.At) {
				read++
			} else {
				refused++
			}
		}
	}
	if read < 1000 || refused < 1000 {
		t.Errorf("%d read, %d refused", read, refused)
	}
}

// P1504: of one At no two operations have one text, and none has two.
func TestTextsAreApart(t *testing.T) {
	seen := map[string]api.Op{}
	for _, o := range rightOps() {
		o.At = at(9, 1)
		if o.Kind == 1 {
			o.Node = o.At
		}
		b, k := Text(o)
		again, _ := Text(o)
		if k != api.OK || !bytes.Equal(again, b) {
			t.Fatalf("Text of %v: % x, then % x, %d", o, b, again, k)
		}
		if p, is := seen[string(b)]; is && !Same(o, p) {
			t.Errorf("%v and %v have the text % x", o, p, b)
		}
		seen[string(b)] = o
	}
	if len(seen) < 100 {
		t.Errorf("only %d texts", len(seen))
	}
}

// anyOp: one whose fields come of a few, so that it is right now and then, and wrong in each way.
func anyOp(r *rand.Rand) api.Op {
	stamps := []api.Stamp{{}, {}, {}, {}, at(1, 0), at(5, 7), at(5, 7), at(9, 2), at(api.MaxTime, 3), at(0, 1), at(6, 8), at(-1, 2), at(api.MaxTime+1, 0)}
	names := []string{"", "", "", "", "", "", "a", "a", "b.c", ".", "..", "...", "x~1", "\x1f", " ", "\xff", strings.Repeat("y", 24), strings.Repeat("y", 25)}
	datas := []string{"", "", "", "\x00", "ab", strings.Repeat("z", 400), strings.Repeat("z", 401)}
	o := api.Op{Kind: r.Intn(6), At: stamps[r.Intn(len(stamps))], Node: stamps[r.Intn(len(stamps))], Parent: stamps[r.Intn(len(stamps))], Dir: r.Intn(3) == 0, Name: names[r.Intn(len(names))], Data: []byte(datas[r.Intn(len(datas))])}
	if r.Intn(3) == 0 {
		o.Node = o.At
	}
	return o
}

// plainName and plainRight: by the chapter's words, said once more.
func plainName(s string) bool {
	for i := range len(s) {
		if s[i] < 32 || s[i] == 127 || s[i] == '/' || s[i] == '~' {
			return false
		}
	}
	return len(s) >= 1 && len(s) <= 24 && s != "." && s != ".."
}

func plainRight(o api.Op) bool {
	stamped := func(s api.Stamp) bool { return s.T >= 1 && s.T <= 1<<40 && s.W >= 0 && s.W <= 7 }
	root := o.Parent == api.Stamp{}
	hasPlace := (root || stamped(o.Parent)) && plainName(o.Name)
	noPlace := root && o.Name == ""
	return stamped(o.At) && (o.Kind == 1 && o.Node == o.At && hasPlace && len(o.Data) == 0 ||
		o.Kind == 2 && stamped(o.Node) && hasPlace && !o.Dir && len(o.Data) == 0 ||
		o.Kind == 3 && stamped(o.Node) && noPlace && !o.Dir && len(o.Data) == 0 ||
		o.Kind == 4 && stamped(o.Node) && noPlace && !o.Dir && len(o.Data) <= 400)
}

// P1501, P1502, P1504: whatever operation comes is right by the plain words, or BadArg; each right one has a text of its own, which is read.
func TestPlainWords(t *testing.T) {
	r := rand.New(rand.NewSource(1501))
	var right [5]int
	wrong := 0
	for range 400_000 {
		o := anyOp(r)
		want := plainRight(o)
		if got := Right(o); got != want {
			t.Fatalf("Right of %v: %t", o, got)
		}
		b, k := Text(o)
		if !want {
			wrong++
			if k != api.BadArg || len(b) != 0 {
				t.Fatalf("Text of %v: % x, %d", o, b, k)
			}
			continue
		}
		right[o.Kind]++
		if got, j := Read(b, o.At); k != api.OK || j != api.OK || !Same(got, o) {
			t.Fatalf("Text of %v: % x, %d, read as %v, %d", o, b, k, got, j)
		}
	}
	if slices.Min(right[1:]) < 200 || wrong < 200 {
		t.Errorf("right ones by kinds: %v; wrong: %d", right[1:], wrong)
	}
}

// P1504: whatever bytes come.
func FuzzRead(f *testing.F) {
	for _, o := range four() {
		b, _ := Text(o)
		f.Add(b, o.At.T, o.At.W)
	}
	f.Fuzz(func(t *testing.T, b []byte, when int64, who int) {
		isOneForm(t, b, at(when, who))
	})
}

// P1503: sorting what is sorted changes nothing; a list's order matters only among those of one At.
func TestSortAgain(t *testing.T) {
	r := rand.New(rand.NewSource(1503))
	for range 300 {
		var l []api.Op
		for i := range r.Intn(60) {
			l = append(l, wr(at(int64(1+r.Intn(9)), r.Intn(3)), at(1, 1), strings.Repeat("q", i)))
		}
		want := Sort(l)
		if !areSame(Sort(want), want) || !slices.IsSortedFunc(want, func(a, b api.Op) int {
			if Less(a, b) {
				return -1
			}
			return 1
		}) {
			t.Fatalf("Sort of %v: %v", l, want)
		}
		mixed := slices.Clone(want)
		r.Shuffle(len(mixed), func(i, j int) { mixed[i], mixed[j] = mixed[j], mixed[i] })
		if got := Sort(append(mixed, l...)); !areSame(got, want) {
			t.Fatalf("Sort of another order: %v, not %v", got, want)
		}
	}
}

// spare: a copy of b whose spare room has something in it.
func spare(b []byte) []byte {
	return append(bytes.Clone(b), 0xee, 0xee, 0xee)[:len(b)]
}

// Rule 4: what is handed in is not changed, its spare room neither, and not kept; what is handed out is new memory, its spare room too.
func TestTextSharesNothing(t *testing.T) {
	o := wr(at(9, 1), at(4, 2), "abc")
	o.Data = spare(o.Data)
	b, _ := Text(o)
	again, _ := Text(o)
	in := spare(b)
	got, _ := Read(in, o.At)
	other, _ := Read(in, o.At)
	clear(b[:cap(b)])
	clear(got.Data[:cap(got.Data)])
	if !bytes.Equal(again, []byte{4, 8, 2, 3, 'a', 'b', 'c'}) || !bytes.Equal(in[:len(in)+3], append(bytes.Clone(again), 0xee, 0xee, 0xee)) {
		t.Errorf("% x, % x", again, in[:len(in)+3])
	}
	clear(in)
	if string(other.Data) != "abc" || string(o.Data[:6]) != "abc\xee\xee\xee" {
		t.Errorf("%q, %q", other.Data, o.Data[:6])
	}
}

// Rule 4: likewise of lists that are sorted, and of what each operation has.
func TestSortSharesNothing(t *testing.T) {
	fresh := func() []api.Op {
		l := []api.Op{wr(at(3, 1), at(1, 1), "three"), wr(at(2, 1), at(1, 1), "two"), wr(at(3, 1), at(1, 1), "again"), wr(at(9, 1), at(1, 1), "spare")}
		for i := range l {
			l[i].Data = spare(l[i].Data)
		}
		return l
	}
	in, want := fresh(), fresh()
	out := Sort(in[:3])
	isUntouched := func() {
		t.Helper()
		for i, o := range in {
			if !Same(o, want[i]) || !bytes.Equal(o.Data[:len(o.Data)+3], want[i].Data[:len(o.Data)+3]) {
				t.Errorf("what was handed in became %v", in)
			}
		}
	}
	isUntouched()
	parts := [][]byte{}
	for _, o := range out {
		parts = append(parts, o.Data[:cap(o.Data)])
	}
	for i, p := range parts {
		for j := range p {
			p[j] = byte(200 + i)
		}
	}
	for i, p := range parts {
		if slices.ContainsFunc(p, func(x byte) bool { return x != byte(200+i) }) {
			t.Error("two lists of one answer share memory")
		}
	}
	whole := out[:cap(out)]
	for i := range whole {
		whole[i] = api.Op{Name: "scribbled"}
	}
	isUntouched()
	if again := Sort(in[:3]); !areSame(again, []api.Op{want[1], want[0]}) {
		t.Errorf("Sort again: %v", again)
	}
}

// Rule 4: one operation twice, or two that share their Data, have it apart in the answer.
func TestSortPartsSharedData(t *testing.T) {
	data := []byte("data")
	a, b := wr(at(1, 1), at(1, 1), ""), wr(at(2, 1), at(1, 1), "")
	a.Data, b.Data = data, data
	out := Sort([]api.Op{b, a})
	clear(out[0].Data)
	if string(out[1].Data) != "data" || string(data) != "data" {
		t.Errorf("%q, %q", out[1].Data, data)
	}
}
