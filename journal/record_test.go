package journal

import (
	"bytes"
	"encoding/binary"
	"encoding/hex"
	"math"
	"math/rand"
	"slices"
	"testing"

	"cachette/api"
)

// text: n bytes that tell by, none of them 0.
func text(n, by int) []byte {
	b := make([]byte, n)
	for i := range b {
		b[i] = byte(1 + (i*7+by*31)%255)
	}
	return b
}

// sectorOf: a part's sector, field by field, as the chapter lays it out.
func sectorOf(gen, round, seq uint32, part, parts, n int, own []byte) []byte {
	s := make([]byte, 64)
	s[0] = 0xC5
	binary.BigEndian.PutUint32(s[1:5], gen)
	binary.BigEndian.PutUint32(s[5:9], round)
	binary.BigEndian.PutUint32(s[9:13], seq)
	s[13], s[14], s[15] = byte(part), byte(parts), byte(n)
	copy(s[16:], own)
	return s
}

// framed: Frame, which must be OK.
func framed(t *testing.T, gen, round, seq uint32, b []byte) [][]byte {
	t.Helper()
	l, k := Frame(gen, round, seq, b)
	if k != api.OK {
		t.Fatalf("Frame of %d bytes: %d", len(b), k)
	}
	return l
}

// laid: the sectors of records, all of one gen and round, from seq 0 on.
func laid(t *testing.T, gen, round uint32, records ...[]byte) [][]byte {
	t.Helper()
	var l [][]byte
	for i, b := range records {
		l = append(l, framed(t, gen, round, uint32(i), b)...)
	}
	return l
}

// same: lists of bytes, one by one; nil is as good as empty.
func same(a, b [][]byte) bool {
	return slices.EqualFunc(a, b, bytes.Equal)
}

// scans: Scan's answer.
func scans(t *testing.T, what string, l [][]byte, gen uint32, records [][]byte, tail int, round uint32) {
	t.Helper()
	r, n, x := Scan(l, gen)
	if !same(r, records) || n != tail || x != round {
		t.Errorf("%s: Scan: %d records, %d, %d, not %d records, %d, %d", what, len(r), n, x, len(records), tail, round)
	}
}

// P1001: Parts at each length, and beyond both ends.
func TestParts(t *testing.T) {
	if Parts(0) != 1 {
		t.Errorf("Parts of 0: %d", Parts(0))
	}
	want := 0
	for n := 1; n <= 4000; n++ {
		if n%48 == 1 {
			want++
		}
		if Parts(n) != want {
			t.Errorf("Parts of %d: %d, not %d", n, Parts(n), want)
		}
	}
	for _, n := range []int{math.MinInt, math.MinInt + 1, math.MinInt32, -48, -1, 4001, 1 << 31, 1 << 32, 1<<32 + 1, math.MaxInt - 1, math.MaxInt} {
		if Parts(n) != 0 {
			t.Errorf("Parts of %d: %d", n, Parts(n))
		}
	}
}

// P1001: the chapter's example, byte by byte.
func TestFrameExample(t *testing.T) {
	l := framed(t, 1, 1, 0, []byte("ab"))
	want, _ := hex.DecodeString("C50000000100000001000000000001026162")
	want = append(want, make([]byte, 64-len(want))...)
	if !same(l, [][]byte{want}) {
		t.Errorf("Frame: % X", l)
	}
}

// P1001: a record of three parts, byte by byte, with numbers whose bytes all differ.
func TestFrameThree(t *testing.T) {
	b := text(100, 3)
	l := framed(t, 0x01020304, 0x05060708, 0x090A0B0C, b)
	head := "C50102030405060708090A0B0C"
	var want [][]byte
	for i, tail := range []string{"000330", "010330", "020304"} {
		s, _ := hex.DecodeString(head + tail)
		s = append(s, b[48*i:min(48*i+48, 100)]...)
		want = append(want, append(s, make([]byte, 64-len(s))...))
	}
	if !same(l, want) {
		t.Errorf("Frame: % X, not % X", l, want)
	}
}

// P1001: Frame at each length: as many sectors as Parts says, each laid out as the chapter says.
func TestFrameEachLength(t *testing.T) {
	for n := 0; n <= 4000; n++ {
		b := text(n, n)
		var want [][]byte
		for i := range Parts(n) {
			own := b[48*i : min(48*i+48, n)]
			want = append(want, sectorOf(7, 1<<31, math.MaxUint32, i, Parts(n), len(own), own))
		}
		if l := framed(t, 7, 1<<31, math.MaxUint32, b); !same(l, want) {
			t.Errorf("Frame of %d bytes: % X", n, l)
		}
	}
}

// P1001: nil is a record of no byte: one part of none.
func TestFrameOfNil(t *testing.T) {
	for _, b := range [][]byte{nil, {}} {
		if l := framed(t, 2, 3, 4, b); !same(l, [][]byte{sectorOf(2, 3, 4, 0, 1, 0, nil)}) {
			t.Errorf("Frame: % X", l)
		}
	}
}

// P1001: TooLarge above MaxFrame, also where gen or round is 0; BadArg: one of these; no sectors with either.
func TestFrameWrong(t *testing.T) {
	for _, c := range []struct {
		gen, round uint32
		n          int
		want       api.Kind
	}{
		{1, 1, 4000, api.OK},
		{math.MaxUint32, math.MaxUint32, 4000, api.OK},
		{1, 1, 4001, api.TooLarge},
		{1, 1, 100000, api.TooLarge},
		{0, 1, 4001, api.TooLarge},
		{1, 0, 4001, api.TooLarge},
		{0, 0, 4001, api.TooLarge},
		{0, 1, 4000, api.BadArg},
		{1, 0, 4000, api.BadArg},
		{0, 0, 1, api.BadArg},
		{0, 1, 0, api.BadArg},
		{1, 0, 0, api.BadArg},
	} {
		l, k := Frame(c.gen, c.round, 0, make([]byte, c.n))
		if k != c.want || (k != api.OK) != (len(l) == 0) {
			t.Errorf("Frame with %d, %d of %d bytes: %d sectors, %d, not %d", c.gen, c.round, c.n, len(l), k, c.want)
		}
	}
}

// P1002: of no sector, and of sectors that are all 0 or can't be read, nothing.
func TestScanNothing(t *testing.T) {
	zero := make([]byte, 64)
	for _, l := range [][][]byte{nil, {}, {nil}, {zero}, {nil, zero, nil}, {{}}, {zero, zero, zero}} {
		for _, gen := range []uint32{0, 1, math.MaxUint32} {
			scans(t, "nothing", l, gen, nil, 0, 0)
		}
	}
}

// P1002: records of many lengths, one behind the other, and the place behind the last, whatever stands behind it.
func TestScanRecords(t *testing.T) {
	records := [][]byte{[]byte("ab"), {}, text(48, 1), text(49, 2), text(96, 3), {}, text(97, 4), text(3984, 5), text(4000, 6), []byte("z")}
	l := laid(t, 9, 4, records...)
	scans(t, "to the end", l, 9, records, 179, 4)
	scans(t, "zeros behind", append(slices.Clone(l), make([]byte, 64), make([]byte, 64)), 9, records, 179, 4)
	scans(t, "one that can't be read behind", append(slices.Clone(l), nil), 9, records, 179, 4)
	for n := range len(records) {
		some := laid(t, 9, 4, records[:n]...)
		cut := l[:len(some)+Parts(len(records[n]))-1] // the next one lacks its last part
		round := uint32(4)
		if len(cut) == 0 {
			round = 0
		}
		scans(t, "cut short", cut, 9, records[:n], len(some), round)
	}
}

// P1002: each record may have a round of its own, in whatever order; the greatest is told.
func TestScanRounds(t *testing.T) {
	var l [][]byte
	records := [][]byte{[]byte("a"), text(60, 1), []byte("c"), {}}
	for i, round := range []uint32{5, math.MaxUint32 - 1, 1, 5} {
		l = append(l, framed(t, 3, round, uint32(i), records[i])...)
	}
	scans(t, "rounds", l, 3, records, 5, math.MaxUint32-1)
	l = append(l, framed(t, 3, math.MaxUint32, 0, nil)...)
	scans(t, "a greater one behind", l, 3, records, 5, math.MaxUint32)
}

// P1002: all parts of one record have one round.
func TestScanMixedRounds(t *testing.T) {
	b := text(100, 1)
	for set := range 8 {
		var l [][]byte
		for i := range 3 {
			l = append(l, framed(t, 3, 1+uint32(set>>i&1), 0, b)[i])
		}
		switch set {
		case 0:
			scans(t, "round 1", l, 3, [][]byte{b}, 3, 1)
		case 7:
			scans(t, "round 2", l, 3, [][]byte{b}, 3, 2)
		default:
			scans(t, "mixed", l, 3, nil, 0, 2)
		}
	}
}

// P1002: seq is 0, 1, ..: what has another one does not stand, nor does what is behind it.
func TestScanSeq(t *testing.T) {
	a, b := []byte("a"), []byte("b")
	for _, seq := range []uint32{0, 2, 3, 256, 1 << 16, 1 << 24, math.MaxUint32} {
		l := append(laid(t, 1, 1, a), framed(t, 1, 1, seq, b)...)
		l = append(l, framed(t, 1, 1, 1, b)...)
		scans(t, "second", l, 1, [][]byte{a}, 1, 1)
	}
	scans(t, "no first", framed(t, 1, 1, 1, a), 1, nil, 0, 1)
}

// P1002: records of another gen do not stand, and their rounds are not told.
func TestScanGen(t *testing.T) {
	a, b := []byte("a"), []byte("b")
	l := append(framed(t, 5, 2, 0, a), framed(t, 6, 9, 1, b)...)
	l = append(l, framed(t, 5, 3, 1, b)...)
	scans(t, "gen 5", l, 5, [][]byte{a}, 1, 3)
	scans(t, "gen 6", l, 6, nil, 0, 9)
	for _, gen := range []uint32{0, 4, 7, 5 << 8, 5 << 24, math.MaxUint32} {
		scans(t, "others", l, gen, nil, 0, 0)
	}
}

// P1002: no record has gen 0, but rounds of sectors that say so are told.
func TestScanGenZero(t *testing.T) {
	scans(t, "gen 0", [][]byte{sectorOf(0, 4, 0, 0, 1, 1, []byte("a"))}, 0, nil, 0, 4)
}

// P1002: no record has round 0.
func TestScanRoundZero(t *testing.T) {
	scans(t, "round 0", [][]byte{sectorOf(1, 0, 0, 0, 1, 1, []byte("a"))}, 1, nil, 0, 0)
}

// P1002: the round of each sector counts that begins with C5 and has that gen, though no record is there; no other one's.
func TestScanRoundOfAll(t *testing.T) {
	a := []byte("a")
	odd := sectorOf(1, 77, 12345, 200, 100, 250, text(48, 1))
	scans(t, "behind a hole", append(laid(t, 1, 2, a), nil, make([]byte, 64), odd), 1, [][]byte{a}, 1, 77)
	scans(t, "first", append([][]byte{odd}, laid(t, 1, 2, a)...), 1, nil, 0, 77)
	for _, first := range []byte{0, 0xC4, 0xC6, 0x5E, 0xFF} {
		other := slices.Clone(odd)
		other[0] = first
		scans(t, "another mark", append(laid(t, 1, 2, a), other), 1, [][]byte{a}, 1, 2)
	}
}

// P1002: what is not a sector's length is none, be it a record's begin, and has no round.
func TestScanLengths(t *testing.T) {
	s := framed(t, 1, 3, 0, []byte("a"))[0]
	for n := range 64 {
		scans(t, "short", [][]byte{s[:n]}, 1, nil, 0, 0)
	}
	scans(t, "long", [][]byte{append(slices.Clone(s), 0)}, 1, nil, 0, 0)
	two := framed(t, 1, 3, 0, text(60, 1))
	for n := range 64 {
		scans(t, "short second", [][]byte{two[0], two[1][:n]}, 1, nil, 0, 3)
	}
}

// P1002: parts must be as Frame cuts them: wrong numbers of parts, of bytes, a last part of none, more than MaxFrame.
func TestScanNoFrame(t *testing.T) {
	full := text(48, 1)
	for what, l := range map[string][][]byte{
		"no part":             {sectorOf(1, 3, 0, 0, 0, 1, full[:1])},
		"more than are there": {sectorOf(1, 3, 0, 0, 2, 48, full)},
		"which part":          {sectorOf(1, 3, 0, 1, 1, 1, full[:1])},
		"turned round":        {sectorOf(1, 3, 0, 1, 2, 48, full), sectorOf(1, 3, 0, 0, 2, 48, full)},
		"twice the first":     {sectorOf(1, 3, 0, 0, 2, 48, full), sectorOf(1, 3, 0, 0, 2, 48, full)},
		"a short first":       {sectorOf(1, 3, 0, 0, 2, 47, full[:47]), sectorOf(1, 3, 0, 1, 2, 1, full[:1])},
		"both would be one":   {sectorOf(1, 3, 0, 0, 2, 20, full[:20]), sectorOf(1, 3, 0, 1, 2, 20, full[:20])},
		"a last part of none": {sectorOf(1, 3, 0, 0, 2, 48, full), sectorOf(1, 3, 0, 1, 2, 0, nil)},
		"of two of none":      {sectorOf(1, 3, 0, 0, 2, 0, nil), sectorOf(1, 3, 0, 1, 2, 0, nil)},
		"other counts":        {sectorOf(1, 3, 0, 0, 2, 48, full), sectorOf(1, 3, 0, 1, 3, 1, full[:1]), sectorOf(1, 3, 0, 2, 3, 1, full[:1])},
		"49 bytes in one":     {sectorOf(1, 3, 0, 0, 1, 49, full)},
		"255 bytes in one":    {sectorOf(1, 3, 0, 0, 1, 255, full)},
		"not 0 behind":        {sectorOf(1, 3, 0, 0, 1, 47, full)},
		"not 0 behind none":   {sectorOf(1, 3, 0, 0, 1, 0, full[:1])},
		"another seq":         {sectorOf(1, 3, 0, 0, 2, 48, full), sectorOf(1, 3, 1, 1, 2, 1, full[:1])},
		"another gen":         {sectorOf(1, 3, 0, 0, 2, 48, full), sectorOf(2, 3, 0, 1, 2, 1, full[:1])},
		"a hole":              {sectorOf(1, 3, 0, 0, 3, 48, full), nil, sectorOf(1, 3, 0, 2, 3, 1, full[:1])},
	} {
		scans(t, what, l, 1, nil, 0, 3)
	}
	for _, parts := range []int{84, 85, 128, 255} {
		var l [][]byte
		for i := range parts {
			l = append(l, sectorOf(1, 3, 0, i, parts, 48, full))
		}
		scans(t, "too large", l, 1, nil, 0, 3)
	}
}

// P1002: the longest record, and one byte more that its last sector would have room for.
func TestScanLongest(t *testing.T) {
	b := text(4001, 1)
	l := laid(t, 1, 3, b[:4000])
	scans(t, "4000 bytes", l, 1, [][]byte{b[:4000]}, 84, 3)
	l[83] = sectorOf(1, 3, 0, 83, 84, 17, b[3984:])
	scans(t, "4001 bytes", l, 1, nil, 0, 3)
}

// stands: whether the first n sectors of l are a record of n parts, asked field by field, and its bytes.
func stands(l [][]byte, n int, gen, seq uint32) ([]byte, bool) {
	var b []byte
	for i, s := range l[:n] {
		if len(s) != 64 || s[0] != 0xC5 || int(s[13]) != i || int(s[14]) != n {
			return nil, false
		}
		round := binary.BigEndian.Uint32(s[5:])
		if gen == 0 || binary.BigEndian.Uint32(s[1:]) != gen || round == 0 || round != binary.BigEndian.Uint32(l[0][5:]) || binary.BigEndian.Uint32(s[9:]) != seq {
			return nil, false
		}
		own := int(s[15])
		if own > 48 || i < n-1 && own != 48 || n > 1 && own == 0 || len(b)+own > 4000 {
			return nil, false
		}
		b = append(b, s[16:16+own]...)
		if !bytes.Equal(s[16+own:], make([]byte, 48-own)) {
			return nil, false
		}
	}
	return b, true
}

// plainScan: P1002, word by word: at each place each number of parts is tried.
func plainScan(l [][]byte, gen uint32) (records [][]byte, tail int, round uint32) {
	for _, s := range l {
		if len(s) == 64 && s[0] == 0xC5 && binary.BigEndian.Uint32(s[1:]) == gen {
			round = max(round, binary.BigEndian.Uint32(s[5:]))
		}
	}
next:
	for {
		for n := 1; n <= len(l)-tail; n++ {
			if b, is := stands(l[tail:], n, gen, uint32(len(records))); is {
				records, tail = append(records, b), tail+n
				continue next
			}
		}
		return records, tail, round
	}
}

// P1002: each byte of a stretch, changed in each of some ways, is told as the plain words tell it.
func TestScanEachByte(t *testing.T) {
	l := laid(t, 1, 2, []byte("a"), text(50, 1), nil, text(96, 2))
	for i := range l {
		for at := range 64 {
			for _, by := range []byte{1, 2, 3, 0x30, 0x80, 0xFF} {
				changed := slices.Clone(l)
				changed[i] = slices.Clone(l[i])
				changed[i][at] ^= by
				records, tail, round := plainScan(changed, 1)
				scans(t, "changed", changed, 1, records, tail, round)
			}
		}
	}
}

// P1002: stretches that are drawn of frames of few gens, rounds and seqs, some of them hurt, are told as the plain words tell it.
func TestScanAgainstPlain(t *testing.T) {
	most := 0
	for seed := range int64(3000) {
		r := rand.New(rand.NewSource(seed))
		var l [][]byte
		for seq := uint32(0); len(l) < 12; seq++ {
			f := framed(t, 1+uint32(r.Intn(12)/11), 1+uint32(r.Intn(3)), seq-uint32(r.Intn(12)/11), text([]int{0, 1, 47, 48, 49, 96, 97, 144}[r.Intn(8)], int(seq)))
			l = append(l, f...)
		}
		for range r.Intn(3) {
			i := r.Intn(len(l))
			switch r.Intn(4) {
			case 0:
				l[i] = nil
			case 1:
				l[i] = slices.Clone(l[i])
				if len(l[i]) > 0 {
					l[i][r.Intn(20)] = byte(r.Intn(4))
				}
			case 2:
				j := r.Intn(len(l))
				l[i], l[j] = l[j], l[i]
			case 3:
				l = slices.Delete(l, i, i+1)
			}
		}
		for gen := range uint32(3) {
			records, tail, round := plainScan(l, gen)
			scans(t, "drawn", l, gen, records, tail, round)
			most = max(most, len(records))
		}
		if t.Failed() {
			t.Fatalf("seed %d", seed)
		}
	}
	if most < 8 {
		t.Errorf("at most %d records stood", most)
	}
}

// P1002: Scan of what Frame made tells it, however many records there are.
func TestScanMany(t *testing.T) {
	var records [][]byte
	for i := range 3000 {
		records = append(records, text(i%5, i))
	}
	scans(t, "many", laid(t, 1, 1, records...), 1, records, 3000, 1)
}

// Rule 4: Frame and Scan do not change what they are given, nor its spare room, and share no memory with it, nor two lists of an answer.
func TestFrameAndScanApart(t *testing.T) {
	b := append(text(100, 1), 0xEE, 0xEE)[:100]
	l := framed(t, 1, 1, 0, b)
	if !bytes.Equal(b[:102], append(text(100, 1), 0xEE, 0xEE)) {
		t.Errorf("the record became % X", b[:102])
	}
	clear(b[:cap(b)])
	if !same(l, framed(t, 1, 1, 0, text(100, 1))) {
		t.Errorf("the sectors became % X", l)
	}
	overwrite(t, l)

	stretch := laid(t, 1, 1, text(100, 1), text(10, 2), nil)
	records, _, _ := Scan(stretch, 1)
	if !same(stretch, laid(t, 1, 1, text(100, 1), text(10, 2), nil)) {
		t.Errorf("the stretch became % X", stretch)
	}
	for _, s := range stretch {
		clear(s[:cap(s)])
	}
	if !same(records, [][]byte{text(100, 1), text(10, 2), nil}) {
		t.Errorf("the records became % X", records)
	}
	overwrite(t, records)
}

// overwrite: writing into one of l, its spare room too, changes no other one.
func overwrite(t *testing.T, l [][]byte) {
	t.Helper()
	for i, s := range l {
		var others [][]byte
		for _, o := range l {
			others = append(others, slices.Clone(o))
		}
		s = s[:cap(s)]
		for at := range s {
			s[at] ^= 0x55
		}
		if !same(slices.Delete(slices.Clone(l), i, i+1), slices.Delete(others, i, i+1)) {
			t.Errorf("writing into the %dth changed another one", i)
		}
	}
}
