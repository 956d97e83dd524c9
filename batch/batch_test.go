package batch

import (
	"math"
	"slices"
	"strings"
	"testing"
	"unsafe"

	"assart/api"
	"assart/ikey"
)

var (
	longKey = strings.Repeat("k", api.MaxKey)
	longVal = strings.Repeat("v", api.MaxVal)
)

func put(key, val string) api.Op { return api.Op{Kind: api.Put, Key: key, Val: val} }

func del(key string) api.Op { return api.Op{Kind: api.Del, Key: key} }

// batches answers lists of changes that may be made together.
func batches() [][]api.Op {
	full := make([]api.Op, api.MaxOps)
	for i := range full {
		full[i] = []api.Op{put(longKey, longVal), del(longKey), put(longKey[i%64:], longVal[i:])}[i%3]
	}
	return [][]api.Op{
		{put("a", "xy")}, {put("a", "")}, {del("a")}, {put("\x00", "\x00")}, {del("\xff")}, {put(longKey, longVal)}, {del(longKey)},
		{put("a", ""), del("a")}, {del("a"), put("a", "x"), del("a"), put("a", "y")}, {put("b", "1"), put("a", "2"), del("b")},
		{put("a", longVal[:127]), put("ab", longVal[:128])}, {del("a\x00"), del("a"), del("\x00a"), del("b"), del("a\xff")},
		full[:199], full,
	}
}

// seqs answers numbers that so many changes may have.
func seqs(count int) []int {
	return []int{1, 2, 5, 255, 256, 1<<32 + 7, 0x0123456789ABCD, api.MaxSeq - count, api.MaxSeq - count + 1}
}

// refused holds what all calls answer to a batch that is none.
func refused(t *testing.T, seq int, ops []api.Op, want api.Errno) {
	t.Helper()
	e := Check(seq, ops)
	b, f := Encode(seq, ops)
	cells, g := Cells(seq, ops)
	if e != want || f != want || g != want || len(b) != 0 || len(cells) != 0 {
		t.Errorf("%d, %.80v: %d; %d bytes, %d; %d cells, %d; not %d", seq, ops, e, len(b), f, len(cells), g, want)
	}
}

func TestCheck(t *testing.T) {
	for _, ops := range batches() {
		for _, seq := range seqs(len(ops)) {
			if e := Check(seq, ops); e != api.OK {
				t.Error(seq, len(ops), e)
			}
		}
	}
}

// Each list of changes has one flaw, or some that are told together.

func bigOnes() [][]api.Op {
	return [][]api.Op{
		make([]api.Op, 201), slices.Repeat([]api.Op{put("a", "")}, 201), slices.Repeat([]api.Op{del("a")}, 300),
		{put(longKey+"k", "")}, {del(longKey + "k")}, {put("a", longVal+"v")}, {put("a", strings.Repeat(longVal, 9))}, {put(strings.Repeat(longKey, 9), longVal)},
		{{Kind: api.Del, Key: "a", Val: longVal + "v"}}, {put("", longVal+"v")}, {{Kind: 7, Key: longKey + "k"}}, {{Kind: -1, Val: longVal + "v"}},
	}
}

func formless() [][]api.Op {
	return [][]api.Op{
		nil, {}, {put("", "x")}, {put("", "")}, {del("")}, {{Kind: api.Del, Key: "a", Val: "x"}}, {{Kind: api.Del, Key: longKey, Val: longVal}}, {{Kind: 2, Key: "a"}}, {{Kind: -1, Key: "a"}},
		{{Kind: 256, Key: "a"}}, {{Kind: 257, Key: "a", Val: "x"}}, {{Kind: math.MinInt, Key: "a"}}, {{Kind: math.MaxInt, Key: longKey, Val: longVal}}, {{Kind: 1 << 32, Key: "a"}},
		make([]api.Op, 200),
	}
}

func noSeqs(count int) []int {
	return []int{0, -1, math.MinInt, math.MinInt + 1, api.MaxSeq - count + 2, api.MaxSeq + 1, 1 << 62, math.MaxInt}
}

func TestRefused(t *testing.T) {
	right := []api.Op{put("a", "x"), del("b")}
	for _, ops := range bigOnes() {
		for _, seq := range append(noSeqs(len(ops)), 1) {
			refused(t, seq, ops, api.ErrBig)
			refused(t, seq, slices.Concat(right, ops), api.ErrBig)
			for _, others := range formless() {
				refused(t, seq, slices.Concat(others, ops), api.ErrBig)
				refused(t, seq, slices.Concat(ops, others), api.ErrBig)
			}
		}
	}
	for _, ops := range formless() {
		for _, seq := range append(noSeqs(len(ops)), 1) {
			refused(t, seq, ops, api.ErrForm)
			if len(ops) == 1 {
				refused(t, seq, slices.Concat(right, ops), api.ErrForm)
				refused(t, seq, slices.Concat(ops, right), api.ErrForm)
			}
		}
	}
	for _, ops := range batches() {
		for _, seq := range noSeqs(len(ops)) {
			refused(t, seq, ops, api.ErrArg)
		}
	}
}

func TestEncode(t *testing.T) {
	const one = "\x01\x00\x00\x00\x00\x00\x00\x00\x01\x00\x00\x00"
	for _, x := range []struct {
		seq  int
		ops  []api.Op
		want string
	}{
		{1, []api.Op{put("a", "xy")}, one + "\x01\x01a\x02xy"},
		{1, []api.Op{put("a", "")}, one + "\x01\x01a\x00"},
		{1, []api.Op{del("ab")}, one + "\x00\x02ab"},
		{1, []api.Op{put("a", longVal)}, one + "\x01\x01a\xe8\x07" + longVal},
		{0x01020304050607, []api.Op{del(longKey), put("b", "x")}, "\x07\x06\x05\x04\x03\x02\x01\x00\x02\x00\x00\x00" + "\x00\x40" + longKey + "\x01\x01b\x01x"},
		{api.MaxSeq, []api.Op{del("a")}, "\xff\xff\xff\xff\xff\xff\xff\x00\x01\x00\x00\x00\x00\x01a"},
	} {
		if b, e := Encode(x.seq, x.ops); string(b) != x.want || e != api.OK {
			t.Errorf("%d, %.80v: %x %d", x.seq, x.ops, b, e)
		}
	}
}

// TestBatchesComeBack: those that Encode makes, which are the model's; and no piece of one is one, nor one with more behind.
func TestBatchesComeBack(t *testing.T) {
	for _, ops := range batches() {
		for _, seq := range seqs(len(ops)) {
			b, e := Encode(seq, ops)
			if string(b) != modelEncode(uint64(seq), uint32(len(ops)), ops) || e != api.OK {
				t.Errorf("%d, %.80v: %x %d", seq, ops, b, e)
			}
			n, back, e := Decode(b)
			if n != seq || !slices.Equal(back, ops) || e != api.OK {
				t.Errorf("%d, %.80v: %d, %.80v, %d", seq, ops, n, back, e)
			}
		}
		b, _ := Encode(9, ops)
		for cut := range len(b) {
			if len(b) > 3000 && cut%97 > 0 {
				continue
			}
			noBatch(t, string(b[:cut]))
		}
		for _, behind := range []string{"\x00", "\x01", "\x00\x01a", "\x01\x01a\x00", string(b)} {
			noBatch(t, string(b)+behind)
		}
	}
}

// noBatch holds that bytes are refused.
func noBatch(t *testing.T, b string) {
	t.Helper()
	if n, ops, e := Decode([]byte(b)); n != 0 || len(ops) != 0 || e != api.ErrForm {
		t.Errorf("%.80x: %d, %.80v, %d", b, n, ops, e)
	}
}

func TestDecodeRefuses(t *testing.T) {
	one := []api.Op{put("a", "x")}
	for _, seq := range []uint64{0, api.MaxSeq + 1, 1 << 63, 1<<63 + 1, math.MaxUint64, 1 << 57, 1<<56 + 1} {
		noBatch(t, modelEncode(seq, 1, one))
	}
	two := []api.Op{del("a"), put("b", "x")}
	noBatch(t, modelEncode(api.MaxSeq, 2, two))
	for _, count := range []uint32{0, 1, 3, 200, 201, 258, 1 << 16, 1<<24 + 2, 1 << 31, math.MaxUint32} {
		noBatch(t, modelEncode(1, count, two))
	}
	noBatch(t, modelEncode(1, 0, nil))
	noBatch(t, modelEncode(1, 201, slices.Repeat(two, 101)[:201]))
	for _, ops := range slices.Concat(bigOnes(), formless()) {
		// A kind that isn't one byte can't be laid.
		if !slices.ContainsFunc(ops, func(o api.Op) bool { return o.Kind < 0 || o.Kind > 255 }) {
			noBatch(t, modelEncode(1, uint32(len(ops)), ops))
		}
	}
	head := modelEncode(1, 1, nil)
	for _, b := range []string{
		"", "\x01", "\x01\x81", "\x01\x81\x00a\x00", "\x01\x01a\x80\x00", "\x01\x01a\x81\x00x", "\x00\x81\x00a", "\x00\x01a\x00", "\x00\x01a\x01x", "\x00\x00", "\x01\x00\x00",
		"\x01\x01a", "\x01\x01a\x02x", "\x02\x01a", "\x02\x01a\x00", "\x02\x01a\x01x", "\x80\x01a", "\xff\x01a\x00", "\x81\x01a\x01x", "\x00\x02a", "\x01\x41" + longKey + "k\x00", "\x00\x41" + longKey + "k",
		"\x01\x01a\xe9\x07" + longVal + "v", "\x00\xff\xff\xff\xff\xff\xff\xff\xff\xff\x01a", "\x00\xff\xff\xff\xff\xff\xff\xff\xff\xff\x02a", "\x00\x80\x80\x80\x80\x80\x80\x80\x80\x80\x80\x01a",
	} {
		noBatch(t, head+b)
	}
	noBatch(t, strings.Repeat("\xff", 1000))
	noBatch(t, strings.Repeat("\x00", 1000))
	if n, ops, e := Decode(nil); n != 0 || len(ops) != 0 || e != api.ErrForm {
		t.Error(n, ops, e)
	}
}

// asTheModel holds Decode against the model, and Encode against what was decoded.
func asTheModel(t *testing.T, b string) bool {
	t.Helper()
	seq, ops, e := Decode([]byte(b))
	wantSeq, want, ok := modelDecode(b)
	if seq != wantSeq || !slices.Equal(ops, want) || ok != (e == api.OK) || !ok && e != api.ErrForm {
		t.Fatalf("%x: %d, %v, %d, not %d, %v", b, seq, ops, e, wantSeq, want)
	}
	if again, _ := Encode(seq, ops); ok && string(again) != b {
		t.Fatalf("%x: %x", b, again)
	}
	return ok
}

// TestOtherBytes: each byte of some batches is any other one, goes, or comes twice.
func TestOtherBytes(t *testing.T) {
	for _, ops := range [][]api.Op{{put("a", "xy")}, {del("ab"), put("c", ""), del("\x01")}, {put("\x01\x01", "\x00\x01"), del("\x00")}, {put("a", longVal[:130])}} {
		for _, seq := range []int{1, api.MaxSeq - len(ops) + 1} {
			file, _ := Encode(seq, ops)
			for at := range file {
				for c := range 256 {
					b := slices.Clone(file)
					b[at] = byte(c)
					asTheModel(t, string(b))
				}
				asTheModel(t, string(slices.Delete(slices.Clone(file), at, at+1)))
				asTheModel(t, string(slices.Insert(slices.Clone(file), at, file[at])))
			}
		}
	}
}

// TestAllBytes: drawn ones, nearly all of them small, behind a head that may be right.
func TestAllBytes(t *testing.T) {
	var d drawn
	taken := 0
	for range 200000 {
		b := []byte(modelEncode(uint64(d.below(5)), uint32(d.below(3)), nil))
		for range d.below(12) {
			b = append(b, []byte{0, 0, 1, 1, 1, 2, 3, 128, byte(d.below(256))}[d.below(9)])
		}
		if asTheModel(t, string(b[d.below(9)/8:])) {
			taken++
		}
	}
	if taken < 1000 {
		t.Error("too few batches to tell anything:", taken)
	}
}

func TestCells(t *testing.T) {
	cells, e := Cells(5, []api.Op{put("a", ""), del("a")})
	if want := []api.Cell{{Ver: api.Ver{Key: "a", Seq: 6, Kind: api.Del}}, {Ver: api.Ver{Key: "a", Seq: 5, Kind: api.Put}}}; !slices.Equal(cells, want) || e != api.OK {
		t.Error(cells, e)
	}
	cells, e = Cells(1, []api.Op{put("b", "1"), del("a\x00"), put("a", "3"), del("b"), put("a", "5"), put("\xff", "6")})
	want := []api.Cell{
		{Ver: api.Ver{Key: "a", Seq: 5, Kind: 1}, Val: "5"}, {Ver: api.Ver{Key: "a", Seq: 3, Kind: 1}, Val: "3"}, {Ver: api.Ver{Key: "a\x00", Seq: 2}},
		{Ver: api.Ver{Key: "b", Seq: 4}}, {Ver: api.Ver{Key: "b", Seq: 1, Kind: 1}, Val: "1"}, {Ver: api.Ver{Key: "\xff", Seq: 6, Kind: 1}, Val: "6"},
	}
	if !slices.Equal(cells, want) || e != api.OK {
		t.Error(cells, e)
	}
}

// TestCellsAreAllInOrder: each change's cell is there once, and of two the first comes ahead.
func TestCellsAreAllInOrder(t *testing.T) {
	var d drawn
	lists := batches()
	for range 2000 {
		lists = append(lists, d.ops(1+d.below(30)))
	}
	lists = append(lists, d.ops(api.MaxOps))
	for _, ops := range lists {
		for _, seq := range seqs(len(ops)) {
			cells, e := Cells(seq, ops)
			if len(cells) != len(ops) || e != api.OK {
				t.Fatal(seq, ops, cells, e)
			}
			for i, c := range cells {
				if c.Seq < seq || c.Seq-seq >= len(ops) || ops[c.Seq-seq] != (api.Op{Kind: c.Kind, Key: c.Key, Val: c.Val}) {
					t.Fatal(seq, ops, c)
				}
				if i > 0 && !ikey.Less(cells[i-1].Ver, c.Ver) {
					t.Fatal(seq, ops, cells[i-1], c)
				}
			}
		}
	}
}

func TestLast(t *testing.T) {
	odd := api.Op{Kind: -9, Key: "", Val: longVal + "v"}
	for _, x := range []struct{ ops, want []api.Op }{
		{nil, nil}, {[]api.Op{}, nil},
		{[]api.Op{put("b", ""), put("a", ""), del("b")}, []api.Op{put("a", ""), del("b")}},
		{[]api.Op{put("a", "1"), put("a", "2"), put("a", "3")}, []api.Op{put("a", "3")}},
		{[]api.Op{del("a"), put("a", "1")}, []api.Op{put("a", "1")}},
		{[]api.Op{put("b", "1"), put("a", "2"), put("b", "3"), put("a", "4"), put("b", "0")}, []api.Op{put("a", "4"), put("b", "0")}},
		{[]api.Op{put("a\x00", "1"), put("\xff", "2"), put("a", "3"), put("", "4"), odd}, []api.Op{odd, put("a", "3"), put("a\x00", "1"), put("\xff", "2")}},
		{[]api.Op{{Kind: 7, Key: "a", Val: "x"}, put(longKey+"k", longVal+"v"), {Kind: api.Del, Key: "b", Val: "y"}, {Kind: math.MinInt, Key: longKey + "k"}},
			[]api.Op{{Kind: 7, Key: "a", Val: "x"}, {Kind: api.Del, Key: "b", Val: "y"}, {Kind: math.MinInt, Key: longKey + "k"}}},
		{make([]api.Op, 500), []api.Op{{}}},
	} {
		if got := Last(x.ops); !slices.Equal(got, x.want) {
			t.Errorf("%.80v: %.80v, not %.80v", x.ops, got, x.want)
		}
	}
}

func TestLastAsTheModel(t *testing.T) {
	var d drawn
	for round := range 5000 {
		ops := d.ops(d.below(60))
		if round%1000 == 999 {
			ops = d.ops(5000)
		}
		for i := range ops {
			ops[i].Kind += d.below(9) / 8 * 5
		}
		if got, want := Last(ops), modelLast(ops); !slices.Equal(got, want) {
			t.Fatal(ops, got, want)
		}
	}
}

// TestArgumentsStay: what is handed in is as it was, its spare room too.
func TestArgumentsStay(t *testing.T) {
	var d drawn
	for _, count := range []int{0, 1, 2, 50} {
		room := d.ops(count + 20)
		if count > 1 {
			room[0], room[1] = put("z", "1"), put("a", "2")
		}
		kept := slices.Clone(room)
		for _, seq := range []int{0, 1, api.MaxSeq} {
			Check(seq, room[:count])
			Encode(seq, room[:count])
			Cells(seq, room[:count])
			Last(room[:count])
		}
		if !slices.Equal(room, kept) {
			t.Error(count, "changes are others")
		}
		b, _ := Encode(1, room[:max(count, 1)])
		spare := append(b, "behind it"...)
		Decode(spare[:len(b)])
		Decode(spare[:len(b)-1])
		if string(spare) != string(b)+"behind it" {
			t.Errorf("%x", spare)
		}
	}
}

func TestNewMemory(t *testing.T) {
	ops := []api.Op{put("b", "xyz"), put("a", "12"), del("b")}
	one, _ := Encode(1, ops)
	two, _ := Encode(1, ops)
	want := string(two)
	// To the end of its room.
	one = one[:cap(one)]
	for i := range one {
		one[i] ^= 0xA5
	}
	if string(two) != want {
		t.Errorf("%x", two)
	}
	_, back, _ := Decode(two)
	_, again, _ := Decode(two)
	clear(two)
	back[0] = api.Op{}
	if !slices.Equal(again, ops) {
		t.Error(again)
	}
	cells, _ := Cells(1, ops)
	wanted := slices.Clone(cells)
	lasts := Last(ops)
	single := Last(ops[:1])
	clear(single[:cap(single)])
	clear(lasts[:cap(lasts)])
	if !slices.Equal(again, ops) || ops[0] != put("b", "xyz") {
		t.Error(ops)
	}
	clear(ops)
	if !slices.Equal(cells, wanted) {
		t.Error(cells)
	}
}

// TestTextsAreNew: no text of an answer stands where one of an argument stands.
func TestTextsAreNew(t *testing.T) {
	ops := []api.Op{put("b", "xyz"), put("a", "12"), del("c")}
	taken := map[*byte]string{}
	for _, o := range ops {
		taken[unsafe.StringData(o.Key)] = o.Key
		if o.Val != "" {
			taken[unsafe.StringData(o.Val)] = o.Val
		}
	}
	var texts []string
	cells, _ := Cells(1, ops)
	for _, c := range cells {
		texts = append(texts, c.Key, c.Val)
	}
	for _, o := range Last(ops) {
		texts = append(texts, o.Key, o.Val)
	}
	for _, s := range texts {
		if at := unsafe.StringData(s); s != "" && taken[at] != "" {
			t.Errorf("%q", s)
		}
	}
	b, _ := Encode(1, ops)
	_, back, _ := Decode(b)
	clear(b)
	if !slices.Equal(back, ops) {
		t.Error(back)
	}
}
