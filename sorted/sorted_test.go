package sorted_test

import (
	"bytes"
	"crypto/sha256"
	"encoding/hex"
	"fmt"
	"math"
	"slices"
	"strconv"
	"strings"
	"testing"

	"bucketline/api"
	"bucketline/blooms"
	"bucketline/sorted"
)

func there(key string, seq uint64, value string) api.Entry {
	return api.Entry{Mark: api.Mark{Key: key, Seq: seq}, Value: value}
}

func gone(key string, seq uint64) api.Entry {
	return api.Entry{Mark: api.Mark{Key: key, Seq: seq, Gone: true}}
}

func of(many int, c byte) string {
	return strings.Repeat(string([]byte{c}), many)
}

func join(parts ...[]byte) []byte {
	return bytes.Join(parts, nil)
}

// told are entries in a few words.
func told(l []api.Entry) string {
	return fmt.Sprintf("%d: %.300q", len(l), fmt.Sprint(l))
}

func wantPut(t *testing.T, l []api.Entry, want []byte) {
	t.Helper()
	if b, e := sorted.Put(l); !bytes.Equal(b, want) || e != api.OK {
		t.Errorf("Put(%s) = %.200x, %d; want %.200x", told(l), b, e, want)
	}
}

func wantNoPut(t *testing.T, what string, l []api.Entry, want api.Errno) {
	t.Helper()
	if b, e := sorted.Put(l); len(b) != 0 || e != want {
		t.Errorf("%s: Put(%s) = %.200x, %d; want none, %d", what, told(l), b, e, want)
	}
}

func wantAll(t *testing.T, b []byte, want []api.Entry) {
	t.Helper()
	if l, e := sorted.All(b); !slices.Equal(l, want) || e != api.OK {
		t.Errorf("All(%.200x) = %s, %d; want %s", b, told(l), e, told(want))
	}
}

// wantBoth are entries and the bytes of their file.
func wantBoth(t *testing.T, l []api.Entry, b []byte) {
	t.Helper()
	wantPut(t, l, b)
	wantAll(t, b, l)
}

// wantGet compares with what is found in the list itself.
func wantGet(t *testing.T, b []byte, l []api.Entry, key string, seq uint64) {
	t.Helper()
	want, there := plainGet(l, key, seq)
	if x, ok, e := sorted.Get(b, key, seq); x != want || ok != there || e != api.OK {
		t.Errorf("Get(%s, %.60q, %d) = %.200v, %t, %d; want %.200v, %t", told(l), key, seq, x, ok, e, want, there)
	}
}

// wantFrom compares with what is found in the list itself.
func wantFrom(t *testing.T, b []byte, l []api.Entry, m api.Mark, most int) {
	t.Helper()
	want := plainFrom(l, m, most)
	if got, e := sorted.From(b, m, most); !slices.Equal(got, want) || e != api.OK {
		t.Errorf("From(%s, %.60q %d gone %t, %d) = %s, %d; want %s", told(l), m.Key, m.Seq, m.Gone, most, told(got), e, told(want))
	}
}

// wantNoFile asks All, Get and From.
func wantNoFile(t *testing.T, what string, b []byte) {
	t.Helper()
	if l, e := sorted.All(b); len(l) != 0 || e != api.ErrForm {
		t.Errorf("%s: All(%.200x) = %s, %d; want none, ErrForm", what, b, told(l), e)
	}
	for _, key := range []string{"b", "", of(33, 'k')} {
		if x, ok, e := sorted.Get(b, key, math.MaxUint64); x != (api.Entry{}) || ok || e != api.ErrForm {
			t.Errorf("%s: Get(%.200x, %q) = %v, %t, %d; want none, false, ErrForm", what, b, key, x, ok, e)
		}
	}
	for _, most := range []int{math.MaxInt, 0, -1} {
		if l, e := sorted.From(b, api.Mark{}, most); len(l) != 0 || e != api.ErrForm {
			t.Errorf("%s: From(%.200x, %d) = %s, %d; want none, ErrForm", what, b, most, told(l), e)
		}
	}
}

// numbered are so many entries: three of each key, some of them gone; keys stand in two blocks here and there.
func numbered(many int) []api.Entry {
	var l []api.Entry
	for i := range many {
		x := there("k"+strconv.Itoa(1000+i/3), uint64(5000-i), of(i%7, 'v'))
		if i%5 == 3 {
			x = gone(x.Key, x.Seq)
		}
		l = append(l, x)
	}
	return l
}

// ofOneKey are so many entries, of which only the numbers differ.
func ofOneKey(many int) []api.Entry {
	var l []api.Entry
	for i := range many {
		l = append(l, there("w", math.MaxUint64-uint64(i), ""))
	}
	return l
}

// greatest has the longest entries that there are.
func greatest(many int) []api.Entry {
	var l []api.Entry
	for i := range many {
		l = append(l, there(string([]byte{byte(i >> 8), byte(i)})+of(30, 'k'), math.MaxUint64, of(256, 'v')))
	}
	return l
}

// inOrder are entries of which each neighbour differs in another way.
func inOrder() []api.Entry {
	return []api.Entry{there("\x00", 1, "v"), there("A", 1, ""), gone("a", math.MaxUint64), there("a", math.MaxUint64, "v"), there("a", 5, "wx"), gone("a", 4), there("a", 4, "v"), there("a", 0, "v"), gone("a\x00", 9), there("aa", 9, "v"), there("b", 0, ""), there("\x7f", 3, "v"), there("\x80", 3, "v"), there(of(31, '\xff'), 3, "v"), there(of(32, '\xff'), 3, of(256, 'v'))}
}

// goodEntries are at the edges of what is valid.
func goodEntries() []api.Entry {
	var l []api.Entry
	for _, key := range []string{"a", "\x00", "\xff", "é", of(31, 'k'), of(32, 'k'), of(32, '\xff')} {
		for _, seq := range []uint64{0, 1, 127, 128, 300, math.MaxInt64, math.MaxInt64 + 1, math.MaxUint64} {
			l = append(l, gone(key, seq))
			for _, value := range []string{"", "v", "\x00", of(127, 'v'), of(128, 'v'), of(255, 'v'), of(256, 'v')} {
				l = append(l, there(key, seq, value))
			}
		}
	}
	return l
}

// badEntries are not valid, at the edges and far from them.
func badEntries() []api.Entry {
	valued := gone("b", 1)
	valued.Value = "v"
	return []api.Entry{{}, there("", 1, "v"), gone("", 1), there(of(33, 'b'), 1, "v"), gone(of(33, 'b'), 1), there(of(1<<16, 'b'), 1, "v"), there("b", 1, of(257, 'v')), there("b", 1, of(1<<17, 'v')), there("b", 1, strings.Repeat("é", 129)), valued}
}

func goodLists() [][]api.Entry {
	l := [][]api.Entry{inOrder(), greatest(17), ofOneKey(40)}
	for _, many := range []int{1, 2, 3, 15, 16, 17, 18, 31, 32, 33, 48, 49, 100} {
		l = append(l, numbered(many))
	}
	return l
}

func few() []api.Entry {
	return []api.Entry{there("a", 1, "x"), gone("b", 5), there("b", 2, "y")}
}

func TestExamples(t *testing.T) {
	l := few()
	f, _ := sorted.Put(l)
	for seq, want := range map[uint64]api.Entry{9: l[1], 4: l[2]} {
		if x, ok, e := sorted.Get(f, "b", seq); x != want || !ok || e != api.OK {
			t.Errorf("Get(F, b, %d) = %v, %t, %d", seq, x, ok, e)
		}
	}
	for key, seq := range map[string]uint64{"b": 1, "c": 9} {
		if x, ok, e := sorted.Get(f, key, seq); x != (api.Entry{}) || ok || e != api.OK {
			t.Errorf("Get(F, %s, %d) = %v, %t, %d", key, seq, x, ok, e)
		}
	}
	if l, e := sorted.From(f, api.Mark{Key: "b", Seq: 4}, 9); len(l) != 1 || e != api.OK {
		t.Errorf("From(F, b 4, 9) = %v, %d", l, e)
	}
	if l, e := sorted.From(f, api.Mark{Key: "a", Seq: 9}, 2); len(l) != 2 || e != api.OK {
		t.Errorf("From(F, a 9, 2) = %v, %d", l, e)
	}
	wantAll(t, f, l)
	wantNoPut(t, "none", nil, api.ErrArg)
	wantNoPut(t, "b ahead of a", []api.Entry{there("b", 1, "x"), there("a", 1, "x")}, api.ErrArg)
	wantNoFile(t, "F without its last byte", f[:len(f)-1])
}

// P10.1

// The bytes and sums of this test and of the next one come from a program in another language.
func TestBytesOfFewEntries(t *testing.T) {
	block := "\x00\x00\x00\x16\xc5\xb3\xbc\xf8" + "\x00\x01a\x01\x00\x01x" + "\x00\x01b\x05\x01" + "\x01\x00\x02\x00\x01y" + "\x00\x00\x00\x01"
	index := "\x00\x00\x00\x06\xea\x45\xb4\xa5" + "\x01" + "\x00\x01b\x02\x00"
	filter := "\x00\x00\x00\x09\xe8\x16\x20\xca" + "\x10\x00\x01\x00\x02\x81\x41\x20" + "\x06"
	wantBoth(t, few(), []byte(block+index+filter+"\x00\x00\x00\x1e"+"\x00\x00\x00\x2c"+"\x00\x00\x00\x03"))
}

func TestSumsOfManyEntries(t *testing.T) {
	for many, want := range map[int]struct {
		length int
		sum    string
	}{
		1:    {71, "e0694bbdf8c90205c0a0f997a1debf361df067150833e9624a13caf29c47bd9b"},
		15:   {208, "c88189e57617093c19b73b2025698a7aef0c666e2b5727e78b09211bf67fa3c9"},
		16:   {216, "4b97ff15df162a298ab484fe768e9f8f498cd364a901e9189cd88f928b801f41"},
		17:   {252, "47a796c14cfe7de9bfee82cb7ef92b0834b4116888095311931564a95142b9ce"},
		32:   {410, "8be0f46e6fe1c6ae5b82838e97ad19c0af3af224cf3a9087050404865aa510e7"},
		33:   {448, "d551c167862c4e45c49c9323281a980ab401f9f443502507117e99574f95bcd5"},
		300:  {3613, "0893008cb16c94f02bc6f2ea602c1ae8bb4846e1f8c3f8a550638d87f0602c4f"},
		4096: {49120, "828972b3662d5f5f55e7c883a60522d67d0b8ca025e8299be25a11f26057d347"},
	} {
		b, e := sorted.Put(numbered(many))
		sum := sha256.Sum256(b)
		if e != api.OK || len(b) != want.length || hex.EncodeToString(sum[:]) != want.sum {
			t.Errorf("Put of %d entries = %d bytes, %d, with the sum %x; want %d, %s", many, len(b), e, sum, want.length, want.sum)
		}
	}
}

func TestGoodLists(t *testing.T) {
	for _, l := range goodLists() {
		wantBoth(t, l, plainFile(l))
	}
	for _, x := range goodEntries() {
		wantBoth(t, []api.Entry{x}, plainFile([]api.Entry{x}))
	}
}

// Blocks have 16 entries, but for the last one; the index has the mark of the last entry of each.
func TestBlocksAndIndex(t *testing.T) {
	for many := 1; many <= 70; many++ {
		l := numbered(many)
		var frames, rows []byte
		blocks := 0
		for start := 0; start < many; start += 16 {
			end := min(start+16, many)
			rows = append(rows, plainRow(uint64(len(frames)), l[end-1].Mark)...)
			frames = append(frames, plainFrame(plainBlock(l[start:end]))...)
			blocks++
		}
		wantPrefix := join(frames, plainFrame(append([]byte{byte(blocks)}, rows...)))
		if b, e := sorted.Put(l); !bytes.HasPrefix(b, wantPrefix) || e != api.OK {
			t.Errorf("Put of %d entries = %x, %d; want %x ahead", many, b, e, wantPrefix)
		}
	}
}

// Seven keys need more bits than six: each of them counts once.
func TestKeysCountOnce(t *testing.T) {
	var l []api.Entry
	for _, key := range strings.Split("abcdefg", "") {
		l = append(l, gone(key, 9), there(key, 9, "v"), there(key, 8, "v"))
	}
	for keys := 1; keys <= 7; keys++ {
		p := piecesOf(l[:3*keys], 16)
		if want := []int{9, 9, 9, 9, 9, 9, 10}[keys-1]; len(p.filter) != want {
			t.Errorf("the filter of %d keys has %d bytes; want %d", keys, len(p.filter), want)
		}
		wantBoth(t, l[:3*keys], p.file())
		// Once for each block is not once for all.
		p.filter = blooms.Put(slices.Concat(plainKeys(l[:3*keys]), []string{"a", "b", "c", "d", "e", "f", "g"}))
		wantNoFile(t, "keys twice in the filter", p.file())
	}
	// One key in several blocks.
	wantBoth(t, ofOneKey(200), plainFile(ofOneKey(200)))
	if n := len(piecesOf(ofOneKey(200), 16).filter); n != 9 {
		t.Errorf("the filter of one key has %d bytes; want 9", n)
	}
}

func TestMostEntries(t *testing.T) {
	for _, l := range [][]api.Entry{numbered(4096), greatest(4096), ofOneKey(4096)} {
		b := plainFile(l)
		wantBoth(t, l, b)
		wantGet(t, b, l, l[4095].Key, l[4095].Seq)
		wantFrom(t, b, l, l[2000].Mark, 4000)
		wantFrom(t, b, l, l[4095].Mark, 2)
	}
	for _, many := range []int{4097, 4098, 4112, 4113, 5000, 8192} {
		for _, l := range [][]api.Entry{numbered(many), greatest(many), ofOneKey(many)} {
			wantNoPut(t, "too many", l, api.ErrLimit)
			wantNoFile(t, "too many", plainFile(l))
		}
	}
}

// That entries are wrong is told ahead of their number.
func TestTooManyThatAreWrong(t *testing.T) {
	for _, at := range []int{0, 1, 15, 16, 17, 4095, 4096, 4097, 4999} {
		l := numbered(5000)
		l[at].Key = ""
		wantNoPut(t, "a key that is not valid", l, api.ErrArg)
		l = numbered(5000)
		l[max(at, 1)] = l[max(at, 1)-1]
		wantNoPut(t, "one mark twice", l, api.ErrArg)
	}
	wantNoPut(t, "none is valid", make([]api.Entry, 4097), api.ErrArg)
}

func TestNoEntries(t *testing.T) {
	wantNoPut(t, "nil", nil, api.ErrArg)
	wantNoPut(t, "empty", []api.Entry{}, api.ErrArg)
	wantNoFile(t, "the form of none", plainFile(nil))
	b := piecesOf(nil, 16)
	b.blocks = [][]byte{{}}
	wantNoFile(t, "an empty block", b.file())
	b.blocks = [][]byte{plainBlock(nil)}
	wantNoFile(t, "a block of none", b.file())
}

func TestEntriesThatAreNotValid(t *testing.T) {
	for _, bad := range badEntries() {
		wantNoPut(t, "alone", []api.Entry{bad}, api.ErrArg)
		for at := range 34 {
			l := numbered(33)
			for i := range l[:at] {
				l[i].Key = "a"
			}
			l = slices.Insert(l, at, bad)
			wantNoPut(t, "among others", l, api.ErrArg)
			// Of an entry that is gone the bytes don't tell a value.
			if !bad.Gone || len(bad.Key) != 1 {
				wantNoFile(t, "among others", plainFile(l))
			}
		}
	}
}

// Each pair of neighbours counts, also of two blocks.
func TestEntriesThatAreNotAscending(t *testing.T) {
	for i := range 49 {
		l := numbered(50)
		l[i], l[i+1] = l[i+1], l[i]
		wantNoPut(t, "a pair in the wrong order", l, api.ErrArg)
		wantNoFile(t, "a pair in the wrong order", plainFile(l))
		l[i] = l[i+1]
		wantNoPut(t, "a pair of the same", l, api.ErrArg)
		wantNoFile(t, "a pair of the same", plainFile(l))
		l = ofOneKey(50)
		l[i].Seq, l[i+1].Seq = l[i+1].Seq, l[i].Seq
		wantNoPut(t, "rising numbers", l, api.ErrArg)
		wantNoFile(t, "rising numbers", plainFile(l))
	}
	good := inOrder()
	for i := range good {
		for k := range i {
			l := []api.Entry{good[i], good[k]}
			wantNoPut(t, "not ascending", l, api.ErrArg)
			wantNoFile(t, "not ascending", plainFile(l))
		}
	}
}

// A mark stands once, whatever the values are.
func TestEqualMarks(t *testing.T) {
	for _, pair := range [][]api.Entry{{there("z", 1, "v"), there("z", 1, "v")}, {there("z", 1, "v"), there("z", 1, "w")}, {there("z", 1, ""), there("z", 1, "v")}, {gone("z", 1), gone("z", 1)}, {there("z", 1, "v"), gone("z", 1)}} {
		for _, many := range []int{0, 1, 14, 15, 16} {
			l := append(numbered(many), pair...)
			wantNoPut(t, "equal marks", l, api.ErrArg)
			wantNoFile(t, "equal marks", plainFile(l))
		}
	}
	both := append(numbered(15), gone("z", 1), there("z", 1, "v"))
	wantBoth(t, both, plainFile(both))
}

func TestOtherBlocks(t *testing.T) {
	for _, many := range []int{2, 16, 17, 32, 33, 60} {
		l := numbered(many)
		wantAll(t, piecesOf(l, 16).file(), l)
		for size := 1; size <= 64; size++ {
			if size != 16 && min(size, many) != min(16, many) {
				wantNoFile(t, "blocks of another size", piecesOf(l, size).file())
			}
		}
	}
	for _, sizes := range [][]int{{15, 16}, {17, 16}, {16, 15, 16}, {16, 16, 1, 16}, {1, 16}, {16, 8, 8, 16}, {32, 16}} {
		wantNoFile(t, "blocks of several sizes", piecesOf(numbered(60), sizes...).file())
	}
}

func TestBlocksThatAreNotTheirs(t *testing.T) {
	l := numbered(40)
	for what, change := range map[string]func(p *pieces){
		"two swapped":             func(p *pieces) { p.blocks[0], p.blocks[1] = p.blocks[1], p.blocks[0] },
		"the last one missing":    func(p *pieces) { p.blocks = p.blocks[:2] },
		"the first one missing":   func(p *pieces) { p.blocks = p.blocks[1:] },
		"the first one twice":     func(p *pieces) { p.blocks = slices.Insert(p.blocks, 1, p.blocks[0]) },
		"the last one twice":      func(p *pieces) { p.blocks = append(p.blocks, p.blocks[2]) },
		"an empty one first":      func(p *pieces) { p.blocks = slices.Insert(p.blocks, 0, []byte{}) },
		"an empty one last":       func(p *pieces) { p.blocks = append(p.blocks, nil) },
		"one of none last":        func(p *pieces) { p.blocks = append(p.blocks, plainBlock(nil)) },
		"the index as a block":    func(p *pieces) { p.blocks = append(p.blocks, p.index()) },
		"the filter as a block":   func(p *pieces) { p.blocks = append(p.blocks, p.filter) },
		"a byte more in one":      func(p *pieces) { p.blocks[1] = append(p.blocks[1], 0) },
		"a byte fewer in one":     func(p *pieces) { p.blocks[2] = p.blocks[2][:len(p.blocks[2])-1] },
		"two blocks in one frame": func(p *pieces) { p.blocks = [][]byte{join(p.blocks[0], p.blocks[1]), p.blocks[2]} },
		"one of other entries":    func(p *pieces) { p.blocks[1] = plainBlock(l[17:33]) },
	} {
		p := piecesOf(l, 16)
		change(&p)
		wantNoFile(t, what, p.file())
	}
}

func TestIndexThatIsNotTheirs(t *testing.T) {
	l := numbered(40)
	other := func(at int, offset uint64, m api.Mark) func(p *pieces) {
		return func(p *pieces) { p.rows[at] = plainRow(offset, m) }
	}
	second := uint64(len(plainFrame(plainBlock(l[:16]))))
	wantBoth(t, l[:32], func() []byte {
		p := piecesOf(l[:32], 16)
		other(1, second, l[31].Mark)(&p)
		return p.file()
	}())
	flipped := l[31].Mark
	flipped.Gone = !flipped.Gone
	for what, change := range map[string]func(p *pieces){
		"one block more":        func(p *pieces) { p.count = []byte{4} },
		"one block fewer":       func(p *pieces) { p.count = []byte{2} },
		"no block":              func(p *pieces) { p.count = []byte{0} },
		"a long count":          func(p *pieces) { p.count = []byte{0x83, 0} },
		"a huge count":          func(p *pieces) { p.count = []byte("\xff\xff\xff\xff\xff\xff\xff\xff\xff\x01") },
		"no count":              func(p *pieces) { p.count = nil },
		"no rows":               func(p *pieces) { p.rows = nil },
		"nothing":               func(p *pieces) { p.count, p.rows = nil, nil },
		"a row missing":         func(p *pieces) { p.rows = p.rows[:2] },
		"a row twice":           func(p *pieces) { p.rows = append(p.rows, p.rows[2]) },
		"a byte more":           func(p *pieces) { p.rows = append(p.rows, []byte{0}) },
		"rows swapped":          func(p *pieces) { p.rows[0], p.rows[1] = p.rows[1], p.rows[0] },
		"offset 0":              other(1, 0, l[31].Mark),
		"an offset less by 1":   other(1, second-1, l[31].Mark),
		"an offset more by 1":   other(1, second+1, l[31].Mark),
		"that of the record":    other(1, second+8, l[31].Mark),
		"a huge offset":         other(1, math.MaxUint64, l[31].Mark),
		"first mark":            other(1, second, l[16].Mark),
		"the last but one":      other(1, second, l[30].Mark),
		"the next one":          other(1, second, l[32].Mark),
		"an empty key":          other(1, second, api.Mark{Seq: l[31].Seq}),
		"another key":           other(1, second, api.Mark{Key: l[31].Key + "a", Seq: l[31].Seq, Gone: l[31].Gone}),
		"a Seq more by 1":       other(1, second, api.Mark{Key: l[31].Key, Seq: l[31].Seq + 1, Gone: l[31].Gone}),
		"a Seq less by 1":       other(1, second, api.Mark{Key: l[31].Key, Seq: l[31].Seq - 1, Gone: l[31].Gone}),
		"the other Gone":        other(1, second, flipped),
		"a byte 2":              func(p *pieces) { p.rows[1][len(p.rows[1])-1] = 2 },
		"a value":               func(p *pieces) { p.rows[1] = append(p.rows[1], 0) },
		"another row's last":    func(p *pieces) { p.rows[2] = plainRow(second, l[39].Mark) },
		"the filter as index":   func(p *pieces) { p.count, p.rows = p.filter, nil },
		"the count as a text":   func(p *pieces) { p.count = []byte{0, 0, 0, 3} },
		"a needless zero":       func(p *pieces) { p.rows[0] = append([]byte{0x80}, p.rows[0]...) },
		"the first row missing": func(p *pieces) { p.rows = p.rows[1:] },
	} {
		p := piecesOf(l, 16)
		change(&p)
		wantNoFile(t, what, p.file())
	}
}

func TestFilterThatIsNotTheirs(t *testing.T) {
	l := numbered(40)
	keys := plainKeys(l)
	right := blooms.Put(keys)
	for what, filter := range map[string][]byte{
		"nothing":           nil,
		"that of none":      blooms.Put(nil),
		"one key fewer":     blooms.Put(keys[1:]),
		"one key more":      blooms.Put(append(slices.Clone(keys), "z")),
		"another key":       blooms.Put(append(slices.Clone(keys[1:]), "z")),
		"a key twice":       blooms.Put(append(slices.Clone(keys), keys[0])),
		"each entry's key":  blooms.Put(slices.Concat(keys, keys, keys)[:40]),
		"all bits":          append(bytes.Repeat([]byte{255}, len(right)-1), 6),
		"no bits":           append(make([]byte, len(right)-1), 6),
		"another last byte": append(slices.Clone(right[:len(right)-1]), 5),
		"a byte more":       append(slices.Clone(right), 6),
		"a byte fewer":      right[:len(right)-1],
		"longer":            append([]byte{0}, right...),
		"the index":         piecesOf(l, 16).index(),
	} {
		p := piecesOf(l, 16)
		p.filter = filter
		if bytes.Equal(filter, right) {
			t.Errorf("%s: that is the right filter", what)
		}
		wantNoFile(t, what, p.file())
	}
	for n := range 8 * len(right) {
		p := piecesOf(l, 16)
		p.filter[n/8] ^= 1 << (n % 8)
		wantNoFile(t, "one bit of the filter", p.file())
	}
}

func TestTailThatIsNotTheirs(t *testing.T) {
	for _, many := range []int{1, 3, 16, 17, 40} {
		p := piecesOf(numbered(many), 16)
		b := p.file()
		frames := b[:len(b)-12]
		i := uint32(len(p.framedBlocks()))
		f := i + uint32(len(plainFrame(p.index())))
		n := uint32(many)
		wantAll(t, join(frames, plainTail(i, f, n)), numbered(many))
		odd := []uint32{0, 1, i - 1, i, i + 1, i + 8, f - 1, f, f + 1, n - 1, n, n + 1, n + 16, uint32(len(frames)), uint32(len(frames)) + 1, uint32(len(b)), uint32(len(b)) + 1, math.MaxInt32, math.MaxInt32 + 1, math.MaxUint32}
		for _, x := range odd {
			for _, tail := range [][]uint32{{x, f, n}, {i, x, n}, {i, f, x}, {x, x, n}, {x, i, n}, {f, x, n}, {x, x, x}} {
				if !slices.Equal(tail, []uint32{i, f, n}) {
					wantNoFile(t, fmt.Sprint("the tail ", tail), join(frames, plainTail(tail...)))
				}
			}
		}
		for _, tail := range [][]uint32{{}, {i}, {i, f}, {f, n}, {i, f, n, n}, {i, i, f, n}, {i, f, 0, n}, {n, f, i}} {
			wantNoFile(t, fmt.Sprint("the tail ", tail), join(frames, plainTail(tail...)))
		}
		wantNoFile(t, "numbers with the lowest byte first", join(frames, []byte{byte(i), byte(i >> 8), 0, 0, byte(f), byte(f >> 8), 0, 0, byte(n), 0, 0, 0}))
	}
}

// The numbers at the end are right here, but there is something else, or the parts are in another order.
func TestPartsInOtherPlaces(t *testing.T) {
	p := piecesOf(numbered(20), 16)
	blocks, index, filter := p.framedBlocks(), plainFrame(p.index()), plainFrame(p.filter)
	at := func(parts ...[]byte) uint32 { return uint32(len(join(parts...))) }
	wantAll(t, join(blocks, index, filter, plainTail(at(blocks), at(blocks, index), 20)), numbered(20))
	wantNoFile(t, "the filter first", join(blocks, filter, index, plainTail(at(blocks, filter), at(blocks), 20)))
	wantNoFile(t, "the index at the start", join(index, blocks, filter, plainTail(0, at(index, blocks), 20)))
	wantNoFile(t, "all blocks behind", join(index, filter, blocks, plainTail(0, at(index), 20)))
	for _, gap := range [][]byte{{0}, {0, 0, 0}, make([]byte, 8), plainFrame(nil), plainFrame([]byte("gap")), index, filter} {
		wantNoFile(t, "a gap ahead", join(gap, blocks, index, filter, plainTail(at(gap, blocks), at(gap, blocks, index), 20)))
		wantNoFile(t, "a gap ahead of the index", join(blocks, gap, index, filter, plainTail(at(blocks, gap), at(blocks, gap, index), 20)))
		wantNoFile(t, "a gap behind the blocks", join(blocks, gap, index, filter, plainTail(at(blocks), at(blocks, gap, index), 20)))
		wantNoFile(t, "a gap ahead of the filter", join(blocks, index, gap, filter, plainTail(at(blocks), at(blocks, index, gap), 20)))
		wantNoFile(t, "a gap ahead of the tail", join(blocks, index, filter, gap, plainTail(at(blocks), at(blocks, index), 20)))
		wantNoFile(t, "a gap behind", join(blocks, index, filter, plainTail(at(blocks), at(blocks, index), 20), gap))
	}
	wantNoFile(t, "no index", join(blocks, filter, plainTail(at(blocks), at(blocks), 20)))
	wantNoFile(t, "no filter", join(blocks, index, plainTail(at(blocks), at(blocks, index), 20)))
	wantNoFile(t, "no frames", plainTail(0, 0, 20))
	wantNoFile(t, "blocks alone", join(blocks, plainTail(at(blocks), at(blocks), 20)))
}

func TestOtherBytes(t *testing.T) {
	wantNoFile(t, "nil", nil)
	for many := range 100 {
		for _, c := range []byte{0, 1, 6, 127, 128, 255} {
			wantNoFile(t, "bytes of one kind", bytes.Repeat([]byte{c}, many))
		}
	}
	b, _ := sorted.Put(few())
	wantNoFile(t, "a file twice", join(b, b))
	block, _ := sorted.Put(few()[:1])
	wantNoFile(t, "two files", join(block, b))
}

// P10.2

// askedMarks are those of the list, marks close to them, and some far away.
func askedMarks(l []api.Entry) []api.Mark {
	all := []api.Mark{{}, {Gone: true}, {Seq: math.MaxUint64}, {Key: "\x00"}, {Key: "\x00", Seq: math.MaxUint64, Gone: true}, {Key: of(32, '\xff'), Seq: 0}, {Key: of(33, '\xff'), Seq: 9}, {Key: of(5000, 'k'), Seq: 9}}
	for _, x := range l {
		for _, key := range []string{x.Key, x.Key + "\x00", x.Key[:len(x.Key)-1]} {
			for _, seq := range []uint64{x.Seq, x.Seq + 1, x.Seq - 1, 0, math.MaxUint64} {
				all = append(all, api.Mark{Key: key, Seq: seq}, api.Mark{Key: key, Seq: seq, Gone: true})
			}
		}
	}
	return all
}

func TestGet(t *testing.T) {
	for _, l := range [][]api.Entry{few(), inOrder(), numbered(16), numbered(17), numbered(40), ofOneKey(20)} {
		b := plainFile(l)
		for _, m := range askedMarks(l) {
			wantGet(t, b, l, m.Key, m.Seq)
		}
	}
}

// The entries of the key w stand in two blocks.
func TestGetInTwoBlocks(t *testing.T) {
	l := append(numbered(14), there("w", 40, "a"), gone("w", 30), there("w", 30, "b"), gone("w", 20), there("w", 10, "c"))
	b := plainFile(l)
	for seq, at := range map[uint64]int{math.MaxUint64: 14, 41: 14, 40: 14, 39: 15, 31: 15, 30: 15, 29: 17, 20: 17, 19: 18, 10: 18, 9: -1, 0: -1} {
		var want api.Entry
		if at >= 0 {
			want = l[at]
		}
		if x, ok, e := sorted.Get(b, "w", seq); x != want || ok != (at >= 0) || e != api.OK {
			t.Errorf("Get(w, %d) = %v, %t, %d; want %v", seq, x, ok, e, want)
		}
	}
	for _, key := range []string{"v", "w\x00", "x", "", "W", of(33, 'w')} {
		wantGet(t, b, l, key, math.MaxUint64)
	}
}

func TestFrom(t *testing.T) {
	for _, l := range [][]api.Entry{few(), inOrder(), numbered(16), numbered(17), numbered(33), ofOneKey(20)} {
		b := plainFile(l)
		for i, m := range askedMarks(l) {
			for _, most := range []int{1, 2, i % 20, len(l) + i%3 - 1} {
				wantFrom(t, b, l, m, most)
			}
		}
	}
}

func TestMost(t *testing.T) {
	l := numbered(40)
	b := plainFile(l)
	for _, m := range []api.Mark{{}, l[0].Mark, l[15].Mark, l[16].Mark, l[39].Mark, {Key: "z"}} {
		for _, most := range []int{math.MinInt, -4096, -2, -1, 0, 1, 2, 15, 16, 17, 39, 40, 41, 4096, 4097, math.MaxInt32, math.MaxInt - 1, math.MaxInt} {
			wantFrom(t, b, l, m, most)
		}
	}
}

// P10.3

func TestPutReadPut(t *testing.T) {
	for _, l := range goodLists() {
		b, _ := sorted.Put(l)
		read, e := sorted.All(b)
		if e != api.OK || !slices.Equal(read, l) {
			t.Errorf("All(Put(%s)) = %s, %d", told(l), told(read), e)
		}
		wantPut(t, read, b)
	}
}

func TestCutAnywhere(t *testing.T) {
	for _, l := range [][]api.Entry{{gone("a", 1)}, few(), inOrder(), numbered(16), numbered(17), numbered(33)} {
		b := plainFile(l)
		for many := range len(b) {
			wantNoFile(t, "its end cut off", b[:many])
			if many > 0 {
				wantNoFile(t, "its beginning cut off", b[many:])
			}
		}
	}
}

func TestSomeBehind(t *testing.T) {
	for _, l := range [][]api.Entry{{gone("a", 1)}, few(), numbered(17)} {
		b := plainFile(l)
		for c := range 256 {
			wantNoFile(t, "one byte more", append(bytes.Clone(b), byte(c)))
			wantNoFile(t, "one byte ahead", append([]byte{byte(c)}, b...))
		}
	}
}

func TestEachBitTurned(t *testing.T) {
	for _, l := range [][]api.Entry{{gone("a", 1)}, few(), numbered(17)} {
		b := plainFile(l)
		for n := range 8 * len(b) {
			turned := bytes.Clone(b)
			turned[n/8] ^= 1 << (n % 8)
			wantNoFile(t, "a bit turned", turned)
		}
		for i := range b {
			turned := bytes.Clone(b)
			turned[i] ^= 255
			wantNoFile(t, "a byte turned", turned)
		}
	}
}

// R4

func TestArgumentsStay(t *testing.T) {
	l := append(numbered(40), there("z", 1, "spare"))
	was := slices.Clone(l)
	b, _ := sorted.Put(l[:40])
	if !slices.Equal(l, was) {
		t.Errorf("Put has changed its entries to %s", told(l))
	}
	withMore := append(bytes.Clone(b), "spare"...)
	sorted.All(withMore[:len(b)])
	sorted.Get(withMore[:len(b)], "k1001", 9999)
	sorted.From(withMore[:len(b)], api.Mark{}, 7)
	if !bytes.Equal(withMore, append(bytes.Clone(b), "spare"...)) {
		t.Errorf("bytes were changed to %x", withMore)
	}
}

func TestResultsAreNew(t *testing.T) {
	for _, l := range goodLists() {
		b, _ := sorted.Put(l)
		same, _ := sorted.Put(l)
		clear(same[:cap(same)])
		wantPut(t, l, b)
		all, _ := sorted.All(b)
		from, _ := sorted.From(b, api.Mark{}, 10)
		clear(all[:cap(all)])
		clear(from[:cap(from)])
		wantAll(t, b, l)
		read, _ := sorted.All(b)
		clear(b)
		if !slices.Equal(read, l) {
			t.Errorf("a change to the bytes is seen in the entries %s", told(read))
		}
	}
}
