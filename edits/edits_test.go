package edits_test

import (
	"bytes"
	"fmt"
	"math"
	"slices"
	"strings"
	"testing"

	"bucketline/api"
	"bucketline/edits"
)

func file(num uint32, level int, least, most string) api.File {
	return api.File{Num: num, Level: level, Least: least, Most: most}
}

// plainFile is one of which only the number and the level matter.
func plainFile(num uint32, level int) api.File {
	return file(num, level, "a", "c")
}

func adding(l ...api.File) api.Edit {
	return api.Edit{Added: l}
}

func removing(nums ...uint32) api.Edit {
	return api.Edit{Removed: nums}
}

func of(many int, c byte) string {
	return strings.Repeat(string([]byte{c}), many)
}

func join(parts ...[]byte) []byte {
	return bytes.Join(parts, nil)
}

// told is anything in a few words.
func told(x any) string {
	return fmt.Sprintf("%.300q", fmt.Sprint(x))
}

func same(x, y api.Edit) bool {
	return slices.Equal(x.Added, y.Added) && slices.Equal(x.Removed, y.Removed) && x.Journal == y.Journal && x.Next == y.Next && x.Seq == y.Seq
}

func wantPut(t *testing.T, x api.Edit, want []byte) {
	t.Helper()
	if b, e := edits.Put(x); !bytes.Equal(b, want) || e != api.OK {
		t.Errorf("Put(%s) = %.200q, %d; want %.200q", told(x), b, e, want)
	}
}

func wantNoPut(t *testing.T, what string, x api.Edit) {
	t.Helper()
	if b, e := edits.Put(x); len(b) != 0 || e != api.ErrArg {
		t.Errorf("%s: Put(%s) = %.200q, %d; want none, ErrArg", what, told(x), b, e)
	}
}

func wantGet(t *testing.T, b []byte, want api.Edit) {
	t.Helper()
	if x, e := edits.Get(b); !same(x, want) || e != api.OK {
		t.Errorf("Get(%.200q) = %s, %d; want %s", b, told(x), e, told(want))
	}
}

func wantNoEdit(t *testing.T, what string, b []byte) {
	t.Helper()
	if x, e := edits.Get(b); !same(x, api.Edit{}) || e != api.ErrForm {
		t.Errorf("%s: Get(%.200q) = %s, %d; want none, ErrForm", what, b, told(x), e)
	}
}

// wantBoth are an edit and its bytes.
func wantBoth(t *testing.T, x api.Edit, b []byte) {
	t.Helper()
	wantPut(t, x, b)
	wantGet(t, b, x)
}

func wantDo(t *testing.T, l []api.File, x api.Edit, want ...api.File) {
	t.Helper()
	if got, e := edits.Do(l, x); !slices.Equal(got, want) || e != api.OK {
		t.Errorf("Do(%s, %s) = %s, %d; want %s", told(l), told(x), told(got), e, told(want))
	}
}

func wantNoDo(t *testing.T, what string, l []api.File, x api.Edit) {
	t.Helper()
	if got, e := edits.Do(l, x); len(got) != 0 || e != api.ErrArg {
		t.Errorf("%s: Do(%s, %s) = %s, %d; want none, ErrArg", what, told(l), told(x), told(got), e)
	}
}

// edgeNums are numbers of 32 bits, of every length that they have as bytes.
func edgeNums() []uint32 {
	return []uint32{0, 1, 127, 128, 300, 16383, 16384, 1<<21 - 1, 1 << 21, 1<<28 - 1, 1 << 28, math.MaxInt32, math.MaxInt32 + 1, math.MaxUint32}
}

func edgeSeqs() []uint64 {
	return []uint64{0, 1, 127, 128, math.MaxUint32, math.MaxUint32 + 1, math.MaxInt64, math.MaxInt64 + 1, math.MaxUint64}
}

// goodFiles are at the edges of what is valid.
func goodFiles() []api.File {
	var l []api.File
	for level := range api.MaxLevels {
		for _, num := range edgeNums() {
			l = append(l, file(num, level, "a", "b"))
		}
		for _, k := range [][2]string{{"a", "a"}, {"a", "aa"}, {"a", "a\x00"}, {"aa", "b"}, {"\x00", "\x00"}, {"\x00", "\xff"}, {"\x7f", "\x80"}, {"z", "é"}, {"B", "a"}, {"10", "9"}, {of(32, 'a'), of(32, 'a')}, {of(31, 'a'), of(32, 'a')}, {of(32, 'a'), "b"}, {"a", of(32, '\xff')}, {of(32, '\x00'), "\x01"}} {
			l = append(l, file(7, level, k[0], k[1]))
		}
	}
	return l
}

// badFiles are not valid, at the edges and far from them.
func badFiles() []api.File {
	l := []api.File{{}, file(1, 0, "", "a"), file(1, 0, "a", ""), file(1, 0, "", ""), file(1, 0, of(33, 'a'), "b"), file(1, 0, "a", of(33, 'a')), file(1, 0, of(33, 'a'), of(33, 'a')), file(1, 0, "a", strings.Repeat("é", 17)), file(1, 0, "a", of(1<<16, 'b')), file(1, 9, "", of(33, 'a'))}
	for _, level := range []int{-1, -4, math.MinInt, 4, 5, 128, 255, 256, 1 << 16, math.MaxInt32 + 1, math.MaxInt32*2 + 2, math.MaxInt} {
		l = append(l, file(1, level, "a", "b"))
	}
	for _, k := range [][2]string{{"b", "a"}, {"aa", "a"}, {"a\x00", "a"}, {"\x80", "\x7f"}, {"\xff", "\x00"}, {"a", "B"}, {"9", "10"}, {"é", "z"}, {of(32, 'a'), of(31, 'a')}, {of(31, 'a') + "b", of(32, 'a')}} {
		l = append(l, file(1, 0, k[0], k[1]))
	}
	return l
}

// numbered are so many files with numbers from a first one on.
func numbered(first uint32, many int) []api.File {
	var l []api.File
	for i := range many {
		l = append(l, file(first+uint32(i), i%api.MaxLevels, of(1+i%32, 'k'), of(1+i%31, 'l')))
	}
	return l
}

// goodEdits are ordinary ones, and some at the edges.
func goodEdits() []api.Edit {
	l := []api.Edit{{}, {Journal: 1}, {Next: 1}, {Seq: 1}, {Journal: math.MaxUint32, Next: math.MaxUint32, Seq: math.MaxUint64}}
	for _, f := range goodFiles() {
		l = append(l, adding(f))
	}
	for _, n := range edgeNums() {
		l = append(l, removing(n), api.Edit{Journal: n}, api.Edit{Next: n})
	}
	for _, n := range edgeSeqs() {
		l = append(l, api.Edit{Seq: n})
	}
	for _, many := range []int{2, 3, 10, 127, 128, 129, 300} {
		l = append(l, api.Edit{Added: numbered(1, many), Removed: slices.Repeat([]uint32{300, 5}, many), Journal: 300, Next: 301, Seq: 302})
	}
	// What Do refuses may be an edit.
	return append(l, adding(goodFiles()...), adding(plainFile(5, 0), plainFile(5, 0)), removing(edgeNums()...), removing(5, 5), removing(make([]uint32, 200)...), api.Edit{Added: []api.File{plainFile(5, 0)}, Removed: []uint32{5}})
}

func TestExamples(t *testing.T) {
	x := api.Edit{Added: []api.File{file(300, 1, "a", "bc")}, Removed: []uint32{5}, Journal: 6, Next: 7, Seq: 200}
	wantBoth(t, x, []byte{1, 172, 2, 1, 1, 'a', 2, 'b', 'c', 1, 5, 6, 7, 200, 1})
	l := []api.File{file(5, 0, "a", "b"), file(3, 1, "a", "c")}
	wantDo(t, l, x, l[1], x.Added[0])
	wantNoDo(t, "no file with the number", nil, removing(5))
	wantNoDo(t, "a number that is there", l[:1], adding(file(5, 1, "a", "b")))
	wantNoPut(t, "level", adding(file(1, 4, "a", "b")))
	wantNoPut(t, "keys", adding(file(1, 0, "b", "a")))
	wantNoEdit(t, "0 0 0 0", make([]byte, 4))
}

// P11.1

func TestBytesOfEdits(t *testing.T) {
	for _, x := range goodEdits() {
		wantBoth(t, x, plainEdit(x))
	}
}

// The bytes here are written out, with no look at how a test makes them.
func TestBytesWrittenOut(t *testing.T) {
	wantBoth(t, api.Edit{}, make([]byte, 5))
	wantBoth(t, adding(file(0, 0, "a", "a")), []byte{1, 0, 0, 1, 'a', 1, 'a', 0, 0, 0, 0})
	wantBoth(t, adding(file(math.MaxUint32, 3, "\x00", of(32, '\xff'))), join([]byte{1, 255, 255, 255, 255, 15, 3, 1, 0, 32}, bytes.Repeat([]byte{255}, 32), make([]byte, 4)))
	wantBoth(t, adding(file(2, 1, "b", "c"), file(1, 0, "a", "d")), []byte{2, 2, 1, 1, 'b', 1, 'c', 1, 0, 1, 'a', 1, 'd', 0, 0, 0, 0})
	wantBoth(t, removing(9, 128, 9), []byte{0, 3, 9, 128, 1, 9, 0, 0, 0})
	wantBoth(t, api.Edit{Journal: 1, Next: 2, Seq: 3}, []byte{0, 0, 1, 2, 3})
	wantBoth(t, api.Edit{Journal: math.MaxUint32, Next: 1 << 31, Seq: math.MaxUint64}, []byte{0, 0, 255, 255, 255, 255, 15, 128, 128, 128, 128, 8, 255, 255, 255, 255, 255, 255, 255, 255, 255, 1})
}

func TestPutRefusesInvalidFiles(t *testing.T) {
	for _, f := range badFiles() {
		for _, many := range []int{0, 1, 3, 200} {
			l := numbered(10, many)
			for _, at := range []int{0, many / 2, many} {
				x := api.Edit{Added: slices.Insert(slices.Clone(l), at, f), Removed: []uint32{5}, Journal: 6, Next: 7, Seq: 200}
				wantNoPut(t, "a file that is not valid", x)
			}
		}
	}
}

// What a file that is not valid would have as its bytes is refused, too.
func TestGetRefusesInvalidFiles(t *testing.T) {
	for _, f := range badFiles() {
		for _, l := range [][]api.File{{f}, {f, plainFile(2, 0)}, {plainFile(2, 0), f}, {plainFile(2, 0), f, plainFile(3, 1)}} {
			wantNoEdit(t, "a file that is not valid", plainEdit(adding(l...)))
		}
	}
}

// ordinary is an edit in which every part is there.
func ordinary() api.Edit {
	return api.Edit{Added: []api.File{file(300, 1, "a", "bc"), file(7, 3, "b", of(32, 'b'))}, Removed: []uint32{5, 200, 1 << 30}, Journal: 600, Next: 7, Seq: 1 << 40}
}

func TestCutOffAnywhere(t *testing.T) {
	for _, x := range goodEdits() {
		b := plainEdit(x)
		for cut := range len(b) {
			wantNoEdit(t, "cut off", b[:cut:cut])
			// What comes then, in the spare capacity, is none of it.
			wantNoEdit(t, "cut off, with room", b[:cut])
		}
	}
}

func TestOneByteMore(t *testing.T) {
	for _, x := range goodEdits() {
		b := plainEdit(x)
		for c := range 256 {
			wantNoEdit(t, "a byte more", append(b[:len(b):len(b)], byte(c)))
		}
		wantNoEdit(t, "twice", join(b, b))
	}
}

func TestOneByteMoreAnywhere(t *testing.T) {
	b := plainEdit(ordinary())
	for at := range b {
		for c := range 256 {
			wantAsPlain(t, slices.Insert(bytes.Clone(b), at, byte(c)))
		}
	}
}

func TestOneByteLessAnywhere(t *testing.T) {
	b := plainEdit(ordinary())
	for at := range b {
		wantAsPlain(t, slices.Delete(bytes.Clone(b), at, at+1))
	}
}

// Another byte makes it another edit, or none.
func TestOneByteTurned(t *testing.T) {
	right := 0
	for _, x := range []api.Edit{ordinary(), {}, adding(file(300, 1, "a", "bc")), removing(1, 2, 300)} {
		b := plainEdit(x)
		for at, c := range b {
			for d := range 256 {
				b[at] = byte(d)
				if wantAsPlain(t, b) {
					right++
				}
				if y, e := edits.Get(b); e == api.OK && byte(d) != c && same(x, y) {
					t.Errorf("Get(%q) = %s, as with the byte %d at %d", b, told(y), c, at)
				}
			}
			b[at] = c
		}
	}
	if right < 1000 {
		t.Errorf("only %d of them were edits", right)
	}
}

// parts of the bytes of an edit with one file and one number that is removed.
func parts() [][]byte {
	return [][]byte{{1}, {9}, {2}, {1, 'a'}, {1, 'b'}, {1}, {5}, {6}, {7}, {8}}
}

// with has another part in its place.
func with(at int, part ...byte) []byte {
	l := parts()
	l[at] = part
	return join(l...)
}

func TestNumbersOf32Bits(t *testing.T) {
	for _, at := range []int{1, 6, 7, 8} {
		for _, n := range edgeNums() {
			x := api.Edit{Added: []api.File{file(9, 2, "a", "b")}, Removed: []uint32{5}, Journal: 6, Next: 7, Seq: 8}
			*map[int]*uint32{1: &x.Added[0].Num, 6: &x.Removed[0], 7: &x.Journal, 8: &x.Next}[at] = n
			wantBoth(t, x, with(at, plainNumber(uint64(n))...))
		}
		for _, n := range []uint64{1 << 32, 1<<32 + 1, 1<<33 - 1, 1 << 35, 1 << 62, math.MaxInt64, math.MaxInt64 + 1, math.MaxUint64 - 1, math.MaxUint64} {
			wantNoEdit(t, "above 32 bits", with(at, plainNumber(n)...))
		}
	}
}

func TestSeqHas64Bits(t *testing.T) {
	for _, n := range edgeSeqs() {
		if x, e := edits.Get(with(9, plainNumber(n)...)); e != api.OK || x.Seq != n {
			t.Errorf("Seq %d: %s, %d", n, told(x), e)
		}
	}
	wantNoEdit(t, "above 64 bits", with(9, 255, 255, 255, 255, 255, 255, 255, 255, 255, 2))
	wantNoEdit(t, "eleven bytes", with(9, 255, 255, 255, 255, 255, 255, 255, 255, 255, 129, 0))
}

// A level that is cut to 8, 16 or 32 bits would be a right one here.
func TestLevels(t *testing.T) {
	for n := range uint64(300) {
		x, e := edits.Get(with(2, plainNumber(n)...))
		if n > 3 {
			wantNoEdit(t, "level", with(2, plainNumber(n)...))
		} else if e != api.OK || x.Added[0].Level != int(n) {
			t.Errorf("level %d: %s, %d", n, told(x), e)
		}
	}
	for _, n := range []uint64{1 << 16, 1<<16 + 1, 1 << 32, 1<<32 + 1, 1 << 63, 1<<63 + 1, math.MaxUint64} {
		wantNoEdit(t, "level", with(2, plainNumber(n)...))
	}
}

// Each number has only one form: as few bytes as possible.
func TestNeedlessBytes(t *testing.T) {
	for at, part := range parts() {
		if at != 3 && at != 4 {
			wantNoEdit(t, "a needless byte", with(at, part[0]|128, 0))
			wantNoEdit(t, "two needless bytes", with(at, part[0]|128, 128, 0))
			continue
		}
		wantNoEdit(t, "a needless byte of a length", with(at, part[0]|128, 0, part[1]))
	}
}

func TestKeysInBytes(t *testing.T) {
	for _, at := range []int{3, 4} {
		wantNoEdit(t, "an empty key", with(at, 0))
		wantNoEdit(t, "a key that is too long", with(at, plainText(of(33, 'b'))...))
		for _, n := range []uint64{2, 20, 127, 128, 1 << 16, 1 << 31, 1 << 32, math.MaxInt64, math.MaxInt64 + 1, math.MaxUint64} {
			wantNoEdit(t, "a length above what follows", with(at, append(plainNumber(n), 'b')...))
		}
	}
	wantGet(t, with(3, plainText(of(32, 'a'))...), plainlyRead(with(3, plainText(of(32, 'a'))...)))
	wantGet(t, with(4, plainText(of(32, 'b'))...), plainlyRead(with(4, plainText(of(32, 'b'))...)))
	wantNoEdit(t, "keys in the wrong order", with(3, 1, 'c'))
	wantNoEdit(t, "keys in the wrong order", with(4, 2, 'A', 'b'))
	wantNoEdit(t, "a prefix as the last key", join(with(3, 2, 'b', 'b')))
}

// Numbers of things that are not all there, up to the greatest: memory is taken only for what is.
func TestMoreThanFollow(t *testing.T) {
	for _, n := range []uint64{2, 3, 127, 128, 1<<8 + 1, 1<<16 + 1, 1 << 20, 1 << 31, 1 << 32, 1<<32 + 1, 1 << 40, math.MaxInt64, math.MaxInt64 + 1, math.MaxInt64 + 2, math.MaxUint64} {
		wantNoEdit(t, "files", with(0, plainNumber(n)...))
		wantNoEdit(t, "files alone", plainNumber(n))
		wantNoEdit(t, "removed alone", append([]byte{0}, plainNumber(n)...))
		// A number that is cut to 32 bits would be none here.
		wantNoEdit(t, "files, but none", append(plainNumber(n), 0, 0, 0, 0))
		wantNoEdit(t, "removed, but none", append(append([]byte{0}, plainNumber(n)...), 0, 0, 0))
		if n > 4 {
			wantNoEdit(t, "removed", with(5, plainNumber(n)...))
		}
	}
	wantNoEdit(t, "no file", with(0, 0))
	wantNoEdit(t, "none removed", with(5, 0))
}

// P11.2

func TestOrderOfFiles(t *testing.T) {
	l := []api.File{plainFile(10, 1), plainFile(9, 1), plainFile(1, 3), plainFile(math.MaxUint32, 0), plainFile(1<<31, 0), plainFile(0, 0), plainFile(300, 2)}
	want := []api.File{l[5], l[4], l[3], l[1], l[0], l[6], l[2]}
	for cut := range len(l) + 1 {
		wantDo(t, l[:cut], adding(l[cut:]...), want...)
		wantDo(t, l[cut:], adding(l[:cut]...), want...)
	}
	slices.Reverse(l)
	wantDo(t, l, api.Edit{}, want...)
	wantDo(t, nil, adding(l...), want...)
}

// The keys make no difference: files may overlap, also within a level, and within it they are not ordered by them.
func TestKeysMakeNoOrder(t *testing.T) {
	l := []api.File{file(1, 1, "x", "z"), file(2, 1, "a", "z"), file(3, 1, "a", "b"), file(4, 1, "a", "b"), file(5, 0, "z", "z")}
	want := []api.File{l[4], l[0], l[1], l[2], l[3]}
	wantDo(t, l, api.Edit{}, want...)
	wantDo(t, nil, adding(l...), want...)
	wantDo(t, l[2:], adding(l[:2]...), want...)
}

func TestNothingToDo(t *testing.T) {
	wantDo(t, nil, api.Edit{})
	wantDo(t, []api.File{}, api.Edit{Added: []api.File{}, Removed: []uint32{}})
	wantDo(t, []api.File{plainFile(0, 0)}, removing(0))
}

func TestOtherFieldsMakeNoDifference(t *testing.T) {
	l := []api.File{plainFile(1, 1), plainFile(2, 0)}
	for _, n := range edgeNums() {
		for _, seq := range edgeSeqs() {
			wantDo(t, l, api.Edit{Added: []api.File{plainFile(3, 0)}, Removed: []uint32{1}, Journal: n, Next: n, Seq: seq}, l[1], plainFile(3, 0))
		}
	}
}

// All that a file says is there, and nothing else, with any number.
func TestFilesStayAsTheyAre(t *testing.T) {
	for _, f := range goodFiles() {
		wantDo(t, []api.File{f}, api.Edit{}, f)
		wantDo(t, nil, adding(f), f)
		wantDo(t, []api.File{f}, removing(f.Num))
		wantDo(t, []api.File{f}, api.Edit{Added: []api.File{plainFile(f.Num, 2)}, Removed: []uint32{f.Num}}, plainFile(f.Num, 2))
		wantNoDo(t, "the same number", []api.File{f}, adding(f))
		wantNoDo(t, "another number", []api.File{f}, removing(f.Num+1))
	}
}

func TestDoRefusesInvalidFiles(t *testing.T) {
	for _, f := range badFiles() {
		f.Num = 500
		for _, many := range []int{0, 1, 3, 100} {
			l := numbered(10, many)
			for _, at := range []int{0, many / 2, many} {
				bad := slices.Insert(slices.Clone(l), at, f)
				wantNoDo(t, "a file of l", bad, api.Edit{})
				// Also if it would not be left.
				wantNoDo(t, "a file of l that is removed", bad, removing(500))
				wantNoDo(t, "a file that is added", nil, adding(bad...))
				wantNoDo(t, "a file that is added in the place of another", []api.File{plainFile(500, 0)}, api.Edit{Added: bad, Removed: []uint32{500}})
			}
		}
	}
}

func TestSameNumberTwice(t *testing.T) {
	a, b, c := plainFile(5, 0), plainFile(5, 1), plainFile(6, 0)
	for _, l := range [][]api.File{{a, a}, {a, b}, {b, a}, {a, c, b}, {c, a, a}} {
		wantNoDo(t, "in l", l, api.Edit{})
		// Also if one of the two, or both, would not be left.
		wantNoDo(t, "in l, and removed", l, removing(5))
		wantNoDo(t, "in l, and removed twice", l, removing(5, 5))
		wantNoDo(t, "added", nil, adding(l...))
		wantNoDo(t, "added", []api.File{a}, api.Edit{Added: l, Removed: []uint32{5}})
	}
	wantNoDo(t, "in l and added", []api.File{a}, adding(a))
	wantNoDo(t, "in l and added", []api.File{c, a}, adding(b))
	wantNoDo(t, "in l and added", []api.File{c, a}, api.Edit{Added: []api.File{b}, Removed: []uint32{6}})
	wantDo(t, []api.File{a, c}, api.Edit{Added: []api.File{b}, Removed: []uint32{5}}, c, b)
	wantDo(t, []api.File{a, c}, api.Edit{Added: []api.File{a}, Removed: []uint32{5}}, a, c)
}

func TestRemovedNumbers(t *testing.T) {
	l := []api.File{plainFile(5, 0), plainFile(6, 0), plainFile(7, 1)}
	wantDo(t, l, removing(5), l[1], l[2])
	wantDo(t, l, removing(7, 5), l[1])
	wantDo(t, l, removing(6, 7, 5))
	for _, nums := range [][]uint32{{4}, {8}, {0}, {math.MaxUint32}, {5, 4}, {4, 5}, {5, 5}, {5, 6, 5}, {5, 6, 7, 5}, {5, 6, 7, 8}} {
		wantNoDo(t, "removed", l, removing(nums...))
		wantNoDo(t, "removed", nil, removing(nums...))
	}
	// The files that are added are none of l: what is removed must have been there before.
	wantNoDo(t, "added", l, api.Edit{Added: []api.File{plainFile(8, 0)}, Removed: []uint32{8}})
	wantNoDo(t, "added", nil, api.Edit{Added: []api.File{plainFile(8, 0)}, Removed: []uint32{8}})
	wantNoDo(t, "removed twice, added again", l, api.Edit{Added: []api.File{plainFile(5, 0)}, Removed: []uint32{5, 5}})
}

// There is no limit to how many there are: that of a disk is not one of edits.
func TestManyFiles(t *testing.T) {
	l, more := numbered(0, 5000), numbered(5000, 5000)
	var nums []uint32
	for i := range uint32(5000) {
		nums = append(nums, 4999-i)
	}
	inOrder, _ := plainDo(more, api.Edit{})
	wantDo(t, l, api.Edit{Added: more, Removed: nums}, inOrder...)
	wantNoDo(t, "one number too many", l, api.Edit{Added: more, Removed: append(nums, 5000)})
	wantNoDo(t, "one file twice", l, api.Edit{Added: append(more, more[0]), Removed: nums})
}

// P11.3

func TestReadBack(t *testing.T) {
	for _, x := range goodEdits() {
		b, e := edits.Put(x)
		if e != api.OK {
			t.Fatalf("Put(%s) = %d", told(x), e)
		}
		wantGet(t, b, x)
		y, _ := edits.Get(b)
		wantPut(t, y, b)
	}
}

func TestUndone(t *testing.T) {
	for many := range 40 {
		l, _ := edits.Do(numbered(1, many), api.Edit{})
		added := numbered(100, 2*many+1)
		after, e := edits.Do(l, api.Edit{Added: added, Journal: 1, Next: 2, Seq: 3})
		if e != api.OK || len(after) != len(l)+len(added) {
			t.Fatalf("%d files, %d", len(after), e)
		}
		wantDo(t, after, removing(plainNums(added)...), l...)
		// With what the edit removed, too.
		x := api.Edit{Added: added, Removed: plainNums(l[:many/2])}
		after, _ = edits.Do(l, x)
		wantDo(t, after, api.Edit{Added: l[:many/2], Removed: plainNums(added)}, l...)
	}
}

// R4

func TestPutKeepsToItsMemory(t *testing.T) {
	x := ordinary()
	want := plainEdit(x)
	first, _ := edits.Put(x)
	second, _ := edits.Put(x)
	first = first[:cap(first)]
	for i := range first {
		first[i] ^= 255
	}
	if !same(x, ordinary()) {
		t.Error("the argument has changed")
	}
	clear(x.Added)
	clear(x.Removed)
	if !bytes.Equal(second, want) {
		t.Error("a result has changed with another one, or with the argument")
	}
}

func TestGetKeepsToItsMemory(t *testing.T) {
	b := plainEdit(ordinary())
	room := append(b, 1, 2, 3)
	was := bytes.Clone(room)
	first, _ := edits.Get(room[:len(b)])
	second, _ := edits.Get(room[:len(b)])
	clear(first.Added[:cap(first.Added)])
	clear(first.Removed[:cap(first.Removed)])
	if !bytes.Equal(room, was) {
		t.Error("the argument has changed")
	}
	clear(room)
	if !same(second, ordinary()) {
		t.Error("a result has changed with another one, or with the argument")
	}
}

func TestDoKeepsToItsMemory(t *testing.T) {
	l, added, removed := numbered(10, 9), numbered(50, 9), []uint32{12, 17, 1, 2}
	spare := func() []api.File { return append(slices.Clone(l[:7]), added[7:]...) }
	for _, many := range []int{0, 2} {
		room, x := spare(), api.Edit{Added: slices.Clone(added), Removed: slices.Clone(removed)}
		call := func() []api.File {
			got, e := edits.Do(room[:7], api.Edit{Added: x.Added[:many], Removed: x.Removed[:1]})
			if e != api.OK {
				t.Fatal(e)
			}
			return got
		}
		first, second := call(), call()
		want := slices.Clone(second)
		clear(first[:cap(first)])
		if !slices.Equal(room, spare()) || !slices.Equal(x.Added, added) || !slices.Equal(x.Removed, removed) {
			t.Error("an argument has changed")
		}
		clear(room)
		clear(x.Added)
		clear(x.Removed)
		if !slices.Equal(second, want) {
			t.Error("a result has changed with another one, or with an argument")
		}
	}
}

// Also where it refuses, and where files are not in order.
func TestDoLeavesItsArguments(t *testing.T) {
	for _, x := range []api.Edit{{}, removing(5, 9), removing(5, 5), adding(plainFile(5, 0)), {Added: []api.File{plainFile(8, 0), plainFile(1, 0), plainFile(4, 0)}, Removed: []uint32{9, 3}}} {
		l := []api.File{plainFile(9, 3), plainFile(5, 1), plainFile(3, 0)}
		lWas, y := slices.Clone(l), api.Edit{Added: slices.Clone(x.Added), Removed: slices.Clone(x.Removed)}
		edits.Do(l, x)
		if !slices.Equal(l, lWas) || !same(x, y) {
			t.Errorf("Do has changed its arguments to %s, %s", told(l), told(x))
		}
	}
}

// R5

func TestSameAgain(t *testing.T) {
	x, l := ordinary(), numbered(0, 60)
	b := plainEdit(x)
	y := api.Edit{Added: numbered(100, 60), Removed: []uint32{1, 2, 3}}
	want, _ := plainDo(l, y)
	for range 50 {
		wantBoth(t, x, b)
		wantNoPut(t, "level", adding(plainFile(1, 4)))
		wantNoEdit(t, "cut off", b[:len(b)-1])
		wantDo(t, l, y, want...)
		wantNoDo(t, "no such number", l, removing(60))
	}
}
