package edits_test

import (
	"bytes"
	"encoding/binary"
	"math"
	"slices"
	"testing"

	"bucketline/api"
	"bucketline/edits"
)

func plainNumber(n uint64) []byte {
	return binary.AppendUvarint(nil, n)
}

// plainText follows the form of strings by the library's means.
func plainText(s string) []byte {
	return append(plainNumber(uint64(len(s))), s...)
}

// plainEdit is the form of any edit, also if it is not valid.
func plainEdit(x api.Edit) []byte {
	b := plainNumber(uint64(len(x.Added)))
	for _, f := range x.Added {
		b = join(b, plainNumber(uint64(f.Num)), plainNumber(uint64(f.Level)), plainText(f.Least), plainText(f.Most))
	}
	b = append(b, plainNumber(uint64(len(x.Removed)))...)
	for _, n := range x.Removed {
		b = binary.AppendUvarint(b, uint64(n))
	}
	return join(b, plainNumber(uint64(x.Journal)), plainNumber(uint64(x.Next)), plainNumber(x.Seq))
}

func plainlyValid(f api.File) bool {
	switch {
	case f.Level < 0, f.Level > 3, f.Least == "", f.Most == "", len(f.Least) > 32, len(f.Most) > 32:
		return false
	}
	return bytes.Compare([]byte(f.Least), []byte(f.Most)) <= 0
}

// plainReader holds each part against the definition when it reads it; it panics at the first wrong one.
type plainReader struct {
	b []byte
}

func (r *plainReader) upTo(most uint64) uint64 {
	n, took := binary.Uvarint(r.b)
	if took <= 0 || took > 1 && r.b[took-1] == 0 || n > most {
		panic("a number")
	}
	r.b = r.b[took:]
	return n
}

func (r *plainReader) key() string {
	n := r.upTo(uint64(min(32, len(r.b))))
	s := string(r.b[:n])
	r.b = r.b[n:]
	return s
}

func (r *plainReader) edit() (x api.Edit) {
	for many := r.upTo(math.MaxUint64); many > 0; many-- {
		f := api.File{Num: uint32(r.upTo(math.MaxUint32)), Level: int(r.upTo(3))}
		f.Least, f.Most = r.key(), r.key()
		if !plainlyValid(f) {
			panic("a file")
		}
		x.Added = append(x.Added, f)
	}
	for many := r.upTo(math.MaxUint64); many > 0; many-- {
		x.Removed = append(x.Removed, uint32(r.upTo(math.MaxUint32)))
	}
	x.Journal = uint32(r.upTo(math.MaxUint32))
	x.Next = uint32(r.upTo(math.MaxUint32))
	x.Seq = r.upTo(math.MaxUint64)
	return x
}

func plainGet(b []byte) (x api.Edit, ok bool) {
	defer func() {
		if recover() != nil {
			x, ok = api.Edit{}, false
		}
	}()
	r := plainReader{b: b}
	x = r.edit()
	if len(r.b) > 0 {
		panic("a byte more")
	}
	return x, true
}

// plainlyRead is for bytes that are those of an edit.
func plainlyRead(b []byte) api.Edit {
	x, ok := plainGet(b)
	if !ok {
		panic("no edit")
	}
	return x
}

func wantAsPlain(t *testing.T, b []byte) (ok bool) {
	t.Helper()
	x, ok := plainGet(b)
	if !ok {
		wantNoEdit(t, "plainly none", b)
		return false
	}
	wantBoth(t, x, b)
	return true
}

func plainNums(l []api.File) []uint32 {
	var nums []uint32
	for _, f := range l {
		nums = append(nums, f.Num)
	}
	return nums
}

// plainDo looks for each number in lists, and takes what is left level by level.
func plainDo(l []api.File, x api.Edit) ([]api.File, bool) {
	for _, f := range slices.Concat(l, x.Added) {
		if !plainlyValid(f) {
			return nil, false
		}
	}
	nums := plainNums(l)
	if slices.Sort(nums); len(slices.Compact(nums)) != len(l) {
		return nil, false
	}
	left := slices.Clone(l)
	for _, n := range x.Removed {
		at := slices.Index(plainNums(left), n)
		if at < 0 {
			return nil, false
		}
		left = slices.Delete(left, at, at+1)
	}
	left = append(left, x.Added...)
	unsorted := plainNums(left)
	nums = slices.Sorted(slices.Values(unsorted))
	if len(slices.Compact(nums)) != len(left) {
		return nil, false
	}
	var inOrder []api.File
	for level := range 4 {
		for _, n := range nums {
			if f := left[slices.Index(unsorted, n)]; f.Level == level {
				inOrder = append(inOrder, f)
			}
		}
	}
	return inOrder, true
}

// dice gives the same numbers at each run.
type dice uint64

func (s *dice) upTo(n int) int {
	*s = *s*6364136223846793005 + 1442695040888963407
	return int(uint64(*s>>33) % uint64(n))
}

func (s *dice) key() string {
	keys := []string{"a", "a\x00", "aa", "ab", "abc", "b", "ba", "\x00", "\xff", "\xff\xff", "é", of(31, 'k'), of(32, 'k'), of(31, 'k') + "l"}
	return keys[s.upTo(len(keys))]
}

// file has most often a low number: others have it, too.
func (s *dice) file() api.File {
	least, most := s.key(), s.key()
	if least > most {
		least, most = most, least
	}
	return api.File{Num: s.num(), Level: s.upTo(4), Least: least, Most: most}
}

func (s *dice) num() uint32 {
	if s.upTo(4) == 0 {
		return edgeNums()[s.upTo(len(edgeNums()))]
	}
	return uint32(s.upTo(30))
}

// files have different numbers.
func (s *dice) files(most int) []api.File {
	var l []api.File
	for range s.upTo(most + 1) {
		if f := s.file(); !slices.Contains(plainNums(l), f.Num) {
			l = append(l, f)
		}
	}
	return l
}

// edit removes files of l, most often.
func (s *dice) edit(l []api.File) api.Edit {
	x := api.Edit{Added: s.files(4), Journal: s.num(), Next: s.num(), Seq: edgeSeqs()[s.upTo(len(edgeSeqs()))]}
	nums := plainNums(l)
	for range s.upTo(4) {
		if s.upTo(20) == 0 || len(nums) == 0 {
			x.Removed = append(x.Removed, s.num())
			continue
		}
		at := s.upTo(len(nums))
		x.Removed = append(x.Removed, nums[at])
		nums = slices.Delete(nums, at, at+1)
	}
	return x
}

// spoiled are files of which one is wrong, or has another number.
func (s *dice) spoiled(l []api.File) []api.File {
	if len(l) == 0 {
		return badFiles()[:1]
	}
	l = slices.Clone(l)
	i, k := s.upTo(len(l)), s.upTo(len(l))
	switch s.upTo(3) {
	case 0:
		l[i] = badFiles()[s.upTo(len(badFiles()))]
	case 1:
		l[i].Num = l[k].Num
	case 2:
		l[i].Least, l[i].Most = l[i].Most, l[i].Least
	}
	return l
}

// damaged are bytes of which some were changed, cut out, doubled or added.
func (s *dice) damaged(b []byte) []byte {
	b = bytes.Clone(b)
	for range 1 + s.upTo(2) {
		i := s.upTo(len(b))
		k := i + s.upTo(min(8, len(b)-i)+1)
		switch s.upTo(5) {
		case 0:
			b[i] = byte(s.upTo(256))
		case 1:
			b[i] += byte(s.upTo(3)) - 1
		case 2:
			b = append(slices.Delete(b, i, k), 0, 1)
		case 3:
			b = slices.Insert(b, i, bytes.Clone(b[i:k])...)
		case 4:
			b = slices.Insert(b, i, byte(s.upTo(3)))
		}
	}
	return b
}

func wantDoAsPlain(t *testing.T, l []api.File, x api.Edit) (ok bool) {
	t.Helper()
	want, ok := plainDo(l, x)
	if ok {
		wantDo(t, l, x, want...)
	} else {
		wantNoDo(t, "plainly not", l, x)
	}
	return ok
}

func wantPutAsPlain(t *testing.T, x api.Edit) {
	t.Helper()
	for _, f := range x.Added {
		if !plainlyValid(f) {
			wantNoPut(t, "plainly not", x)
			return
		}
	}
	wantBoth(t, x, plainEdit(x))
}

func TestAgainstPlainEdits(t *testing.T) {
	done, right := 0, 0
	for seed := range 10000 {
		s := dice(seed)
		l := s.files(12)
		x := s.edit(l)
		wantPutAsPlain(t, x)
		if wantDoAsPlain(t, l, x) {
			done++
		}
		wantDoAsPlain(t, s.spoiled(l), x)
		if wantAsPlain(t, s.damaged(plainEdit(x))) {
			right++
		}
		x.Added = s.spoiled(x.Added)
		wantPutAsPlain(t, x)
		wantDoAsPlain(t, l, x)
		if t.Failed() {
			t.Fatalf("seed %d", seed)
		}
	}
	if done < 2000 || done > 8000 || right < 1000 {
		t.Errorf("%d edits were done, %d of the damaged ones were edits", done, right)
	}
}

// Edits one after another, from nothing on, as they come to be in a journal.
func TestHistories(t *testing.T) {
	for seed := range 200 {
		s := dice(seed)
		var l []api.File
		for range 50 {
			x := s.edit(l)
			b, _ := edits.Put(x)
			x, e := edits.Get(b)
			if e != api.OK {
				t.Fatalf("seed %d: %d", seed, e)
			}
			want, ok := plainDo(l, x)
			wantDoAsPlain(t, l, x)
			if ok {
				l = want
			}
		}
	}
}

// All strings of a few bytes are tried: short edits are among them, and all that looks like one. How many there must be was counted by the form, in another language.
func TestAllShortBytes(t *testing.T) {
	for _, c := range []struct{ bytes, longest, edits int }{{2, 16, 312}, {3, 12, 12744}} {
		found := 0
		for length := range c.longest + 1 {
			b := make([]byte, length)
			for more := true; more; more = next(b, byte(c.bytes)) {
				if wantAsPlain(t, b) {
					found++
				}
			}
			if t.Failed() {
				t.Fatalf("length %d", length)
			}
		}
		if found != c.edits {
			t.Errorf("%d edits of the bytes below %d; want %d", found, c.bytes, c.edits)
		}
	}
}

// next counts on, with bytes below a limit as digits.
func next(b []byte, limit byte) bool {
	for i := range b {
		if b[i]++; b[i] < limit {
			return true
		}
		b[i] = 0
	}
	return false
}
