package order_test

import (
	"bytes"
	"encoding/binary"
	"math"
	"slices"
	"strings"
	"testing"

	"bucketline/api"
	"bucketline/order"
)

func mark(key string, seq uint64, gone bool) api.Mark {
	return api.Mark{Key: key, Seq: seq, Gone: gone}
}

func there(key string, seq uint64, value string) api.Entry {
	return api.Entry{Mark: mark(key, seq, false), Value: value}
}

func gone(key string, seq uint64) api.Entry {
	return api.Entry{Mark: mark(key, seq, true)}
}

// someKeys are those at the edges of their lengths, and of the values of a byte; two of them are invalid.
func someKeys() []string {
	return []string{"", "\x00", "\x00\x00", "\x00\xff", "A", "a", "a\x00", "aa", "ab", "b", "\x7f", "\x80", "é", "\xff", "\xff\x00", strings.Repeat("k", api.MaxKey-1), strings.Repeat("k", api.MaxKey), strings.Repeat("\xff", api.MaxKey), strings.Repeat("k", api.MaxKey+1)}
}

func someSeqs() []uint64 {
	return []uint64{0, 1, 4, 5, 127, 128, 300, math.MaxUint32, math.MaxInt64, math.MaxInt64 + 1, math.MaxUint64 - 1, math.MaxUint64}
}

// goodEntries are all read back.
func goodEntries() []api.Entry {
	values := []string{"", "v", "\x00", "\xff", "value", strings.Repeat("v", 127), strings.Repeat("v", 128), strings.Repeat("v", api.MaxValue-1), strings.Repeat("\x80", api.MaxValue)}
	var l []api.Entry
	for _, key := range someKeys() {
		if len(key) < 1 || len(key) > api.MaxKey {
			continue
		}
		for i, seq := range someSeqs() {
			l = append(l, gone(key, seq), there(key, seq, values[i%len(values)]))
		}
	}
	for _, value := range values {
		l = append(l, there("key", 7, value))
	}
	return l
}

// plainEntry follows the definition of the bytes of an entry by the library's means.
func plainEntry(x api.Entry) []byte {
	text := func(s string) []byte { return append(binary.AppendUvarint(nil, uint64(len(s))), s...) }
	b := binary.AppendUvarint(text(x.Key), x.Seq)
	if x.Gone {
		return append(b, 1)
	}
	return append(append(b, 0), text(x.Value)...)
}

func wantCmp(t *testing.T, a, b api.Mark, want int) {
	t.Helper()
	if got := order.Cmp(a, b); got != want {
		t.Errorf("Cmp(%v, %v) = %d; want %d", a, b, got, want)
	}
}

func wantPut(t *testing.T, b []byte, x api.Entry, want []byte) {
	t.Helper()
	if got := order.Put(b, x); !bytes.Equal(got, want) {
		t.Errorf("Put(%v, %v) = %v; want %v", b, x, got, want)
	}
}

func wantEntry(t *testing.T, b []byte, x api.Entry, took int) {
	t.Helper()
	if got, gotTook, e := order.Get(b); got != x || gotTook != took || e != api.OK {
		t.Errorf("Get(%q) = %v, %d, %d; want %v, %d, OK", b, got, gotTook, e, x, took)
	}
}

func wantError(t *testing.T, what, b string, e api.Errno) {
	t.Helper()
	if got, took, gotE := order.Get([]byte(b)); got != (api.Entry{}) || took != 0 || gotE != e {
		t.Errorf("%s: Get(%q) = %v, %d, %d; want none, 0, %d", what, b, got, took, gotE, e)
	}
}

// P4.1

func TestCheckExamples(t *testing.T) {
	for key, want := range map[string]bool{"": false, strings.Repeat("a", 32): true, strings.Repeat("a", 33): false} {
		if order.Check(key) != want {
			t.Errorf("Check(%q) = %t", key, !want)
		}
	}
}

func TestCheckOfAllLengths(t *testing.T) {
	for _, c := range []string{"\x00", "a", "\x80", "\xff"} {
		for many := range 300 {
			want := many >= 1 && many <= 32
			if order.Check(strings.Repeat(c, many)) != want {
				t.Errorf("Check(%d of %q) = %t", many, c, !want)
			}
		}
	}
	if order.Check(strings.Repeat("a", 1<<20)) {
		t.Error("a key of 2^20 bytes is valid")
	}
}

func TestCheckOfAnyBytes(t *testing.T) {
	for c := range 256 {
		if key := string([]byte{byte(c)}); !order.Check(key) {
			t.Errorf("Check(%q) = false", key)
		}
	}
}

// A key's length is that in bytes, not in characters.
func TestCheckCountsBytes(t *testing.T) {
	if !order.Check(strings.Repeat("é", 16)) {
		t.Error("16 characters of two bytes are not valid")
	}
	if order.Check(strings.Repeat("é", 17)) {
		t.Error("17 characters of two bytes are valid")
	}
}

// P4.2

func TestCmpExamples(t *testing.T) {
	wantCmp(t, mark("a", 5, false), mark("b", 9, false), -1)
	wantCmp(t, mark("a", 5, false), mark("a", 4, false), -1)
	wantCmp(t, mark("a", 5, false), mark("a", 5, true), 1)
	wantCmp(t, mark("a", 5, false), mark("aa", 9, false), -1)
	wantCmp(t, mark("a", 5, false), mark("a", 5, false), 0)
}

// inOrder are marks as P4.2 orders them.
func inOrder() []api.Mark {
	keys := someKeys()
	slices.SortFunc(keys, func(a, b string) int { return bytes.Compare([]byte(a), []byte(b)) })
	seqs := someSeqs()
	slices.Sort(seqs)
	slices.Reverse(seqs)
	var l []api.Mark
	for _, key := range keys {
		for _, seq := range seqs {
			l = append(l, mark(key, seq, true), mark(key, seq, false))
		}
	}
	return l
}

func TestCmpOfAllPairs(t *testing.T) {
	l := inOrder()
	for i, a := range l {
		for k, b := range l {
			switch {
			case i < k:
				wantCmp(t, a, b, -1)
			case i > k:
				wantCmp(t, a, b, 1)
			default:
				wantCmp(t, a, b, 0)
			}
		}
	}
}

// Each part counts only if those before it are equal.
func TestCmpTakesKeyThenSeqThenGone(t *testing.T) {
	for _, aGone := range []bool{false, true} {
		for _, bGone := range []bool{false, true} {
			wantCmp(t, mark("a", 0, aGone), mark("b", math.MaxUint64, bGone), -1)
			wantCmp(t, mark("a", math.MaxUint64, aGone), mark("b", 0, bGone), -1)
			wantCmp(t, mark("a", 2, aGone), mark("a", 1, bGone), -1)
			wantCmp(t, mark("a", 1, aGone), mark("a", 2, bGone), 1)
		}
	}
}

// A difference of numbers may have more than 63 bits.
func TestCmpOfFarSeqs(t *testing.T) {
	for _, great := range []uint64{math.MaxInt64, math.MaxInt64 + 1, math.MaxUint64} {
		wantCmp(t, mark("a", great, false), mark("a", 0, false), -1)
		wantCmp(t, mark("a", 0, false), mark("a", great, false), 1)
	}
	wantCmp(t, mark("a", math.MaxInt64+1, false), mark("a", math.MaxInt64, false), -1)
}

// P4.3

func TestPutExamples(t *testing.T) {
	wantPut(t, nil, there("a", 5, "v"), []byte{1, 'a', 5, 0, 1, 'v'})
	wantPut(t, []byte{7}, gone("a", 300), []byte{7, 1, 'a', 172, 2, 1})
}

func TestPutOfGoodEntries(t *testing.T) {
	for _, x := range goodEntries() {
		wantPut(t, nil, x, plainEntry(x))
		wantPut(t, []byte{}, x, plainEntry(x))
		wantPut(t, []byte{128, 0}, x, append([]byte{128, 0}, plainEntry(x)...))
	}
}

// Put takes entries that Get would not return, too.
func TestPutOfAnyEntry(t *testing.T) {
	long := strings.Repeat("l", 1000)
	for _, x := range []api.Entry{{}, gone("", 0), there("", 3, "v"), there(long, 3, "v"), gone(long, math.MaxUint64), there("a", 3, long), there("", 0, long)} {
		wantPut(t, []byte{9}, x, append([]byte{9}, plainEntry(x)...))
	}
}

func TestPutLeavesOutTheValueOfAGoneOne(t *testing.T) {
	for _, value := range []string{"v", strings.Repeat("v", 1000)} {
		x := gone("a", 1)
		x.Value = value
		wantPut(t, nil, x, []byte{1, 'a', 1, 1})
	}
}

func TestGetExamples(t *testing.T) {
	wantEntry(t, []byte{1, 'a', 5, 0, 1, 'v', 9}, there("a", 5, "v"), 6)
	wantError(t, "cut off", "\x01a\x05", api.ErrShort)
	wantError(t, "an empty key", "\x00\x05\x01", api.ErrForm)
	wantError(t, "a byte above 1", "\x01a\x05\x02", api.ErrForm)
}

func TestGetOfPlainEntries(t *testing.T) {
	for _, x := range goodEntries() {
		b := plainEntry(x)
		wantEntry(t, b, x, len(b))
	}
}

func TestGetOfKeys(t *testing.T) {
	long := strings.Repeat("k", api.MaxKey+1)
	wantError(t, "nothing", "", api.ErrShort)
	wantError(t, "a length without end", "\x80", api.ErrShort)
	wantError(t, "a needless byte of a length", "\x81\x00a\x05\x01", api.ErrForm)
	wantError(t, "a length of more than 64 bits", strings.Repeat("\xff", 12), api.ErrForm)
	wantError(t, "a short key", "\x02a", api.ErrShort)
	wantError(t, "the greatest length", strings.Repeat("\xff", 9)+"\x01a", api.ErrShort)
	wantError(t, "an empty key", "\x00\x05\x00\x00", api.ErrForm)
	wantError(t, "a long key", "\x21"+long+"\x05\x01", api.ErrForm)
	wantError(t, "a longer key", "\xac\x02"+strings.Repeat("k", 300)+"\x05\x01", api.ErrForm)
	// An invalid key comes before everything behind it, but not before its own end.
	wantError(t, "an empty key alone", "\x00", api.ErrForm)
	wantError(t, "a long key alone", "\x21"+long, api.ErrForm)
	wantError(t, "a long key cut off", "\x21"+long[1:], api.ErrShort)
	wantError(t, "an empty key, a wrong seq", "\x00\x80", api.ErrForm)
}

func TestGetOfSeqs(t *testing.T) {
	wantError(t, "no seq", "\x01a", api.ErrShort)
	wantError(t, "a seq without end", "\x01a\x80", api.ErrShort)
	wantError(t, "nine bytes without end", "\x01a"+strings.Repeat("\xff", 9), api.ErrShort)
	wantError(t, "ten bytes without end", "\x01a"+strings.Repeat("\xff", 10), api.ErrForm)
	wantError(t, "more than 64 bits", "\x01a"+strings.Repeat("\xff", 9)+"\x02\x01", api.ErrForm)
	wantError(t, "a needless byte", "\x01a\x85\x00\x01", api.ErrForm)
	// A wrong seq comes before the byte behind it.
	wantError(t, "a needless byte, nothing behind", "\x01a\x85\x00", api.ErrForm)
}

func TestGetOfTheByteBehindSeq(t *testing.T) {
	wantError(t, "no byte", "\x01a\x05", api.ErrShort)
	wantEntry(t, []byte("\x01a\x05\x01"), gone("a", 5), 4)
	wantEntry(t, []byte("\x01a\x05\x00\x00"), there("a", 5, ""), 5)
	for c := 2; c < 256; c++ {
		b := "\x01a\x05" + string([]byte{byte(c)})
		wantError(t, "a byte above 1", b, api.ErrForm)
		wantError(t, "a byte above 1, a value", b+"\x01v", api.ErrForm)
	}
}

func TestGetOfValues(t *testing.T) {
	longest := strings.Repeat("v", api.MaxValue)
	wantError(t, "no value", "\x01a\x05\x00", api.ErrShort)
	wantError(t, "a length without end", "\x01a\x05\x00\x80", api.ErrShort)
	wantError(t, "a needless byte", "\x01a\x05\x00\x81\x00v", api.ErrForm)
	wantError(t, "a short value", "\x01a\x05\x00\x02v", api.ErrShort)
	wantError(t, "the greatest length", "\x01a\x05\x00"+strings.Repeat("\xff", 9)+"\x01v", api.ErrShort)
	wantEntry(t, []byte("\x01a\x05\x00\x80\x02"+longest), there("a", 5, longest), 6+api.MaxValue)
	wantError(t, "one byte too long", "\x01a\x05\x00\x81\x02"+longest+"v", api.ErrForm)
	wantError(t, "one byte too long, cut off", "\x01a\x05\x00\x81\x02"+longest, api.ErrShort)
	wantError(t, "much too long", "\x01a\x05\x00\x80\x04"+longest+longest, api.ErrForm)
}

// What follows the byte of an entry that is gone is not its own, whatever it is.
func TestGetOfAGoneOneEndsThere(t *testing.T) {
	for _, after := range []string{"\x01v", "\x80", "\xff\xff", strings.Repeat("\xff", 12), "\x00", "\x02"} {
		wantEntry(t, []byte("\x01a\x05\x01"+after), gone("a", 5), 4)
	}
}

func TestGetCutAnywhere(t *testing.T) {
	for _, x := range goodEntries() {
		b := string(plainEntry(x))
		for many := range len(b) {
			wantError(t, "cut off", b[:many], api.ErrShort)
		}
	}
}

// P4.4

func TestOrderIsTotal(t *testing.T) {
	l := inOrder()
	for _, a := range l {
		for _, b := range l {
			n := order.Cmp(a, b)
			if (n == 0) != (a == b) {
				t.Errorf("Cmp(%v, %v) = %d", a, b, n)
			}
			wantCmp(t, b, a, -n)
		}
	}
}

// Sorting by Cmp gives one order, whatever the one before was.
func TestSortedByCmp(t *testing.T) {
	want := inOrder()
	for _, step := range []int{1, 5, 7, 11, 101} {
		var l []api.Mark
		for i := range want {
			l = append(l, want[i*step%len(want)])
		}
		slices.SortFunc(l, order.Cmp)
		if !slices.Equal(l, want) {
			t.Errorf("sorted from steps of %d: another order", step)
		}
	}
}

func TestReadBackWhateverSurrounds(t *testing.T) {
	for _, before := range []string{"", "\x80", "\x00", "before"} {
		for _, after := range []string{"", "\x80", "\x00", "after", strings.Repeat("\xff", 12)} {
			for _, x := range goodEntries() {
				b := order.Put([]byte(before), x)
				took := len(b) - len(before)
				wantEntry(t, append(b, after...)[len(before):], x, took)
			}
		}
	}
}

func TestReadBackOneAfterAnother(t *testing.T) {
	var b []byte
	for _, x := range goodEntries() {
		b = order.Put(b, x)
	}
	for _, x := range goodEntries() {
		got, took, e := order.Get(b)
		if got != x || e != api.OK {
			t.Fatalf("Get = %v, %d; want %v", got, e, x)
		}
		b = b[took:]
	}
	if len(b) != 0 {
		t.Errorf("%d bytes are left", len(b))
	}
}

// What Get takes is just what Put writes, whatever the bytes are.
func TestOnlyWhatPutWrites(t *testing.T) {
	seed, read := uint64(1), 0
	for range 200000 {
		seed = seed*6364136223846793005 + 1442695040888963407
		b := make([]byte, seed>>60)
		for i := range b {
			seed = seed*6364136223846793005 + 1442695040888963407
			b[i] = byte(seed>>56) & byte(seed>>48) & byte(seed>>40) & 0x83
		}
		x, took, e := order.Get(b)
		if e != api.OK {
			if x != (api.Entry{}) || took != 0 || e != api.ErrForm && e != api.ErrShort {
				t.Fatalf("Get(%v) = %v, %d, %d", b, x, took, e)
			}
			continue
		}
		read++
		wantPut(t, nil, x, b[:took])
	}
	if read < 1000 {
		t.Errorf("only %d of them were entries", read)
	}
}

// R4

func TestPutSharesNothing(t *testing.T) {
	for _, x := range []api.Entry{gone("a", 5), there("a", 5, ""), there("key", 300, "value")} {
		room := bytes.Repeat([]byte{9}, 40)
		first, second := order.Put(room[:3], x), order.Put(room[:3], x)
		want := append([]byte{9, 9, 9}, plainEntry(x)...)
		first = first[:cap(first)]
		for i := range first {
			first[i] ^= 255
		}
		if !bytes.Equal(room, bytes.Repeat([]byte{9}, 40)) {
			t.Error("the argument has changed")
		}
		clear(room)
		if !bytes.Equal(second, want) {
			t.Error("a result has changed with another one, or with the argument")
		}
	}
}

func TestGetSharesNothing(t *testing.T) {
	x := there("key", 300, "value")
	b := append(plainEntry(x), 1, 2, 3)
	was := bytes.Clone(b)
	got, _, _ := order.Get(b)
	if !bytes.Equal(b, was) {
		t.Error("the argument has changed")
	}
	clear(b)
	if got != x {
		t.Errorf("Get = %v; want it as it was read", got)
	}
}
