package blocks_test

import (
	"bytes"
	"fmt"
	"math"
	"slices"
	"strconv"
	"strings"
	"testing"

	"bucketline/api"
	"bucketline/blocks"
)

func there(key string, seq uint64, value string) api.Entry {
	return api.Entry{Mark: api.Mark{Key: key, Seq: seq}, Value: value}
}

func gone(key string, seq uint64) api.Entry {
	return api.Entry{Mark: api.Mark{Key: key, Seq: seq, Gone: true}}
}

func of(many int, c byte) string {
	return strings.Repeat(string([]byte{c}), many)
}

func join(parts ...[]byte) []byte {
	return bytes.Join(parts, nil)
}

// told are entries in a few words.
func told(l []api.Entry) string {
	return fmt.Sprintf("%.300q", fmt.Sprint(l))
}

func wantPut(t *testing.T, l []api.Entry, want []byte) {
	t.Helper()
	if b, e := blocks.Put(l); !bytes.Equal(b, want) || e != api.OK {
		t.Errorf("Put(%s) = %.200q, %d; want %.200q", told(l), b, e, want)
	}
}

func wantNoPut(t *testing.T, what string, l []api.Entry) {
	t.Helper()
	if b, e := blocks.Put(l); len(b) != 0 || e != api.ErrArg {
		t.Errorf("%s: Put(%s) = %.200q, %d; want none, ErrArg", what, told(l), b, e)
	}
}

func wantGet(t *testing.T, b []byte, want []api.Entry) {
	t.Helper()
	if l, e := blocks.Get(b); !slices.Equal(l, want) || e != api.OK {
		t.Errorf("Get(%.200q) = %s, %d; want %s", b, told(l), e, told(want))
	}
}

func wantSeek(t *testing.T, b []byte, m api.Mark, want []api.Entry) {
	t.Helper()
	if l, e := blocks.Seek(b, m); !slices.Equal(l, want) || e != api.OK {
		t.Errorf("Seek(%.200q, %.60q %d gone %t) = %s, %d; want %s", b, m.Key, m.Seq, m.Gone, told(l), e, told(want))
	}
}

// wantNoBlock asks Get and Seek.
func wantNoBlock(t *testing.T, what string, b []byte) {
	t.Helper()
	if l, e := blocks.Get(b); len(l) != 0 || e != api.ErrForm {
		t.Errorf("%s: Get(%.200q) = %s, %d; want none, ErrForm", what, b, told(l), e)
	}
	for _, m := range []api.Mark{{}, {Key: "b", Seq: 1}, {Key: of(33, '\xff')}} {
		if l, e := blocks.Seek(b, m); len(l) != 0 || e != api.ErrForm {
			t.Errorf("%s: Seek(%.200q, %v) = %s, %d; want none, ErrForm", what, b, m, told(l), e)
		}
	}
}

// wantBoth are entries and the bytes of their block.
func wantBoth(t *testing.T, l []api.Entry, b []byte) {
	t.Helper()
	wantPut(t, l, b)
	wantGet(t, b, l)
}

// numbered are so many entries, that all share the beginning of their keys.
func numbered(many int) []api.Entry {
	var l []api.Entry
	for i := range many {
		x := there("k"+strconv.Itoa(100+i), uint64(i*i), of(i, 'v'))
		if i%5 == 3 {
			x = gone(x.Key, x.Seq)
		}
		l = append(l, x)
	}
	return l
}

// greatest is the longest block that there is.
func greatest() []api.Entry {
	var l []api.Entry
	for i := range 64 {
		l = append(l, there(string([]byte{byte(i)})+of(31, 'k'), math.MaxUint64, of(256, 'v')))
	}
	return l
}

// goodLists make blocks.
func goodLists() [][]api.Entry {
	l := [][]api.Entry{greatest(), inOrder()}
	for many := 1; many <= 64; many++ {
		l = append(l, numbered(many))
	}
	for _, x := range goodEntries() {
		l = append(l, []api.Entry{x})
	}
	return l
}

// goodEntries are at the edges of what is valid.
func goodEntries() []api.Entry {
	var l []api.Entry
	for _, key := range []string{"a", "\x00", "\xff", "é", of(31, 'k'), of(32, 'k'), of(32, '\xff')} {
		for _, seq := range []uint64{0, 1, 127, 128, 300, math.MaxInt64, math.MaxInt64 + 1, math.MaxUint64} {
			l = append(l, gone(key, seq))
			for _, value := range []string{"", "v", "\x00", "\xff\x01", of(127, 'v'), of(128, 'v'), of(255, 'v'), of(256, 'v')} {
				l = append(l, there(key, seq, value))
			}
		}
	}
	return l
}

// badEntries are not valid, at the edges and far from them.
func badEntries() []api.Entry {
	valued := gone("b", 1)
	valued.Value = "v"
	longValued := gone("b", 1)
	longValued.Value = of(257, 'v')
	return []api.Entry{{}, there("", 1, "v"), gone("", 1), there(of(33, 'b'), 1, "v"), gone(of(33, 'b'), 1), there(of(1<<16, 'b'), 1, "v"), there("b"+strings.Repeat("é", 16), 1, "v"), there("b", 1, of(257, 'v')), there("b", 1, of(1<<16, 'v')), there("b", 1, strings.Repeat("é", 129)), valued, longValued}
}

// inOrder are entries of which each neighbour differs in another way.
func inOrder() []api.Entry {
	return []api.Entry{there("\x00", 1, "v"), there("A", 1, ""), gone("a", math.MaxUint64), there("a", math.MaxUint64, "v"), there("a", 5, "wx"), gone("a", 4), there("a", 4, "v"), there("a", 0, "v"), gone("a\x00", 9), there("aa", 9, "v"), there("b", 0, ""), there("\x7f", 3, "v"), there("\x80", 3, "v"), there(of(31, '\xff'), 3, "v"), there(of(32, '\xff'), 3, of(256, 'v'))}
}

func TestExamples(t *testing.T) {
	l := []api.Entry{there("ab", 5, "v"), gone("abc", 9)}
	b := []byte{0, 2, 'a', 'b', 5, 0, 1, 'v', 2, 1, 'c', 9, 1, 0, 0, 0, 1}
	wantBoth(t, l, b)
	wantSeek(t, b, api.Mark{Key: "abc", Seq: 20}, l[1:])
	wantSeek(t, b, api.Mark{Key: "b"}, nil)
	wantNoPut(t, "none", nil)
	wantNoPut(t, "keys in the wrong order", []api.Entry{there("b", 1, "x"), there("a", 1, "x")})
	wantNoBlock(t, "0 0", []byte{0, 0})
	wantNoBlock(t, "one byte more", append(b, 0))
}

// P8.1

func TestOneEntry(t *testing.T) {
	for _, x := range goodEntries() {
		wantBoth(t, []api.Entry{x}, join(plainRow(0, x.Key, x), []byte{0, 0, 0, 1}))
	}
}

// Each fourth entry, from the first on, has its whole key and an offset; the others share with the one before.
func TestEveryFourthEntry(t *testing.T) {
	var l []api.Entry
	var b []byte
	var offsets []int
	for i := range 64 {
		x := there("key", uint64(1000-i), "v")
		l = append(l, x)
		if i%4 == 0 {
			offsets = append(offsets, len(b))
			b = append(b, plainRow(0, "key", x)...)
		} else {
			b = append(b, plainRow(3, "", x)...)
		}
		wantBoth(t, l, join(b, plainTail(offsets...)))
	}
	if len(offsets) != 16 {
		t.Errorf("%d offsets", len(offsets))
	}
}

func TestSharedPrefixes(t *testing.T) {
	k31 := of(31, 'k')
	for _, c := range []struct {
		before, key string
		shared      int
	}{{"a", "b", 0}, {"a", "ab", 1}, {"ab", "ac", 1}, {"abc", "abd", 2}, {"abc", "b", 0}, {"ab", "abcd", 2}, {"abab", "abb", 2}, {"a\x00", "a\x00\x00", 2}, {"\x00", "\x00\xff", 1}, {"\xfe\xff", "\xff\xff", 0}, {"é", "ê", 1}, {k31, k31 + "k", 31}, {k31 + "a", k31 + "b", 31}, {k31 + "\x00", k31 + "\xff", 31}, {"k", k31, 1}} {
		x, y := there(c.before, 1, "v"), there(c.key, 2, "w")
		wantBoth(t, []api.Entry{x, y}, join(plainRow(0, c.before, x), plainRow(uint64(c.shared), c.key[c.shared:], y), []byte{0, 0, 0, 1}))
	}
}

// Of the same key all is shared, also between an entry that is gone and one that is not.
func TestSharedKeys(t *testing.T) {
	wantBoth(t, []api.Entry{gone("abc", 9), there("abc", 9, "v"), gone("abc", 8)}, []byte("\x00\x03abc\x09\x01"+"\x03\x00\x09\x00\x01v"+"\x03\x00\x08\x01"+"\x00\x00\x00\x01"))
}

// A prefix is that of the key just before, not of the last whole one.
func TestSharedWithTheKeyBefore(t *testing.T) {
	wantBoth(t, []api.Entry{gone("abc", 1), gone("abd", 1), gone("abde", 1), gone("b", 1), gone("bc", 1), gone("bcd", 1)}, []byte("\x00\x03abc\x01\x01"+"\x02\x01d\x01\x01"+"\x03\x01e\x01\x01"+"\x00\x01b\x01\x01"+"\x00\x02bc\x01\x01"+"\x02\x01d\x01\x01"+"\x00\x00\x00\x16\x00\x02"))
}

// Offsets have two bytes, the higher one first.
func TestFarOffsets(t *testing.T) {
	l := greatest()
	b, e := blocks.Put(l)
	if e != api.OK || len(b) != 64*303+34 {
		t.Fatalf("Put = %d bytes, %d", len(b), e)
	}
	var offsets []int
	for i := 0; i < 64; i += 4 {
		offsets = append(offsets, 303*i)
	}
	if tail := b[64*303:]; !bytes.Equal(tail, plainTail(offsets...)) {
		t.Errorf("the offsets are %v", tail)
	}
	wantGet(t, b, l)
}

func TestPutOfGoodLists(t *testing.T) {
	for _, l := range goodLists() {
		wantBoth(t, l, plainBlock(l))
	}
}

func TestHowManyEntries(t *testing.T) {
	wantNoPut(t, "nil", nil)
	wantNoPut(t, "empty", []api.Entry{})
	for many := 1; many <= 64; many++ {
		wantPut(t, numbered(many), plainBlock(numbered(many)))
	}
	for _, many := range []int{65, 66, 68, 128, 256, 257, 1000} {
		wantNoPut(t, strconv.Itoa(many), numbered(many))
		wantNoBlock(t, strconv.Itoa(many), plainBlock(numbered(many)))
	}
	wantNoPut(t, "many", make([]api.Entry, 1<<16+1))
}

func TestEntriesThatAreNotValid(t *testing.T) {
	for _, bad := range badEntries() {
		wantNoPut(t, "alone", []api.Entry{bad})
		for at := range 6 {
			l := []api.Entry{there("a", 5, "v"), there("a", 4, "v"), there("a", 3, "v"), there("a", 2, "v"), there("a", 1, "v")}
			for i := at; i < len(l); i++ {
				l[i].Key = "c"
			}
			l = slices.Insert(l, at, bad)
			wantNoPut(t, "among others", l)
			// Of an entry that is gone the bytes don't tell a value.
			if !bad.Gone || len(bad.Key) != 1 {
				wantNoBlock(t, "among others", plainBlock(l))
			}
		}
	}
}

func TestEntriesThatAreNotAscending(t *testing.T) {
	good := inOrder()
	for i := range good {
		for k := range good[:i+1] {
			for _, l := range [][]api.Entry{{good[i], good[k]}, {good[0], good[i], good[k]}, {good[i], good[k], good[len(good)-1]}, slices.Concat(good[:i+1], good[k:])} {
				wantNoPut(t, "not ascending", l)
				wantNoBlock(t, "not ascending", plainBlock(l))
			}
		}
	}
}

// A mark stands once, whatever the values are.
func TestEqualMarks(t *testing.T) {
	for _, l := range [][]api.Entry{{there("a", 1, "v"), there("a", 1, "v")}, {there("a", 1, "v"), there("a", 1, "w")}, {there("a", 1, ""), there("a", 1, "v")}, {gone("a", 1), gone("a", 1)}, {there("a", 1, "v"), gone("a", 1)}, {there("a", 1, "v"), there("a", 2, "v")}} {
		wantNoPut(t, "equal or wrong marks", l)
		wantNoBlock(t, "equal or wrong marks", plainBlock(l))
	}
}

// Each pair of neighbours counts, also across the fourth one.
func TestEachPairOfNeighbours(t *testing.T) {
	for i := range 63 {
		l := numbered(64)
		l[i], l[i+1] = l[i+1], l[i]
		wantNoPut(t, "a pair in the wrong order", l)
		wantNoBlock(t, "a pair in the wrong order", plainBlock(l))
		l[i] = l[i+1]
		wantNoPut(t, "a pair of the same", l)
		wantNoBlock(t, "a pair of the same", plainBlock(l))
	}
}

func TestGetOfBytesForNoEntries(t *testing.T) {
	wantNoBlock(t, "nil", nil)
	b, _ := blocks.Put(nil)
	wantNoBlock(t, "what Put returns for none", b)
	wantNoBlock(t, "the form of none", plainBlock(nil))
	for c := range 256 {
		wantNoBlock(t, "one byte", []byte{byte(c)})
		for d := range 256 {
			wantNoBlock(t, "two bytes", []byte{byte(c), byte(d)})
		}
		for many := range 80 {
			wantNoBlock(t, "bytes of one kind", bytes.Repeat([]byte{byte(c)}, many))
		}
	}
	wantNoBlock(t, "the offset of no entry", plainTail(0))
	for many := range 40 {
		wantNoBlock(t, "offsets of no entries", plainTail(make([]int, many)...))
	}
}

func TestGetCutAnywhere(t *testing.T) {
	for _, l := range [][]api.Entry{{gone("a", 1)}, {there("a", 1, "")}, inOrder(), numbered(64)} {
		b := plainBlock(l)
		for many := range len(b) {
			wantNoBlock(t, "its end cut off", b[:many])
			if many > 0 {
				wantNoBlock(t, "its beginning cut off", b[many:])
			}
		}
	}
}

func TestGetWithSomeBehind(t *testing.T) {
	for _, l := range [][]api.Entry{{gone("a", 1)}, {there("a", 1, "")}, inOrder(), numbered(64)} {
		b := plainBlock(l)
		for c := range 256 {
			wantNoBlock(t, "one byte more", append(bytes.Clone(b), byte(c)))
		}
		for many := range 10 {
			wantNoBlock(t, "zeros behind", append(bytes.Clone(b), make([]byte, many+1)...))
		}
		wantNoBlock(t, "another one behind", join(b, b))
		wantNoBlock(t, "another count behind", join(b, []byte{0, 1}))
	}
}

// rows are blocks of one offset, made of parts as they stand.
func rows(parts ...string) []byte {
	return append([]byte(strings.Join(parts, "")), 0, 0, 0, 1)
}

func TestGetOfWrongPrefixes(t *testing.T) {
	first := "\x00\x02ab\x05\x01"
	wantGet(t, rows(first, "\x02\x01c\x05\x01"), []api.Entry{gone("ab", 5), gone("abc", 5)})
	wantNoBlock(t, "too short", rows(first, "\x01\x02bc\x05\x01"))
	wantNoBlock(t, "none", rows(first, "\x00\x03abc\x05\x01"))
	wantNoBlock(t, "too long", rows(first, "\x03\x01c\x05\x01"))
	wantNoBlock(t, "far too long", rows(first, of(9, '\xff')+"\x01\x01c\x05\x01"))
	wantNoBlock(t, "2^63", rows(first, of(9, '\x80')+"\x01\x01c\x05\x01"))
	wantNoBlock(t, "2^32", rows(first, "\x80\x80\x80\x80\x10\x01c\x05\x01"))
	wantNoBlock(t, "none for the same key", rows(first, "\x00\x02ab\x04\x01"))
	wantNoBlock(t, "all but one for the same key", rows(first, "\x01\x01b\x04\x01"))
	wantGet(t, rows(first, "\x02\x00\x04\x01"), []api.Entry{gone("ab", 5), gone("ab", 4)})
	wantNoBlock(t, "of no key", rows("\x01\x01a\x05\x01"))
	wantNoBlock(t, "a needless byte", rows(first, "\x82\x00\x01c\x05\x01"))
}

// The fourth one behind a whole key is whole again, with an offset, also if it shares a prefix.
func TestGetOfWrongWholeKeys(t *testing.T) {
	four := "\x00\x01a\x05\x01" + "\x01\x00\x04\x01" + "\x01\x00\x03\x01" + "\x01\x00\x02\x01"
	l := []api.Entry{gone("a", 5), gone("a", 4), gone("a", 3), gone("a", 2), gone("a", 1)}
	wantGet(t, join([]byte(four), plainTail(0)), l[:4])
	wantGet(t, join([]byte(four+"\x00\x01a\x01\x01"), plainTail(0, 17)), l)
	wantNoBlock(t, "the fifth one shares", join([]byte(four+"\x01\x00\x01\x01"), plainTail(0, 17)))
	wantNoBlock(t, "the fifth one shares, and has no offset", join([]byte(four+"\x01\x00\x01\x01"), plainTail(0)))
	wantNoBlock(t, "the fourth one is whole", join([]byte("\x00\x01a\x05\x01"+"\x01\x00\x04\x01"+"\x01\x00\x03\x01"+"\x00\x01a\x02\x01"), plainTail(0)))
	wantNoBlock(t, "the fourth one is whole, and has an offset", join([]byte("\x00\x01a\x05\x01"+"\x01\x00\x04\x01"+"\x01\x00\x03\x01"+"\x00\x01a\x02\x01"), plainTail(0, 13)))
}

func TestGetOfWrongKeys(t *testing.T) {
	wantNoBlock(t, "empty", rows("\x00\x00\x05\x01"))
	wantNoBlock(t, "empty, behind another", rows("\x00\x01a\x05\x01", "\x00\x00\x05\x01"))
	wantNoBlock(t, "33 bytes", rows("\x00\x21", of(33, 'k'), "\x05\x01"))
	wantNoBlock(t, "300 bytes", rows("\x00\xac\x02", of(300, 'k'), "\x05\x01"))
	wantNoBlock(t, "33 bytes, 32 of them shared", rows("\x00\x20", of(32, 'k'), "\x05\x01", "\x20\x01k\x05\x01"))
	wantNoBlock(t, "33 bytes, one of them shared", rows("\x00\x01k\x05\x01", "\x01\x20", of(32, 'k'), "\x05\x01"))
	wantGet(t, rows("\x00\x1f", of(31, 'k'), "\x05\x01", "\x1f\x01k\x05\x01"), []api.Entry{gone(of(31, 'k'), 5), gone(of(32, 'k'), 5)})
	wantNoBlock(t, "cut off by the offsets", rows("\x00\x02a"))
	wantNoBlock(t, "the greatest length", rows("\x00", of(9, '\xff'), "\x01a\x05\x01"))
	wantNoBlock(t, "a needless byte", rows("\x00\x81\x00a\x05\x01"))
}

func TestGetOfWrongNumbers(t *testing.T) {
	wantNoBlock(t, "none", rows("\x00\x01a"))
	wantNoBlock(t, "without end", rows("\x00\x01a\x85"))
	wantNoBlock(t, "a needless byte", rows("\x00\x01a\x85\x00\x01"))
	wantNoBlock(t, "more than 64 bits", rows("\x00\x01a", of(9, '\xff'), "\x02\x01"))
	wantNoBlock(t, "ten bytes without end", rows("\x00\x01a", of(10, '\xff'), "\x01"))
	wantGet(t, rows("\x00\x01a", of(9, '\xff'), "\x01\x01"), []api.Entry{gone("a", math.MaxUint64)})
}

func TestGetOfWrongStates(t *testing.T) {
	wantNoBlock(t, "none", rows("\x00\x01a\x05"))
	for c := 2; c < 256; c++ {
		state := string([]byte{byte(c)})
		wantNoBlock(t, "a byte above 1", rows("\x00\x01a\x05", state))
		wantNoBlock(t, "a byte above 1, a value", rows("\x00\x01a\x05", state, "\x01v"))
		wantNoBlock(t, "a byte above 1, a needless zero", rows("\x00\x01a\x05", state, "\x00"))
	}
	wantNoBlock(t, "a value of one that is gone", rows("\x00\x01a\x05\x01\x01v"))
	wantNoBlock(t, "an empty value of one that is gone", rows("\x00\x01a\x05\x01\x00"))
}

func TestGetOfWrongValues(t *testing.T) {
	wantNoBlock(t, "none", rows("\x00\x01a\x05\x00"))
	wantGet(t, rows("\x00\x01a\x05\x00\x00"), []api.Entry{there("a", 5, "")})
	wantNoBlock(t, "cut off by the offsets", rows("\x00\x01a\x05\x00\x02v"))
	wantNoBlock(t, "a needless byte", rows("\x00\x01a\x05\x00\x81\x00v"))
	wantNoBlock(t, "the greatest length", rows("\x00\x01a\x05\x00", of(9, '\xff'), "\x01v"))
	wantGet(t, rows("\x00\x01a\x05\x00\x80\x02", of(256, 'v')), []api.Entry{there("a", 5, of(256, 'v'))})
	wantNoBlock(t, "257 bytes", rows("\x00\x01a\x05\x00\x81\x02", of(257, 'v')))
	wantNoBlock(t, "5000 bytes", rows("\x00\x01a\x05\x00\x88\x27", of(5000, 'v')))
}

func TestGetOfWrongOffsets(t *testing.T) {
	l := numbered(9)
	b := plainBlock(l)
	body, tail := b[:len(b)-8], b[len(b)-8:]
	second, third := int(tail[2])<<8+int(tail[3]), int(tail[4])<<8+int(tail[5])
	wantGet(t, join(body, plainTail(0, second, third)), l)
	for _, offsets := range [][]int{nil, {0}, {0, second}, {second, third}, {0, third, second}, {0, 0, second, third}, {0, second, third, third}, {0, second, third, len(body)}, {0, second, second}, {1, second, third}, {0, second + 1, third}, {0, second - 1, third}, {0, second, third + 1}, {0, second, third + 256}, {0, second, third + 1<<15}, {0, second, 0}, {0, 0, 0}} {
		wantNoBlock(t, "wrong offsets", join(body, plainTail(offsets...)))
	}
	for count := range 1 << 16 {
		if count != 3 {
			wantNoBlock(t, "a wrong count", join(body, tail[:6], []byte{byte(count >> 8), byte(count)}))
		}
	}
	wantNoBlock(t, "the lower bytes first", join(body, []byte{0, 0, tail[3], tail[2], tail[5], tail[4], 3, 0}))
	wantNoBlock(t, "the count ahead of them", join(body, []byte{0, 3}, tail[:6]))
}

// Every byte of a block counts: with another one it is no block, or that of other entries.
func TestGetWithEachByteChanged(t *testing.T) {
	for _, l := range [][]api.Entry{inOrder()[:14], numbered(10)} {
		b := plainBlock(l)
		for i := range b {
			for c := 1; c < 256; c++ {
				other := bytes.Clone(b)
				other[i] ^= byte(c)
				if !wantAsPlain(t, other) {
					continue
				}
				if got, _ := blocks.Get(other); slices.Equal(got, l) {
					t.Errorf("byte %d changed by %d: the same entries", i, c)
				}
			}
		}
	}
}

// P8.2

func TestSeekFromEachMarkThatIsThere(t *testing.T) {
	for _, l := range goodLists() {
		b := plainBlock(l)
		for i, x := range l {
			wantSeek(t, b, x.Mark, l[i:])
		}
	}
}

// A mark may be any: between those that are there, or with a key that is not valid.
func TestSeekFromMarksThatAreNotThere(t *testing.T) {
	l := inOrder()
	b := plainBlock(l)
	at := func(m api.Mark, first int) {
		t.Helper()
		wantSeek(t, b, m, l[first:])
	}
	at(api.Mark{}, 0)
	at(api.Mark{Seq: math.MaxUint64, Gone: true}, 0)
	at(api.Mark{Key: "\x00", Seq: 2}, 0)
	at(api.Mark{Key: "\x00", Seq: 1, Gone: true}, 0)
	at(api.Mark{Key: "\x00"}, 1)
	at(api.Mark{Key: "a", Seq: 6}, 4)
	at(api.Mark{Key: "a", Seq: 5, Gone: true}, 4)
	at(api.Mark{Key: "a", Seq: 3}, 7)
	at(api.Mark{Key: "a", Seq: 0, Gone: true}, 7)
	at(api.Mark{Key: "a\x00", Seq: 9}, 9)
	at(api.Mark{Key: "aa", Seq: 9, Gone: true}, 9)
	at(api.Mark{Key: "aaa", Seq: math.MaxUint64}, 10)
	at(api.Mark{Key: "b", Seq: math.MaxUint64}, 10)
	at(api.Mark{Key: of(1<<16, 'b')}, 11)
	at(api.Mark{Key: of(32, '\xff'), Seq: 4}, 14)
	at(api.Mark{Key: of(32, '\xff'), Seq: 2}, 15)
	at(api.Mark{Key: of(33, '\xff'), Seq: math.MaxUint64, Gone: true}, 15)
}

// All marks around each entry of the longest list: with the next and the last number, and gone or not.
func TestSeekAroundEachMark(t *testing.T) {
	for _, l := range [][]api.Entry{numbered(64), greatest(), inOrder()} {
		b := plainBlock(l)
		for _, x := range l {
			for _, seq := range []uint64{0, x.Seq - 1, x.Seq, x.Seq + 1, math.MaxUint64} {
				for _, m := range []api.Mark{{Key: x.Key, Seq: seq}, {Key: x.Key, Seq: seq, Gone: true}, {Key: x.Key + "\x00", Seq: seq}, {Key: x.Key[:len(x.Key)-1], Seq: seq}} {
					wantSeek(t, b, m, plainFrom(l, m))
				}
			}
		}
	}
}

// P8.3

func TestReadBack(t *testing.T) {
	for _, l := range goodLists() {
		b, e := blocks.Put(l)
		if e != api.OK {
			t.Fatalf("Put(%s) = %d", told(l), e)
		}
		wantGet(t, b, l)
		wantSeek(t, b, api.Mark{}, l)
		got, _ := blocks.Get(b)
		wantPut(t, got, b)
	}
}

// R4

func TestPutKeepsToItsMemory(t *testing.T) {
	l := numbered(20)
	room := append(slices.Clone(l), there("room", 1, "room"))
	was := slices.Clone(room)
	first, _ := blocks.Put(room[:20])
	second, _ := blocks.Put(room[:20])
	first = first[:cap(first)]
	for i := range first {
		first[i] ^= 255
	}
	if !slices.Equal(room, was) {
		t.Error("the argument has changed")
	}
	clear(room)
	if !bytes.Equal(second, plainBlock(l)) {
		t.Error("a result has changed with another one, or with the argument")
	}
}

func TestReadingKeepsToItsMemory(t *testing.T) {
	l := numbered(20)
	for _, read := range []func(b []byte) ([]api.Entry, api.Errno){blocks.Get, func(b []byte) ([]api.Entry, api.Errno) { return blocks.Seek(b, l[0].Mark) }} {
		b := plainBlock(l)
		room := append(b, 1, 2, 3)
		was := bytes.Clone(room)
		first, _ := read(room[:len(b)])
		second, _ := read(room[:len(b)])
		first = first[:cap(first)]
		for i := range first {
			first[i] = there("changed", 1, "changed")
		}
		if !bytes.Equal(room, was) {
			t.Error("the argument has changed")
		}
		clear(room)
		if !slices.Equal(second, l) {
			t.Error("a result has changed with another one, or with the argument")
		}
	}
}

// R5

func TestSameAgain(t *testing.T) {
	l := inOrder()
	b := plainBlock(l)
	for range 3 {
		wantBoth(t, l, b)
		wantNoPut(t, "none", nil)
		wantNoBlock(t, "cut off", b[:len(b)-1])
		wantSeek(t, b, l[3].Mark, l[3:])
	}
}
