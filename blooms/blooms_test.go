package blooms_test

import (
	"bytes"
	"slices"
	"strings"
	"testing"

	"bucketline/api"
	"bucketline/blooms"
)

// wantPut compares with the filter that was made in another way.
func wantPut(t *testing.T, keys []string) {
	t.Helper()
	if b, want := blooms.Put(keys), plainFilter(keys); !bytes.Equal(b, want) {
		t.Errorf("Put(%.200q) = %.200x; want %.200x", keys, b, want)
	}
}

func wantBytes(t *testing.T, keys []string, want ...byte) {
	t.Helper()
	if b := blooms.Put(keys); !bytes.Equal(b, want) {
		t.Errorf("Put(%.200q) = %d; want %d", keys, b, want)
	}
}

func wantMay(t *testing.T, b []byte, key string, want bool) {
	t.Helper()
	if is, e := blooms.May(b, key); is != want || e != api.OK {
		t.Errorf("May(%.200x, %.60q) = %t, %d; want %t", b, key, is, e, want)
	}
}

func wantNoFilter(t *testing.T, what string, b []byte) {
	t.Helper()
	for _, key := range []string{"", "a", "k", strings.Repeat("long", 100)} {
		if is, e := blooms.May(b, key); is || e != api.ErrForm {
			t.Errorf("%s: May(%.200x, %.60q) = %t, %d; want false, ErrForm", what, b, key, is, e)
		}
	}
}

func filled(many int, c byte) []byte {
	return bytes.Repeat([]byte{c}, many)
}

// withLast appends the last byte.
func withLast(b []byte, last byte) []byte {
	return append(bytes.Clone(b), last)
}

func TestExamples(t *testing.T) {
	wantLength(t, 0, 9)
	wantLength(t, 7, 10)
	wantLength(t, 8, 11)
	wantLength(t, 9, 13)
	wantMay(t, blooms.Put([]string{"a", "b"}), "a", true)
	wantMay(t, blooms.Put(nil), "a", false)
	wantNoFilter(t, "eight bytes", filled(8, 6))
	wantNoFilter(t, "nine of 0", filled(9, 0))
	wantMay(t, withLast(filled(8, 255), 6), "a", true)
}

// P9.1

func wantLength(t *testing.T, keys, want int) {
	t.Helper()
	for _, l := range [][]string{numbered(keys), make([]string, keys), slices.Repeat([]string{"a"}, keys)} {
		if b := blooms.Put(l); len(b) != want || b[len(b)-1] != 6 {
			t.Errorf("Put of %d keys has %d bytes, %x; want %d, the last one 6", keys, len(b), b, want)
		}
	}
}

func TestLengths(t *testing.T) {
	for keys, want := range map[int]int{0: 9, 1: 9, 5: 9, 6: 9, 7: 10, 8: 11, 9: 13, 10: 14, 11: 15, 12: 16, 13: 18, 16: 21, 17: 23, 100: 126, 4096: 5121} {
		wantLength(t, keys, want)
	}
	for keys := range 500 {
		wantLength(t, keys, plainSize(keys)+1)
	}
}

func TestNoKeys(t *testing.T) {
	wantBytes(t, nil, 0, 0, 0, 0, 0, 0, 0, 0, 6)
	wantBytes(t, []string{}, 0, 0, 0, 0, 0, 0, 0, 0, 6)
}

// The bytes here and in the next test come from a program in another language: 123456789 has the sums e3069283 and 31531e4c, an empty key 0 and a016d052.
func TestBitsOfFewKeys(t *testing.T) {
	wantBytes(t, []string{"123456789"}, 8, 128, 0, 8, 128, 0, 8, 128, 6) // 3, 15, 27, 39, 51, 63
	wantBytes(t, []string{""}, 1, 1, 4, 4, 16, 0, 64, 0, 6)              // 0, 18, 36, 54, 8, 26
	wantBytes(t, []string{"a"}, 0, 0, 1, 0, 0, 0, 1, 0, 6)               // 48 and 16, thrice each
	wantBytes(t, []string{"a", "b"}, 16, 0, 1, 0, 2, 129, 65, 32, 6)     // and 4, 61, 54, 47, 40, 33
}

// The remainder is that of 72 and of 96 bits, not of the 70 and 90 that the keys have; and the sum wraps round ahead of it, which matters here, other than for 64 bits.
func TestBitsBeyondTheLeast(t *testing.T) {
	keys := strings.Split("abcdefghi", "")
	wantBytes(t, keys[:7], 0, 156, 85, 89, 173, 185, 171, 173, 130, 6)
	wantBytes(t, keys, 170, 181, 147, 21, 140, 110, 65, 185, 153, 136, 165, 129, 6)
}

func TestExactlyThePositionsAreSet(t *testing.T) {
	for _, many := range []int{1, 2, 6, 7, 8, 9, 50, 1000} {
		for _, key := range append(oddKeys(), "b", "key") {
			b := blooms.Put(slices.Repeat([]string{key}, many))
			bits := plainBits(b[:len(b)-1])
			positions := plainPositions(key, uint64(len(bits)))
			for n, set := range bits {
				if want := slices.Contains(positions, uint64(n)); set != want {
					t.Errorf("Put(%d times %.60q): the bit %d is %t; want %t", many, key, n, set, want)
				}
			}
		}
	}
}

func TestPutReturnsNewMemory(t *testing.T) {
	for _, many := range []int{0, 6, 7, 9} {
		keys := numbered(many)
		was := slices.Clone(keys)
		first, second := blooms.Put(keys), blooms.Put(keys)
		want := bytes.Clone(second)
		clear(first[:cap(first)])
		if !bytes.Equal(second, want) || !bytes.Equal(blooms.Put(keys), want) {
			t.Errorf("a change to one filter of %d keys is seen in another", many)
		}
		if !slices.Equal(keys, was) {
			t.Errorf("Put has changed its keys to %q", keys)
		}
	}
}

// P9.2

func TestTooFewBytes(t *testing.T) {
	wantNoFilter(t, "nil", nil)
	for many := range 9 {
		for _, c := range []byte{0, 6, 255} {
			wantNoFilter(t, "few bytes", filled(many, c))
			if many > 0 {
				wantNoFilter(t, "few bytes, the last one 6", withLast(filled(many-1, c), 6))
			}
		}
	}
	b := blooms.Put([]string{"a"})
	for cut := range len(b) {
		wantNoFilter(t, "cut off", b[:cut])
	}
	wantMay(t, b, "a", true)
}

// What is behind the bytes, in their spare capacity, is none of them.
func TestSpareBytesDoNotCount(t *testing.T) {
	b := withLast(filled(8, 255), 6)
	wantNoFilter(t, "the last one is spare", b[:8])
	b = withLast(withLast(filled(8, 255), 6), 7)
	wantMay(t, b[:9], "a", true)
	wantNoFilter(t, "the last one is 7", b)
}

func TestLastByte(t *testing.T) {
	for _, many := range []int{8, 9, 10, 11, 12, 40, 200} {
		for last := range 256 {
			for _, c := range []byte{0, 6, 255} {
				b := withLast(filled(many, c), byte(last))
				if last != 6 {
					wantNoFilter(t, "another last byte", b)
				} else if c != 6 {
					wantMay(t, b, "a", c == 255)
				}
			}
		}
	}
	wantNoFilter(t, "6 as the first byte", append([]byte{6}, filled(8, 255)...))
	wantNoFilter(t, "6 as the last byte but one", append(filled(8, 255), 6, 0))
	wantNoFilter(t, "a filter, and one byte more", withLast(blooms.Put([]string{"a"}), 0))
}

// Also those of which Put returns none: with 11 whole bytes, or 14.
func TestMayTakesAnyLength(t *testing.T) {
	for many := 8; many < 100; many++ {
		for _, key := range oddKeys() {
			wantMay(t, withLast(filled(many, 255), 6), key, true)
			wantMay(t, withLast(filled(many, 0), 6), key, false)
		}
	}
}

func TestMayNeedsEachPosition(t *testing.T) {
	for _, many := range []int{8, 9, 10, 11, 12, 40, 1000, 70000} {
		for _, key := range append(oddKeys(), "a", "b", "key") {
			positions := plainPositions(key, uint64(8*many))
			only := make([]bool, 8*many)
			for _, n := range positions {
				only[n] = true
			}
			wantMay(t, plainBytes(only), key, true)
			for _, n := range positions {
				only[n] = false
				wantMay(t, plainBytes(only), key, false)
				only[n] = true
				wantMay(t, allBut(many, n), key, false)
			}
		}
	}
}

// allBut has all bits of so many bytes set, but one.
func allBut(many int, n uint64) []byte {
	b := withLast(filled(many, 255), 6)
	b[n/8] &^= 1 << (n % 8)
	return b
}

func TestMayNeedsNoOtherBit(t *testing.T) {
	for _, many := range []int{8, 9, 11, 40} {
		for _, key := range append(oddKeys(), "a", "b", "key") {
			positions := plainPositions(key, uint64(8*many))
			for n := range uint64(8 * many) {
				wantMay(t, allBut(many, n), key, !slices.Contains(positions, n))
			}
		}
	}
}

// From 2^29 bytes on the number of bits is more than fits into 32 bits: the sums themselves are the positions.
func TestMayOfVeryManyBits(t *testing.T) {
	// One array for all, of which few pages are ever touched.
	room := make([]byte, 1<<29+2)
	for _, many := range []int{1<<29 - 1, 1 << 29, 1<<29 + 1} {
		b := room[:many+1]
		b[many] = 6
		for _, key := range []string{"", "a", "b", "123456789", "key"} {
			positions := plainPositions(key, uint64(8*many))
			wantMayOfMany(t, b, key, false)
			for _, n := range positions {
				b[n/8] |= 1 << (n % 8)
			}
			wantMayOfMany(t, b, key, true)
			for _, n := range positions {
				b[n/8] = 0
				wantMayOfMany(t, b, key, false)
			}
		}
		b[many] = 0
	}
}

func wantMayOfMany(t *testing.T, b []byte, key string, want bool) {
	t.Helper()
	if is, e := blooms.May(b, key); is != want || e != api.OK {
		t.Errorf("May(%d bytes, %q) = %t, %d; want %t", len(b), key, is, e, want)
	}
}

func TestMayLeavesItsBytes(t *testing.T) {
	b := blooms.Put(numbered(20))
	was := bytes.Clone(b)
	for _, key := range append(oddKeys(), numbered(40)...) {
		first, _ := blooms.May(b, key)
		wantMay(t, b, key, first)
	}
	if !bytes.Equal(b, was) {
		t.Errorf("May has changed %x to %x", was, b)
	}
}

// P9.3

func TestEachKeyThatWasPut(t *testing.T) {
	lists := [][]string{oddKeys(), numbered(4096)}
	for many := range 120 {
		lists = append(lists, numbered(many))
	}
	for seed := range 300 {
		s := dice(seed)
		lists = append(lists, s.keys(s.upTo(60)))
	}
	for _, keys := range lists {
		b := blooms.Put(keys)
		for _, key := range keys {
			wantMay(t, b, key, true)
		}
	}
}

func TestOrderDoesNotMatter(t *testing.T) {
	for many := range 60 {
		keys := append(oddKeys(), numbered(many)...)[:max(many, 2)]
		want := blooms.Put(keys)
		turned := slices.Clone(keys)
		slices.Reverse(turned)
		wantBytes(t, turned, want...)
		for seed := range 5 {
			s := dice(seed)
			wantBytes(t, s.shuffled(keys), want...)
		}
	}
}

// Up to six keys there are 64 bits, however often each of them is there.
func TestKeyTwice(t *testing.T) {
	wantBytes(t, []string{"a", "a"}, blooms.Put([]string{"a"})...)
	wantBytes(t, []string{"a", "b", "a", "b", "b", "a"}, blooms.Put([]string{"a", "b"})...)
	wantBytes(t, []string{"", ""}, blooms.Put([]string{""})...)
	six, seven := numbered(6), numbered(7)
	wantPut(t, append(six, "key0"))
	if b := blooms.Put(append(six, "key0")); len(b) != 10 {
		t.Errorf("Put of six keys, one of them twice, has %d bytes; want 10", len(b))
	}
	// Which of them is there twice is not to be seen, nor which is there thrice.
	for _, keys := range [][]string{six, seven, numbered(30)} {
		twice := blooms.Put(append(slices.Clone(keys), keys[0]))
		thrice := blooms.Put(append(slices.Clone(keys), keys[0], keys[0]))
		for i, key := range keys {
			wantBytes(t, slices.Insert(slices.Clone(keys), i, key), twice...)
			wantBytes(t, append(slices.Clone(keys), key, keys[0]), thrice...)
			wantBytes(t, append([]string{key, key}, keys...), thrice...)
		}
	}
}
