package blooms_test

import (
	"bytes"
	"hash/crc32"
	"math/big"
	"strconv"
	"strings"
	"testing"

	"bucketline/api"
	"bucketline/blooms"
)

// plainPositions follows the words of the chapter with numbers that never wrap round, and the library's checksum.
func plainPositions(key string, bits uint64) []uint64 {
	table := crc32.MakeTable(crc32.Castagnoli)
	x := new(big.Int).SetUint64(uint64(crc32.Checksum([]byte(key), table)))
	y := new(big.Int).SetUint64(uint64(crc32.Checksum([]byte(key+"\x01"), table)))
	var l []uint64
	for i := range int64(6) {
		n := new(big.Int).Mul(big.NewInt(i), y)
		n.Add(n, x)
		n.Mod(n, new(big.Int).Lsh(big.NewInt(1), 32))
		n.Mod(n, new(big.Int).SetUint64(bits))
		l = append(l, n.Uint64())
	}
	return l
}

// plainSize tries ever more bytes, until there are enough bits.
func plainSize(keys int) int {
	size := 0
	for 8*size < 64 || 8*size < 10*keys {
		size++
	}
	return size
}

// plainBytes packs bits, written down one by one, and ends them with a 6.
func plainBytes(bits []bool) []byte {
	var b []byte
	for len(bits) > 0 {
		c, value := 0, 1
		for _, set := range bits[:8] {
			if set {
				c += value
			}
			value *= 2
		}
		b, bits = append(b, byte(c)), bits[8:]
	}
	return append(b, 6)
}

func plainBits(b []byte) []bool {
	var bits []bool
	for _, c := range b {
		for range 8 {
			bits, c = append(bits, c%2 == 1), c/2
		}
	}
	return bits
}

func plainFilter(keys []string) []byte {
	bits := make([]bool, 8*plainSize(len(keys)))
	for _, key := range keys {
		for _, n := range plainPositions(key, uint64(len(bits))) {
			bits[n] = true
		}
	}
	return plainBytes(bits)
}

func plainMay(b []byte, key string) (bool, api.Errno) {
	if len(b) < 9 || b[len(b)-1] != 6 {
		return false, api.ErrForm
	}
	bits := plainBits(b[:len(b)-1])
	for _, n := range plainPositions(key, uint64(len(bits))) {
		if !bits[n] {
			return false, api.OK
		}
	}
	return true, api.OK
}

// dice gives the same numbers at each run.
type dice uint64

func (s *dice) upTo(n int) int {
	*s = *s*6364136223846793005 + 1442695040888963407
	return int(uint64(*s>>33) % uint64(n))
}

// bytes are so many, with more or with fewer bits set.
func (s *dice) bytes(many int) []byte {
	b := make([]byte, many)
	often := 1 + s.upTo(20)
	for i := range b {
		for n := range 8 {
			if s.upTo(often) == 0 {
				b[i] |= 1 << n
			}
		}
		if often > 10 {
			b[i] ^= 255
		}
	}
	return b
}

func (s *dice) key() string {
	return string(s.bytes(s.upTo(40)))
}

func (s *dice) keys(many int) []string {
	var l []string
	for range many {
		l = append(l, s.key())
	}
	return l
}

// shuffled are the same keys in another order.
func (s *dice) shuffled(keys []string) []string {
	var l []string
	for _, key := range keys {
		i := s.upTo(len(l) + 1)
		l = append(l, key)
		l[i], l[len(l)-1] = l[len(l)-1], l[i]
	}
	return l
}

// oddKeys are no keys of rows, or at the edges of those.
func oddKeys() []string {
	return []string{"", "\x00", "\x01", "\x01\x01", "a\x01", "a\x00", "\xff", "\xff\xfe\x80", "é", "123456789", strings.Repeat("k", 32), strings.Repeat("k", 33), strings.Repeat("\xff", 300), strings.Repeat("long", 5000)}
}

// numbered are so many different keys.
func numbered(many int) []string {
	var l []string
	for i := range many {
		l = append(l, "key"+strconv.Itoa(i))
	}
	return l
}

func TestPutAgainstPlainFilters(t *testing.T) {
	for seed := range 2000 {
		s := dice(seed)
		wantPut(t, s.keys(s.upTo(30)))
	}
	for many := range 300 {
		wantPut(t, numbered(many))
	}
	wantPut(t, numbered(4096))
	for _, key := range oddKeys() {
		wantPut(t, []string{key})
	}
	wantPut(t, oddKeys())
}

func TestMayAgainstPlainFilters(t *testing.T) {
	asked := map[bool]int{}
	for seed := range 5000 {
		s := dice(seed)
		b := append(s.bytes(8+s.upTo(60)), 6)
		for _, key := range append(s.keys(5), oddKeys()[s.upTo(len(oddKeys()))]) {
			want, _ := plainMay(b, key)
			asked[want]++
			wantMay(t, b, key, want)
		}
		if t.Failed() {
			t.Fatalf("seed %d", seed)
		}
	}
	if asked[true] < 1000 || asked[false] < 1000 {
		t.Errorf("too few of one kind: %v", asked)
	}
}

// Most of these are no filters: they are too short, or end with another byte.
func TestMayOfAnyBytes(t *testing.T) {
	for seed := range 5000 {
		s := dice(seed)
		b, key := s.bytes(s.upTo(20)), s.key()
		if len(b) > 0 && s.upTo(2) == 0 {
			b[len(b)-1] = 6
		}
		want, e := plainMay(b, key)
		before := bytes.Clone(b)
		if is, got := blooms.May(b, key); is != want || got != e || !bytes.Equal(b, before) {
			t.Fatalf("May(%x, %q) = %t, %d; want %t, %d", before, key, is, got, want, e)
		}
	}
}
