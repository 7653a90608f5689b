package sums_test

import (
	"bytes"
	"hash/crc32"
	"slices"
	"testing"

	"bucketline/sums"
)

// someBytes are scattered, and the same at each run.
func someBytes(many int, seed uint64) []byte {
	b := make([]byte, many)
	for i := range b {
		seed = seed*6364136223846793005 + 1442695040888963407
		b[i] = byte(seed >> 56)
	}
	return b
}

// oddTable is a table that no polynomial makes.
func oddTable() [256]uint32 {
	var t [256]uint32
	n := uint64(7)
	for i := range t {
		n = n*6364136223846793005 + 1442695040888963407
		t[i] = uint32(n >> 32)
	}
	return t
}

// slowOn follows the words of P2.2, a step a line.
func slowOn(t *[256]uint32, sum uint32, b []byte) uint32 {
	sum ^= 0xffffffff
	for _, c := range b {
		index := (sum & 255) ^ uint32(c)
		sum /= 256
		sum ^= t[index]
	}
	return sum ^ 0xffffffff
}

func wantSum(t *testing.T, what string, got, want uint32) {
	t.Helper()
	if got != want {
		t.Errorf("%s = %08x; want %08x", what, got, want)
	}
}

// invert returns a copy of b in which some bits are inverted: mask's lowest bit stands for the bit at, the next one for the bit behind that. Within a byte, bits follow each other as the checksum takes them, the lowest one first.
func invert(b []byte, at int, mask uint64) []byte {
	c := slices.Clone(b)
	for i := range 64 {
		if mask>>i&1 == 1 {
			c[(at+i)/8] ^= 1 << ((at + i) % 8)
		}
	}
	return c
}

// P2.1

func TestTableExamples(t *testing.T) {
	x := sums.Table()
	wantSum(t, "Table()[0]", x[0], 0)
	wantSum(t, "Table()[128]", x[128], 0x82f63b78)
	wantSum(t, "Table()[1]", x[1], 0xf26b8303)
	wantSum(t, "Table()[255]", x[255], 0xad7d5351)
}

func TestTableIsThatOfCastagnoli(t *testing.T) {
	if got, want := sums.Table(), *crc32.MakeTable(crc32.Castagnoli); got != [256]uint32(want) {
		t.Errorf("Table() = %08x; want %08x", got, want)
	}
}

func TestTableIsNewEachTime(t *testing.T) {
	x := sums.Table()
	clear(x[:])
	if y := sums.Table(); y == x {
		t.Error("a change to one table is seen in the next")
	}
}

// P2.2

func TestOfExamples(t *testing.T) {
	x := sums.Table()
	wantSum(t, "Of(nil)", sums.Of(&x, nil), 0)
	wantSum(t, "Of(empty)", sums.Of(&x, []byte{}), 0)
	wantSum(t, "Of(123456789)", sums.Of(&x, []byte("123456789")), 0xe3069283)
	wantSum(t, "Of(32 of 0)", sums.Of(&x, make([]byte, 32)), 0x8a9136aa)
	wantSum(t, "Of(32 of 255)", sums.Of(&x, bytes.Repeat([]byte{255}, 32)), 0x62a8ab43)
}

func TestOfIsCastagnoli(t *testing.T) {
	x := sums.Table()
	library := crc32.MakeTable(crc32.Castagnoli)
	for many := range 300 {
		b := someBytes(many, uint64(many))
		wantSum(t, "Of", sums.Of(&x, b), crc32.Checksum(b, library))
	}
	for c := range 256 {
		b := []byte{byte(c)}
		wantSum(t, "Of one byte", sums.Of(&x, b), crc32.Checksum(b, library))
	}
	b := someBytes(1<<20, 3)
	wantSum(t, "Of many bytes", sums.Of(&x, b), crc32.Checksum(b, library))
}

func TestOnWithAnyTable(t *testing.T) {
	zeros, odd := [256]uint32{}, oddTable()
	wantSum(t, "On(zeros, 5, ab)", sums.On(&zeros, 5, []byte("ab")), 4294901760)
	wantSum(t, "On(zeros, 5, nothing)", sums.On(&zeros, 5, nil), 5)
	wantSum(t, "On(odd, 2^32-1, nothing)", sums.On(&odd, 0xffffffff, nil), 0xffffffff)
	for many := range 300 {
		b := someBytes(many, uint64(many))
		sum := uint32(many) * 0x9e3779b9
		wantSum(t, "On(odd)", sums.On(&odd, sum, b), slowOn(&odd, sum, b))
		wantSum(t, "Of(odd)", sums.Of(&odd, b), slowOn(&odd, 0, b))
		wantSum(t, "Of(zeros)", sums.Of(&zeros, b), slowOn(&zeros, 0, b))
	}
}

func TestOnTakesTheEntryOfByteAndLowestBits(t *testing.T) {
	for c := range 256 {
		var one [256]uint32
		one[c^255] = 7
		wantSum(t, "Of(one entry)", sums.Of(&one, []byte{byte(c)}), ^(0x00ffffff ^ uint32(7)))
		wantSum(t, "On(one entry, all bits)", sums.On(&one, 0xffffffff, []byte{byte(c ^ 255)}), ^uint32(7))
	}
}

func TestWithoutTable(t *testing.T) {
	for _, b := range [][]byte{nil, {}, []byte("a"), someBytes(100, 1)} {
		wantSum(t, "Of(no table)", sums.Of(nil, b), 0)
		for _, sum := range []uint32{0, 1, 5, 0xffffffff} {
			wantSum(t, "On(no table)", sums.On(nil, sum, b), 0)
		}
	}
}

func TestArgumentsStay(t *testing.T) {
	x, odd := sums.Table(), oddTable()
	for _, table := range []*[256]uint32{&x, &odd} {
		before := *table
		room := someBytes(40, 5)
		was := slices.Clone(room)
		first := sums.On(table, 9, room[:20])
		if *table != before || !bytes.Equal(room, was) {
			t.Error("On has changed an argument")
		}
		wantSum(t, "On again", sums.On(table, 9, room[:20]), first)
	}
}

// P2.3

func TestSumOfBytesAndFurtherOnes(t *testing.T) {
	x, odd, zeros := sums.Table(), oddTable(), [256]uint32{}
	for _, table := range []*[256]uint32{&x, &odd, &zeros, nil} {
		for many := range 40 {
			b := someBytes(many, uint64(many))
			for cut := range many + 1 {
				got := sums.On(table, sums.Of(table, b[:cut]), b[cut:])
				wantSum(t, "On of the rest", got, sums.Of(table, b))
			}
		}
	}
}

func TestInvertedBitsAreSeen(t *testing.T) {
	x := sums.Table()
	for _, many := range []int{4, 5, 9, 64} {
		b := someBytes(many, uint64(many))
		want := sums.Of(&x, b)
		for length := 1; length <= 32; length++ {
			for at := 0; at+length <= 8*many; at++ {
				all := uint64(1)<<length - 1
				ends := uint64(1) | uint64(1)<<(length-1)
				mixed := ends | 0xa5c396f05a3c690f>>(at%32)&all
				for _, mask := range []uint64{all, ends, mixed} {
					if got := sums.Of(&x, invert(b, at, mask)); got == want {
						t.Errorf("%d bytes, bits %b at %d inverted: the same sum %08x", many, mask, at, got)
					}
				}
			}
		}
	}
}

// Bits may follow each other the highest one of a byte first as well.
func TestInvertedBitsAreSeenTheOtherWay(t *testing.T) {
	x := sums.Table()
	b := someBytes(64, 8)
	want := sums.Of(&x, b)
	for length := 1; length <= 32; length++ {
		for at := 0; at+length <= 8*len(b); at++ {
			c := slices.Clone(b)
			for i := at; i < at+length; i++ {
				c[i/8] ^= 128 >> (i % 8)
			}
			if got := sums.Of(&x, c); got == want {
				t.Errorf("%d bits at %d inverted: the same sum %08x", length, at, got)
			}
		}
	}
}
