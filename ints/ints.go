// Package ints is layer 1: integers and strings as bytes. See doc/01-ints.md.
package ints

import "bucketline/api"

// mostBytes is how many bytes of seven bits a number of 64 bits may need.
const mostBytes = 10

// Put appends a number as a varint. (P1.1)
func Put(b []byte, n uint64) []byte {
	return collect(b, varint(n)...)
}

// Get reads the varint that b begins with, and tells how many bytes it took. (P1.1)
func Get(b []byte) (n uint64, took int, e api.Errno) {
	read := varintReader()
	for i, c := range b[:min(len(b), mostBytes)] {
		sum, ends, ok := read(c)
		if !ok {
			return 0, 0, api.ErrForm
		}
		if ends {
			return sum, i + 1, api.OK
		}
	}
	if len(b) < mostBytes {
		return 0, 0, api.ErrShort
	}
	return 0, 0, api.ErrForm
}

// PutFour appends the four bytes of a number, the highest one first. (P1.2)
func PutFour(b []byte, n uint32) []byte {
	part := func(shift int) byte { return byte(n >> shift) }
	return collect(b, part(24), part(16), part(8), part(0))
}

// GetFour reads the number in the first four bytes of b. (P1.2)
func GetFour(b []byte) (uint32, api.Errno) {
	if len(b) < 4 {
		return 0, api.ErrShort
	}
	part := func(at, shift int) uint32 { return uint32(b[at]) << shift }
	return part(0, 24) | part(1, 16) | part(2, 8) | part(3, 0), api.OK
}

// PutText appends the length of a string, and its bytes. (P1.3)
func PutText(b []byte, s string) []byte {
	return collect(b, append(varint(uint64(len(s))), s...)...)
}

// GetText reads the string that b begins with, and tells how many bytes it took with its length. (P1.3)
func GetText(b []byte) (s string, took int, e api.Errno) {
	n, head, e := Get(b)
	if e != api.OK {
		return "", 0, e
	}
	rest := b[head:]
	// Compared as uint64: a length that is read may be greater than any int.
	if n > uint64(len(rest)) {
		return "", 0, api.ErrShort
	}
	return string(rest[:n]), head + int(n), api.OK
}

// collect copies even where b has room for more: a result shares no memory with an argument (R4).
func collect(b []byte, more ...byte) []byte {
	all := make([]byte, 0, len(b)+len(more))
	all = append(all, b...)
	return append(all, more...)
}

func varint(n uint64) []byte {
	next := varintWriter(n)
	all := make([]byte, 0, mostBytes)
	for {
		c, ends := next()
		all = append(all, c)
		if ends {
			return all
		}
	}
}

// varintWriter makes a function that tells the next byte of a varint at each call, and whether it is the last one.
func varintWriter(n uint64) func() (c byte, ends bool) {
	return func() (byte, bool) {
		low := byte(n & 127)
		n >>= 7
		if n == 0 {
			return low, true
		}
		return low | 128, false
	}
}

// varintReader makes a function that takes the next byte of a varint at each call. It tells the number so far, whether it ends here, and whether a number that Put writes may have this byte here.
func varintReader() func(c byte) (sum uint64, ends, ok bool) {
	var sum uint64
	shift := 0
	return func(c byte) (uint64, bool, bool) {
		part := uint64(c & 127)
		ends := c < 128
		fits := part<<shift>>shift == part
		needless := c == 0 && shift > 0
		sum |= part << shift
		shift += 7
		return sum, ends, fits && !needless
	}
}
