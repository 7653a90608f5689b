package journals

import (
	"iter"

	"bucketline/api"
	"bucketline/ints"
	"bucketline/sums"
)

// A part begins with its checksum, in four bytes, and goes on at these places.
const (
	lengthAt = 4
	kindAt   = 6
	dataAt   = 7
)

// leastRoom is what a block must have left for a part: with less, none of a record's bytes would fit into it.
const leastRoom = dataAt + 1

// Kinds of parts.
const (
	whole  = 1
	first  = 2
	middle = 3
	last   = 4
)

// part of a record, with its place in the file.
type part struct {
	at   int
	kind byte
	data []byte
}

func (p part) end() int {
	return p.at + dataAt + len(p.data)
}

// encoded returns a part as it stands in a file. The table is that of sums: it is passed on, as making it takes longer than a short part.
func (p part) encoded(t *[256]uint32) []byte {
	length := len(p.data)
	summed := append([]byte{p.kind}, p.data...)
	b := append(ints.PutFour(nil, sums.Of(t, summed)), byte(length>>8), byte(length))
	return append(b, summed...)
}

// parts visits the parts of a file, up to the first one that can't be read.
func parts(file []byte) iter.Seq[part] {
	return func(yield func(part) bool) {
		t, at := sums.Table(), 0
		for {
			p, ok := readPart(&t, file, nextPart(at))
			if !ok || !yield(p) {
				return
			}
			at = p.end()
		}
	}
}

// cut visits the parts of a record that is written behind so many bytes of a file.
func cut(length int, record []byte) iter.Seq[part] {
	return func(yield func(part) bool) {
		at, rest := nextPart(length), record
		for isFirst := true; ; isFirst = false {
			n := min(len(rest), roomAt(at)-dataAt)
			p := part{at: at, kind: kindOf(isFirst, n == len(rest)), data: rest[:n]}
			rest = rest[n:]
			if !yield(p) || len(rest) == 0 {
				return
			}
			// No room is left: a part that others follow fills its block.
			at = p.end()
		}
	}
}

// readPart reads the part at a place of a file, if it is there, whole and right, within its block.
func readPart(t *[256]uint32, file []byte, at int) (p part, ok bool) {
	blockEnd := at + roomAt(at)
	rest := file[min(at, len(file)):min(blockEnd, len(file))]
	if len(rest) < dataAt {
		return part{}, false
	}
	end := dataAt + int(rest[lengthAt])<<8 + int(rest[lengthAt+1])
	if len(rest) < end {
		return part{}, false
	}
	if sum, _ := ints.GetFour(rest); sum != sums.Of(t, rest[kindAt:end]) {
		return part{}, false
	}
	return part{at: at, kind: rest[kindAt], data: rest[dataAt:end]}, true
}

// nextPart returns where the part begins that follows so many bytes of a file.
func nextPart(length int) int {
	if room := roomAt(length); room < leastRoom {
		return length + room
	}
	return length
}

// roomAt returns how many bytes a block has from a place on.
func roomAt(at int) int {
	return api.Block - at%api.Block
}

func kindOf(isFirst, isLast bool) byte {
	switch {
	case isFirst && isLast:
		return whole
	case isFirst:
		return first
	case isLast:
		return last
	default:
		return middle
	}
}
