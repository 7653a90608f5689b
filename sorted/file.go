package sorted

import (
	"iter"
	"slices"

	"bucketline/api"
	"bucketline/blocks"
	"bucketline/blooms"
	"bucketline/frames"
	"bucketline/ints"
)

const (
	perBlock = 16
	// tailSize is that of the three numbers behind the frames.
	tailSize = 12
)

// file has the parts of a file, of which the frames of its blocks come first.
type file struct {
	index
	blocks []byte
	keys   []string
	many   int
}

// index tells of each block where its frame begins, and the mark of its last entry.
type index struct {
	rows []row
}

type row struct {
	offset int
	last   api.Mark
}

// fileOf takes entries that are ascending, as many as a file may have.
func fileOf(l []api.Entry) *file {
	f := &file{many: len(l)}
	for part := range slices.Chunk(l, perBlock) {
		f.add(part)
	}
	return f
}

// add appends the entries of one block.
func (f *file) add(l []api.Entry) {
	f.note(len(f.blocks), l[len(l)-1].Mark)
	block, _ := blocks.Put(l)
	f.blocks = append(f.blocks, framed(block)...)
	for _, x := range l {
		// Entries of the same key are neighbours.
		if n := len(f.keys); n == 0 || f.keys[n-1] != x.Key {
			f.keys = append(f.keys, x.Key)
		}
	}
}

// joined returns the bytes of the file.
func (f *file) joined() []byte {
	rows, filter := framed(f.index.encoded()), framed(blooms.Put(f.keys))
	rowsAt := len(f.blocks)
	filterAt := rowsAt + len(rows)
	return slices.Concat(f.blocks, rows, filter, four(rowsAt), four(filterAt), four(f.many))
}

func (x *index) note(offset int, last api.Mark) {
	x.rows = append(x.rows, row{offset: offset, last: last})
}

// encoded returns the bytes of the index.
func (x *index) encoded() []byte {
	b := ints.Put(nil, uint64(len(x.rows)))
	for _, r := range x.rows {
		b = append(b, ints.Put(nil, uint64(r.offset))...)
		b = append(b, encodedMark(r.last)...)
	}
	return b
}

func encodedMark(m api.Mark) []byte {
	b := ints.Put(ints.PutText(nil, m.Key), m.Seq)
	if m.Gone {
		return append(b, 1)
	}
	return append(b, 0)
}

// framed takes a part of a file: none of them is too long for a frame.
func framed(part []byte) []byte {
	frame, _ := frames.Put(part)
	return frame
}

func four(n int) []byte {
	return ints.PutFour(nil, uint32(n))
}

// entriesIn returns the entries in the blocks of a file, as far as they can be read; whether these bytes are one is not told.
func entriesIn(b []byte) []api.Entry {
	var l []api.Entry
	for block := range blocksIn(b) {
		part, e := blocks.Get(block)
		// One too many is enough to tell that it is no file.
		if e != api.OK || len(l) > api.MaxRows {
			break
		}
		l = append(l, part...)
	}
	return l
}

// blocksIn goes through the blocks of a file, as far as their frames are right.
func blocksIn(b []byte) iter.Seq[[]byte] {
	return func(yield func([]byte) bool) {
		rest := blockFrames(b)
		for {
			block, took, e := frames.Get(rest)
			if e != api.OK || !yield(block) {
				return
			}
			rest = rest[took:len(rest):len(rest)]
		}
	}
}

// blockFrames returns what comes before the index.
func blockFrames(b []byte) []byte {
	tail := len(b) - tailSize
	if tail < 0 {
		return nil
	}
	end, _ := ints.GetFour(b[tail:])
	// Compared as uint64: what is read may be greater than an int is on some machines.
	if uint64(end) > uint64(tail) {
		return nil
	}
	return b[:end:end]
}
