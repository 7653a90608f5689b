package edits

import (
	"math"

	"bucketline/api"
	"bucketline/ints"
)

// reader has the bytes that are not read yet. Once it is bad, what it returns means nothing.
type reader struct {
	rest []byte
	bad  bool
}

func (r *reader) edit() api.Edit {
	var x api.Edit
	x.Added = list(r, r.file)
	x.Removed = list(r, r.short)
	x.Journal = r.short()
	x.Next = r.short()
	x.Seq = r.number()
	return x
}

// list reads how many things there are, and then each of them.
func list[T any](r *reader, read func() T) []T {
	var l []T
	// The number may be far greater than what follows: only what was read takes memory.
	for range r.number() {
		x := read()
		if r.bad {
			return nil
		}
		l = append(l, x)
	}
	return l
}

func (r *reader) file() api.File {
	var f api.File
	f.Num = r.short()
	f.Level = int(r.upTo(api.MaxLevels - 1))
	f.Least = r.text()
	f.Most = r.text()
	r.bad = r.bad || !isValid(f)
	return f
}

// short reads a number of 32 bits.
func (r *reader) short() uint32 {
	return uint32(r.upTo(math.MaxUint32))
}

// upTo holds a number against the most that it may be before it is made one of a smaller type.
func (r *reader) upTo(most uint64) uint64 {
	n := r.number()
	r.bad = r.bad || n > most
	return n
}

func (r *reader) number() uint64 {
	n, took, e := ints.Get(r.rest)
	r.skip(took, e)
	return n
}

func (r *reader) text() string {
	s, took, e := ints.GetText(r.rest)
	r.skip(took, e)
	return s
}

func (r *reader) skip(took int, e api.Errno) {
	r.rest = r.rest[took:]
	r.bad = r.bad || e != api.OK
}
