package blocks

import (
	"bucketline/api"
	"bucketline/ints"
	"bucketline/order"
)

// isGone is the byte of an entry that no value follows; isThere the one ahead of a value.
const (
	isThere = 0
	isGone  = 1
)

// decoded returns the entries in the bytes of a block, if they can be read; whether they make one is not told.
func decoded(b []byte) ([]api.Entry, bool) {
	r := bodyOf(b)
	var l []api.Entry
	key := ""
	// One too many is enough to tell that they don't make a block.
	for !r.bad && len(r.rest) > 0 && len(l) <= mostEntries {
		x := r.entry(key)
		l, key = append(l, x), x.Key
	}
	return l, !r.bad
}

// bodyOf makes a reader of the bytes ahead of the offsets.
func bodyOf(b []byte) reader {
	countAt := len(b) - offsetSize
	if countAt < 0 {
		return reader{bad: true}
	}
	count := int(b[countAt])<<8 | int(b[countAt+1])
	end := countAt - offsetSize*count
	if end < 0 {
		return reader{bad: true}
	}
	return reader{rest: b[:end:end]}
}

// reader has the bytes that are not read yet. Once it is bad, what it returns means nothing.
type reader struct {
	rest []byte
	bad  bool
}

func (r *reader) entry(before string) api.Entry {
	var x api.Entry
	x.Key = r.key(before)
	x.Seq = r.number()
	x.Gone = r.state() == isGone
	if !x.Gone {
		x.Value = r.text()
	}
	return x
}

// key refuses one that is not valid at once: else keys could grow with each entry, beyond the bytes that are read.
func (r *reader) key(before string) string {
	shared, rest := r.number(), r.text()
	// Compared as uint64: a length that is read may be greater than any int.
	if shared > uint64(len(before)) {
		r.bad = true
		return ""
	}
	key := before[:shared] + rest
	r.bad = r.bad || !order.Check(key)
	return key
}

func (r *reader) state() byte {
	if len(r.rest) == 0 || r.rest[0] > isGone {
		r.bad = true
		return isThere
	}
	c := r.rest[0]
	r.skip(1)
	return c
}

func (r *reader) number() uint64 {
	n, took, e := ints.Get(r.rest)
	r.skip(took)
	r.bad = r.bad || e != api.OK
	return n
}

func (r *reader) text() string {
	s, took, e := ints.GetText(r.rest)
	r.skip(took)
	r.bad = r.bad || e != api.OK
	return s
}

func (r *reader) skip(took int) {
	end := len(r.rest)
	r.rest = r.rest[took:end:end]
}
