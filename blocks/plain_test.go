package blocks_test

import (
	"bytes"
	"cmp"
	"encoding/binary"
	"math"
	"slices"
	"testing"

	"bucketline/api"
	"bucketline/blocks"
)

// plainText follows the form of strings by the library's means.
func plainText(s string) []byte {
	return append(binary.AppendUvarint(nil, uint64(len(s))), s...)
}

// plainRow is one entry in the form of a block, that says to share so many bytes of its key.
func plainRow(shared uint64, rest string, x api.Entry) []byte {
	b := append(binary.AppendUvarint(nil, shared), plainText(rest)...)
	b = binary.AppendUvarint(b, x.Seq)
	if x.Gone {
		return append(b, 1)
	}
	return append(append(b, 0), plainText(x.Value)...)
}

// plainTail has these numbers, in two bytes each, and how many there are.
func plainTail(offsets ...int) []byte {
	var b []byte
	for _, n := range append(slices.Clone(offsets), len(offsets)) {
		b = binary.BigEndian.AppendUint16(b, uint16(n))
	}
	return b
}

// plainShared compares ever longer prefixes, from none on.
func plainShared(a, b string) int {
	n := 0
	for n < len(a) && n < len(b) && a[:n+1] == b[:n+1] {
		n++
	}
	return n
}

// plainBlock is the form of any entries, also if they don't make a block.
func plainBlock(l []api.Entry) []byte {
	var b []byte
	var offsets []int
	for i, x := range l {
		n := 0
		if i%4 == 0 {
			offsets = append(offsets, len(b))
		} else {
			n = plainShared(l[i-1].Key, x.Key)
		}
		b = append(b, plainRow(uint64(n), x.Key[n:], x)...)
	}
	return append(b, plainTail(offsets...)...)
}

// plainCmp orders marks by the library's means.
func plainCmp(a, b api.Mark) int {
	return cmp.Or(cmp.Compare(a.Key, b.Key), cmp.Compare(b.Seq, a.Seq), cmp.Compare(living(a), living(b)))
}

func living(m api.Mark) int {
	if m.Gone {
		return 0
	}
	return 1
}

// plainMakes reports whether entries make a block.
func plainMakes(l []api.Entry) bool {
	for i, x := range l {
		switch {
		case len(x.Key) == 0, len(x.Key) > 32, len(x.Value) > 256, x.Gone && x.Value != "":
			return false
		case i > 0 && plainCmp(l[i-1].Mark, x.Mark) >= 0:
			return false
		}
	}
	return len(l) >= 1 && len(l) <= 64
}

// plainReader holds each part against the definition when it reads it, with no look at what Put returns.
type plainReader struct {
	b   []byte
	at  int
	bad bool
}

func (r *plainReader) number() uint64 {
	n, took := binary.Uvarint(r.b[r.at:])
	if took <= 0 || took > 1 && r.b[r.at+took-1] == 0 {
		r.bad = true
		return 0
	}
	r.at += took
	return n
}

func (r *plainReader) text(most int) string {
	n := r.number()
	if n > uint64(most) || n > uint64(len(r.b)-r.at) {
		r.bad = true
		return ""
	}
	r.at += int(n)
	return string(r.b[r.at-int(n) : r.at])
}

func (r *plainReader) state() byte {
	if r.at == len(r.b) || r.b[r.at] > 1 {
		r.bad = true
		return 0
	}
	r.at++
	return r.b[r.at-1]
}

// entry reads the one with that index.
func (r *plainReader) entry(i int, before string) (x api.Entry) {
	n := r.number()
	if n > uint64(len(before)) || i%4 == 0 && n != 0 {
		r.bad = true
		return x
	}
	x.Key = before[:n] + r.text(32)
	x.Seq = r.number()
	if x.Gone = r.state() == 1; !x.Gone {
		x.Value = r.text(256)
	}
	r.bad = r.bad || i%4 != 0 && plainShared(before, x.Key) != int(n)
	return x
}

// plainGet reads as many entries as there may be for the offsets, and holds these against their places.
func plainGet(b []byte) ([]api.Entry, bool) {
	if len(b) < 2 {
		return nil, false
	}
	many := int(binary.BigEndian.Uint16(b[len(b)-2:]))
	end := len(b) - 2 - 2*many
	if end < 0 || many > 16 {
		return nil, false
	}
	r := plainReader{b: b[:end]}
	var l []api.Entry
	var offsets []int
	for before := ""; r.at < end && !r.bad; before = l[len(l)-1].Key {
		if len(l)%4 == 0 {
			offsets = append(offsets, r.at)
		}
		l = append(l, r.entry(len(l), before))
	}
	if r.bad || !plainMakes(l) || !bytes.Equal(plainTail(offsets...), b[end:]) {
		return nil, false
	}
	return l, true
}

// dice gives the same numbers at each run.
type dice uint64

func (s *dice) upTo(n int) int {
	*s = *s*6364136223846793005 + 1442695040888963407
	return int(uint64(*s>>33) % uint64(n))
}

func (s *dice) key() string {
	keys := []string{"a", "a\x00", "aa", "aaa", "ab", "abc", "abd", "b", "ba", "\x00", "\xff", "\xff\xff", "é", "è", of(31, 'k'), of(32, 'k'), of(31, 'k') + "l"}
	return keys[s.upTo(len(keys))]
}

func (s *dice) mark() api.Mark {
	seqs := []uint64{0, 1, 2, 127, 128, 300, math.MaxInt64, math.MaxUint64}
	return api.Mark{Key: s.key(), Seq: seqs[s.upTo(len(seqs))], Gone: s.upTo(3) == 0}
}

func (s *dice) entry() api.Entry {
	values := []string{"", "v", "wx", "\x00\x01", of(127, 'v'), of(128, 'v'), of(256, 'v')}
	x := api.Entry{Mark: s.mark()}
	if !x.Gone {
		x.Value = values[s.upTo(len(values))]
	}
	return x
}

// entries make a block: at most so many.
func (s *dice) entries(most int) []api.Entry {
	l := []api.Entry{s.entry()}
	for range s.upTo(most) {
		l = append(l, s.entry())
	}
	slices.SortFunc(l, func(a, b api.Entry) int { return plainCmp(a.Mark, b.Mark) })
	return slices.CompactFunc(l, func(a, b api.Entry) bool { return a.Mark == b.Mark })
}

// spoiled are entries of which most often one is wrong, or in the wrong place.
func (s *dice) spoiled(l []api.Entry) []api.Entry {
	l = slices.Clone(l)
	i, k := s.upTo(len(l)), s.upTo(len(l))
	switch s.upTo(5) {
	case 0:
		l[i], l[k] = l[k], l[i]
	case 1:
		l[i] = l[k]
	case 2:
		l[i].Key = []string{"", of(33, 'k'), of(300, 'k')}[s.upTo(3)]
	case 3:
		l[i].Value = []string{"v", of(257, 'v'), of(5000, 'v')}[s.upTo(3)]
	case 4:
		l[i].Gone = !l[i].Gone
	}
	return l
}

// damaged are bytes of which some were changed, cut out, doubled or added.
func (s *dice) damaged(b []byte) []byte {
	b = bytes.Clone(b)
	for range 1 + s.upTo(2) {
		i := s.upTo(len(b))
		k := i + s.upTo(min(8, len(b)-i)+1)
		switch s.upTo(5) {
		case 0:
			b[i] = byte(s.upTo(256))
		case 1:
			b[i] += byte(s.upTo(3)) - 1
		case 2:
			b = append(slices.Delete(b, i, k), 0, 1)
		case 3:
			b = slices.Insert(b, i, bytes.Clone(b[i:k])...)
		case 4:
			b = slices.Insert(b, i, byte(s.upTo(3)))
		}
	}
	return b
}

func wantAsPlain(t *testing.T, b []byte) (ok bool) {
	t.Helper()
	l, ok := plainGet(b)
	if ok {
		wantGet(t, b, l)
	} else {
		wantNoBlock(t, "plainly none", b)
	}
	return ok
}

func TestAgainstPlainBlocks(t *testing.T) {
	right := 0
	for seed := range 5000 {
		s := dice(seed)
		l := s.entries(64)
		b := plainBlock(l)
		wantPut(t, l, b)
		wantGet(t, b, l)
		m := s.mark()
		wantSeek(t, b, m, plainFrom(l, m))
		if l = s.spoiled(l); plainMakes(l) {
			wantPut(t, l, plainBlock(l))
		} else {
			wantNoPut(t, "spoiled", l)
		}
		wantAsPlain(t, plainBlock(l))
		if wantAsPlain(t, s.damaged(b)) {
			right++
		}
		if t.Failed() {
			t.Fatalf("seed %d", seed)
		}
	}
	if right < 300 {
		t.Errorf("only %d of the damaged ones were blocks", right)
	}
}

// plainFrom asks of each entry whether it comes before a mark.
func plainFrom(l []api.Entry, m api.Mark) []api.Entry {
	var from []api.Entry
	for _, x := range l {
		if plainCmp(x.Mark, m) >= 0 {
			from = append(from, x)
		}
	}
	return from
}

// All strings of a few bytes are tried: short blocks are among them, and all that looks like one.
func TestAllShortBytes(t *testing.T) {
	for _, c := range []struct{ bytes, longest, blocks int }{{2, 17, 300}, {3, 12, 261}} {
		found := 0
		for length := range c.longest + 1 {
			b := make([]byte, length)
			for more := true; more; more = next(b, byte(c.bytes)) {
				if wantAsPlain(t, b) {
					found++
				}
			}
			if t.Failed() {
				t.Fatalf("length %d", length)
			}
		}
		if found != c.blocks {
			t.Errorf("%d blocks of the bytes below %d; want %d", found, c.bytes, c.blocks)
		}
	}
}

// next counts on, with bytes below a limit as digits.
func next(b []byte, limit byte) bool {
	for i := range b {
		if b[i]++; b[i] < limit {
			return true
		}
		b[i] = 0
	}
	return false
}

// What is read is put again as it was, whatever the bytes are.
func TestOnlyWhatPutReturns(t *testing.T) {
	for seed := range 20000 {
		s := dice(seed)
		b := s.damaged(plainBlock(s.entries(8)))
		if l, e := blocks.Get(b); e == api.OK {
			wantPut(t, l, b)
		}
	}
}
