package sorted_test

import (
	"bytes"
	"cmp"
	"encoding/binary"
	"hash/crc32"
	"math"
	"slices"
	"strconv"
	"testing"

	"bucketline/api"
	"bucketline/blocks"
	"bucketline/blooms"
	"bucketline/sorted"
)

// plainText follows the form of strings by the library's means.
func plainText(s string) []byte {
	return append(binary.AppendUvarint(nil, uint64(len(s))), s...)
}

// plainFrame follows the form of frames by the library's means.
func plainFrame(record []byte) []byte {
	length := binary.BigEndian.AppendUint32(nil, uint32(len(record)))
	sum := crc32.Checksum(join(length, record), crc32.MakeTable(crc32.Castagnoli))
	return join(length, binary.BigEndian.AppendUint32(nil, sum), record)
}

// plainBlock is the form of any entries, also if they don't make a block.
func plainBlock(l []api.Entry) []byte {
	var b, offsets []byte
	for i, x := range l {
		n := 0
		if i%4 == 0 {
			offsets = binary.BigEndian.AppendUint16(offsets, uint16(len(b)))
		} else {
			for n < len(x.Key) && n < len(l[i-1].Key) && x.Key[n] == l[i-1].Key[n] {
				n++
			}
		}
		b = join(binary.AppendUvarint(b, uint64(n)), plainText(x.Key[n:]), binary.AppendUvarint(nil, x.Seq))
		if x.Gone {
			b = append(b, 1)
		} else {
			b = join(b, []byte{0}, plainText(x.Value))
		}
	}
	return join(b, offsets, []byte{0, byte(len(offsets) / 2)})
}

// pieces are what a file is made of: a test may change them one by one, and join them to frames that are well made.
type pieces struct {
	blocks [][]byte
	rows   [][]byte // of the index
	count  []byte   // ahead of these
	filter []byte
	many   uint32
}

// plainRow is what an index says of one block.
func plainRow(offset uint64, last api.Mark) []byte {
	b := join(binary.AppendUvarint(nil, offset), plainText(last.Key), binary.AppendUvarint(nil, last.Seq))
	return append(b, byte(1-living(last)))
}

// piecesOf cuts entries into blocks of these sizes, of which the last one is that of all further ones.
func piecesOf(l []api.Entry, sizes ...int) pieces {
	p := pieces{many: uint32(len(l)), filter: blooms.Put(plainKeys(l))}
	offset := 0
	for len(l) > 0 {
		n := min(sizes[0], len(l))
		p.blocks = append(p.blocks, plainBlock(l[:n]))
		p.rows = append(p.rows, plainRow(uint64(offset), l[n-1].Mark))
		offset += len(plainFrame(plainBlock(l[:n])))
		l = l[n:]
		if len(sizes) > 1 {
			sizes = sizes[1:]
		}
	}
	p.count = binary.AppendUvarint(nil, uint64(len(p.rows)))
	return p
}

// plainKeys sorts the keys, however often each of them is there.
func plainKeys(l []api.Entry) []string {
	var keys []string
	for _, x := range l {
		keys = append(keys, x.Key)
	}
	slices.Sort(keys)
	return slices.Compact(keys)
}

func (p pieces) index() []byte {
	return join(p.count, join(p.rows...))
}

func (p pieces) framedBlocks() []byte {
	var b []byte
	for _, block := range p.blocks {
		b = append(b, plainFrame(block)...)
	}
	return b
}

// file joins the pieces: the numbers at its end are those of the frames.
func (p pieces) file() []byte {
	b := p.framedBlocks()
	indexAt := len(b)
	b = append(b, plainFrame(p.index())...)
	filterAt := len(b)
	b = append(b, plainFrame(p.filter)...)
	return append(b, plainTail(uint32(indexAt), uint32(filterAt), p.many)...)
}

func plainTail(numbers ...uint32) []byte {
	var b []byte
	for _, n := range numbers {
		b = binary.BigEndian.AppendUint32(b, n)
	}
	return b
}

func plainFile(l []api.Entry) []byte {
	return piecesOf(l, 16).file()
}

// plainCmp orders marks by the library's means.
func plainCmp(a, b api.Mark) int {
	return cmp.Or(cmp.Compare(a.Key, b.Key), cmp.Compare(b.Seq, a.Seq), cmp.Compare(living(a), living(b)))
}

func living(m api.Mark) int {
	if m.Gone {
		return 0
	}
	return 1
}

// plainPut tells the error alone.
func plainPut(l []api.Entry) api.Errno {
	for i, x := range l {
		switch {
		case len(x.Key) == 0, len(x.Key) > 32, len(x.Value) > 256, x.Gone && x.Value != "":
			return api.ErrArg
		case i > 0 && plainCmp(l[i-1].Mark, x.Mark) >= 0:
			return api.ErrArg
		}
	}
	switch {
	case len(l) == 0:
		return api.ErrArg
	case len(l) > 4096:
		return api.ErrLimit
	}
	return api.OK
}

// plainTake cuts the frame at the start of b off, if it is well made.
func plainTake(b []byte) (record, rest []byte, ok bool) {
	if len(b) < 8 || uint64(len(b)-8) < uint64(binary.BigEndian.Uint32(b)) {
		return nil, nil, false
	}
	end := 8 + int(binary.BigEndian.Uint32(b))
	record = b[8:end]
	return record, b[end:], bytes.Equal(plainFrame(record), b[:end])
}

// plainAll reads part by part, and holds each one against the definition.
func plainAll(b []byte) ([]api.Entry, bool) {
	if len(b) < 12 {
		return nil, false
	}
	rest, tail := b[:len(b)-12], b[len(b)-12:]
	indexAt, filterAt, many := binary.BigEndian.Uint32(tail), binary.BigEndian.Uint32(tail[4:]), binary.BigEndian.Uint32(tail[8:])
	var l []api.Entry
	var rows [][]byte
	for at := uint32(0); at < indexAt; at = uint32(len(b) - 12 - len(rest)) {
		block, after, ok := plainTake(rest)
		part, e := blocks.Get(block)
		if !ok || e != api.OK || len(part) > 16 || len(l)%16 != 0 {
			return nil, false
		}
		rows = append(rows, plainRow(uint64(at), part[len(part)-1].Mark))
		l, rest = append(l, part...), after
	}
	if len(b)-12-len(rest) != int(indexAt) || len(l) != int(many) || plainPut(l) != api.OK {
		return nil, false
	}
	index, rest, ok := plainTake(rest)
	if !ok || len(b)-12-len(rest) != int(filterAt) || !bytes.Equal(index, join(binary.AppendUvarint(nil, uint64(len(rows))), join(rows...))) {
		return nil, false
	}
	filter, rest, ok := plainTake(rest)
	return l, ok && len(rest) == 0 && bytes.Equal(filter, blooms.Put(plainKeys(l)))
}

// plainGet looks for the greatest number, without regard to the order of the list.
func plainGet(l []api.Entry, key string, seq uint64) (best api.Entry, ok bool) {
	for _, x := range l {
		if x.Key != key || x.Seq > seq {
			continue
		}
		if !ok || x.Seq > best.Seq || x.Seq == best.Seq && x.Gone {
			best, ok = x, true
		}
	}
	return best, ok
}

// plainFrom asks of each entry whether it comes before a mark.
func plainFrom(l []api.Entry, m api.Mark, most int) []api.Entry {
	var from []api.Entry
	for _, x := range l {
		if plainCmp(x.Mark, m) >= 0 && len(from) < most {
			from = append(from, x)
		}
	}
	return from
}

// dice gives the same numbers at each run.
type dice uint64

func (s *dice) upTo(n int) int {
	*s = *s*6364136223846793005 + 1442695040888963407
	return int(uint64(*s>>33) % uint64(n))
}

func (s *dice) key() string {
	keys := []string{"a", "a\x00", "aa", "aaa", "ab", "abc", "abd", "b", "ba", "\x00", "\xff", "\xff\xff", "é", "è", of(31, 'k'), of(32, 'k'), of(31, 'k') + "l"}
	if s.upTo(3) == 0 {
		return "k" + strconv.Itoa(s.upTo(100))
	}
	return keys[s.upTo(len(keys))]
}

func (s *dice) mark() api.Mark {
	seqs := []uint64{0, 1, 2, 127, 128, 300, math.MaxInt64, math.MaxUint64}
	return api.Mark{Key: s.key(), Seq: seqs[s.upTo(len(seqs))], Gone: s.upTo(3) == 0}
}

func (s *dice) entry() api.Entry {
	values := []string{"", "v", "wx", "\x00\x01", of(127, 'v'), of(128, 'v'), of(256, 'v')}
	x := api.Entry{Mark: s.mark()}
	if !x.Gone {
		x.Value = values[s.upTo(len(values))]
	}
	return x
}

// entries are ascending: at most so many.
func (s *dice) entries(most int) []api.Entry {
	l := []api.Entry{s.entry()}
	for range s.upTo(most) {
		l = append(l, s.entry())
	}
	slices.SortFunc(l, func(a, b api.Entry) int { return plainCmp(a.Mark, b.Mark) })
	return slices.CompactFunc(l, func(a, b api.Entry) bool { return a.Mark == b.Mark })
}

// spoiled are entries of which most often one is wrong, or in the wrong place.
func (s *dice) spoiled(l []api.Entry) []api.Entry {
	l = slices.Clone(l)
	i, k := s.upTo(len(l)), s.upTo(len(l))
	switch s.upTo(5) {
	case 0:
		l[i], l[k] = l[k], l[i]
	case 1:
		l[i] = l[k]
	case 2:
		l[i].Key = []string{"", of(33, 'k'), of(300, 'k')}[s.upTo(3)]
	case 3:
		l[i].Value = []string{"v", of(257, 'v'), of(5000, 'v')}[s.upTo(3)]
	case 4:
		l[i].Gone = !l[i].Gone
	}
	return l
}

// damaged are bytes of which one was changed, cut out, doubled or added.
func (s *dice) damaged(b []byte) []byte {
	b = bytes.Clone(b)
	i := s.upTo(len(b))
	switch s.upTo(5) {
	case 0:
		b[i] = byte(s.upTo(256))
	case 1:
		b[i] ^= 1 << s.upTo(8)
	case 2:
		b = slices.Delete(b, i, i+1)
	case 3:
		b = slices.Insert(b, i, b[i])
	case 4:
		b = slices.Insert(b, i, byte(s.upTo(256)))
	}
	return b
}

// remade are bytes whose frames are well made, and of which most often one part is damaged.
func (s *dice) remade(l []api.Entry) []byte {
	size := []int{16, 16, 16, 1 + s.upTo(64)}[s.upTo(4)]
	p := piecesOf(l, size)
	i := s.upTo(len(p.rows))
	switch s.upTo(7) {
	case 0:
		p.blocks[i] = s.damaged(p.blocks[i])
	case 1:
		p.rows[i] = s.damaged(p.rows[i])
	case 2:
		p.count = s.damaged(p.count)
	case 3:
		p.filter = s.damaged(p.filter)
	case 4:
		p.many += uint32(s.upTo(3)) - 1
	case 5:
		b := p.file()
		at := len(b) - 12 + 4*s.upTo(3)
		binary.BigEndian.PutUint32(b[at:], binary.BigEndian.Uint32(b[at:])+uint32(s.upTo(3))-1)
		return b
	}
	return p.file()
}

func wantAsPlain(t *testing.T, b []byte) (ok bool) {
	t.Helper()
	l, ok := plainAll(b)
	if ok {
		wantAll(t, b, l)
	} else {
		wantNoFile(t, "plainly none", b)
	}
	return ok
}

func TestAgainstPlainFiles(t *testing.T) {
	for seed := range 600 {
		s := dice(seed)
		l := s.entries(100)
		b := plainFile(l)
		wantBoth(t, l, b)
		for range 5 {
			wantGet(t, b, l, s.key(), s.mark().Seq)
			wantFrom(t, b, l, s.mark(), s.upTo(len(l)+3)-1)
		}
		l = s.spoiled(l)
		if e := plainPut(l); e != api.OK {
			wantNoPut(t, "spoiled", l, e)
		} else {
			wantPut(t, l, plainFile(l))
		}
		wantAsPlain(t, plainFile(l))
		if t.Failed() {
			t.Fatalf("seed %d", seed)
		}
	}
}

func TestDamagedFiles(t *testing.T) {
	right := map[bool]int{}
	for seed := range 1500 {
		s := dice(seed)
		l := s.entries(60)
		right[wantAsPlain(t, s.remade(l))]++
		wantAsPlain(t, s.damaged(plainFile(l)))
		if t.Failed() {
			t.Fatalf("seed %d", seed)
		}
	}
	if right[true] < 200 || right[false] < 200 {
		t.Errorf("too few of one kind: %v", right)
	}
}

// What is read is put again as it was, whatever the bytes are.
func TestOnlyWhatPutReturns(t *testing.T) {
	for seed := range 2000 {
		s := dice(seed)
		b := s.remade(s.entries(40))
		if l, e := sorted.All(b); e == api.OK {
			wantPut(t, l, b)
		}
	}
}
