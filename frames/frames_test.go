package frames_test

import (
	"bytes"
	"encoding/binary"
	"hash/crc32"
	"math"
	"testing"

	"bucketline/api"
	"bucketline/frames"
)

// someRecord has bytes of all kinds, and the same ones at each run.
func someRecord(many int) []byte {
	r := make([]byte, many)
	for i := range r {
		r[i] = byte(i*i*31 + i/7 + many)
	}
	return r
}

// someRecords have the lengths at the edges, and some between.
func someRecords() [][]byte {
	l := [][]byte{nil, {}, {0}, {255}, []byte("a"), make([]byte, 8), bytes.Repeat([]byte{255}, 300)}
	for _, many := range []int{1, 2, 3, 4, 5, 7, 8, 9, 127, 128, 255, 256, 257, 5000, api.MaxRecord - 1, api.MaxRecord} {
		l = append(l, someRecord(many))
	}
	return l
}

// plainFrame follows the definition of a frame by the library's means.
func plainFrame(record []byte) []byte {
	length := binary.BigEndian.AppendUint32(nil, uint32(len(record)))
	sum := crc32.Checksum(append(bytes.Clone(length), record...), crc32.MakeTable(crc32.Castagnoli))
	return append(binary.BigEndian.AppendUint32(length, sum), record...)
}

// head is what a frame begins with: a length, and a sum that may be any.
func head(length, sum uint32) []byte {
	return binary.BigEndian.AppendUint32(binary.BigEndian.AppendUint32(nil, length), sum)
}

func join(parts ...[]byte) []byte {
	return bytes.Join(parts, nil)
}

func mustPut(t *testing.T, record []byte) []byte {
	t.Helper()
	frame, e := frames.Put(record)
	if e != api.OK {
		t.Fatalf("Put(%d bytes) = error %d", len(record), e)
	}
	return frame
}

func wantRecord(t *testing.T, b, record []byte, took int) {
	t.Helper()
	got, gotTook, e := frames.Get(b)
	if !bytes.Equal(got, record) || gotTook != took || e != api.OK {
		t.Errorf("Get(%d bytes) = %d bytes, %d, %d; want %d bytes, %d, OK", len(b), len(got), gotTook, e, len(record), took)
	}
}

func wantError(t *testing.T, what string, b []byte, e api.Errno) {
	t.Helper()
	got, took, gotE := frames.Get(b)
	if len(got) != 0 || took != 0 || gotE != e {
		t.Errorf("%s: Get(%d bytes) = %d bytes, %d, %d; want none, 0, %d", what, len(b), len(got), took, gotE, e)
	}
}

// P3.1

func TestPutExample(t *testing.T) {
	frame := mustPut(t, []byte("a"))
	if len(frame) != 9 || !bytes.Equal(frame[:4], []byte{0, 0, 0, 1}) || frame[8] != 'a' {
		t.Errorf("Put(a) = %v", frame)
	}
}

func TestPutIsTheFrame(t *testing.T) {
	for _, record := range someRecords() {
		if got, want := mustPut(t, record), plainFrame(record); !bytes.Equal(got, want) {
			t.Errorf("Put(%d bytes) begins with %v, has %d bytes; want %v, %d", len(record), got[:8], len(got), want[:8], len(want))
		}
	}
}

func TestPutTooLong(t *testing.T) {
	for _, many := range []int{api.MaxRecord + 1, api.MaxRecord + 2, 2 * api.MaxRecord, 1 << 20} {
		frame, e := frames.Put(make([]byte, many))
		if len(frame) != 0 || e != api.ErrLimit {
			t.Errorf("Put(%d bytes) = %d bytes, %d; want none, ErrLimit", many, len(frame), e)
		}
	}
}

// P3.2

func TestGetExamples(t *testing.T) {
	frame := mustPut(t, []byte("a"))
	wantRecord(t, join(frame, []byte("more")), []byte("a"), 9)
	wantError(t, "its first eight bytes", frame[:8], api.ErrShort)
	wantError(t, "its first three bytes", frame[:3], api.ErrShort)
	wantError(t, "a length above the limit", []byte{0, 1, 0, 1, 1, 2, 3, 4}, api.ErrForm)
}

func TestGetOfPlainFrames(t *testing.T) {
	for _, record := range someRecords() {
		frame := plainFrame(record)
		wantRecord(t, frame, record, len(frame))
		wantRecord(t, join(frame, frame), record, len(frame))
	}
}

func TestGetOfFewerThanEight(t *testing.T) {
	wantError(t, "nil", nil, api.ErrShort)
	for many := range 8 {
		wantError(t, "zeros", make([]byte, many), api.ErrShort)
		// A length above the limit comes only after this.
		wantError(t, "all bits", bytes.Repeat([]byte{255}, many), api.ErrShort)
	}
}

func TestGetOfLengthAboveLimit(t *testing.T) {
	for _, length := range []uint32{api.MaxRecord + 1, api.MaxRecord + 2, 1 << 17, 1 << 24, math.MaxInt32, 1 << 31, math.MaxUint32 - 8, math.MaxUint32 - 7, math.MaxUint32} {
		wantError(t, "the head alone", head(length, 7), api.ErrForm)
		wantError(t, "more", join(head(length, 7), make([]byte, 100)), api.ErrForm)
	}
	long := plainFrame(make([]byte, api.MaxRecord+1))
	wantError(t, "a record above the limit", long, api.ErrForm)
	wantError(t, "a part of it", long[:len(long)-1], api.ErrForm)
}

func TestGetOfLengthUpToLimit(t *testing.T) {
	for _, length := range []uint32{1, 2, 255, 256, api.MaxRecord - 1, api.MaxRecord} {
		// The sum is wrong, too, but this comes first.
		wantError(t, "the head alone", head(length, 7), api.ErrShort)
		wantError(t, "all but one", join(head(length, 7), make([]byte, length-1)), api.ErrShort)
		wantError(t, "all", join(head(length, 7), make([]byte, length)), api.ErrForm)
	}
}

func TestGetOfAnotherSum(t *testing.T) {
	library := crc32.MakeTable(crc32.Castagnoli)
	record := someRecord(20)
	wantError(t, "zeros", make([]byte, 8), api.ErrForm)
	wantError(t, "no sum", join(head(20, 0), record), api.ErrForm)
	wantError(t, "the record's alone", join(head(20, crc32.Checksum(record, library)), record), api.ErrForm)
	behind := join(record, []byte{0, 0, 0, 20})
	wantError(t, "the length behind", join(head(20, crc32.Checksum(behind, library)), record), api.ErrForm)
	other := join([]byte{0, 0, 0, 20}, record)
	wantError(t, "another polynomial's", join(head(20, crc32.ChecksumIEEE(other)), record), api.ErrForm)
	turned := plainFrame(record)
	turned[4], turned[7] = turned[7], turned[4]
	turned[5], turned[6] = turned[6], turned[5]
	wantError(t, "the lowest byte first", turned, api.ErrForm)
}

// The sum is of the length, too: another length does not pass with the same record's bytes.
func TestGetOfAnotherLength(t *testing.T) {
	for _, many := range []int{1, 8, 100} {
		b := join(mustPut(t, make([]byte, many)), make([]byte, 300))
		for length := range 300 {
			if length == many {
				continue
			}
			binary.BigEndian.PutUint32(b, uint32(length))
			wantError(t, "another length", b, api.ErrForm)
		}
	}
}

// P3.3

func TestReadBackWhateverFollows(t *testing.T) {
	for _, record := range someRecords() {
		frame := mustPut(t, record)
		for _, after := range [][]byte{nil, {0}, {255}, make([]byte, 8), bytes.Repeat([]byte{255}, 9), frame, someRecord(100)} {
			wantRecord(t, join(frame, after), record, len(frame))
		}
	}
}

func TestReadBackOneAfterAnother(t *testing.T) {
	var b []byte
	for _, record := range someRecords() {
		b = append(b, mustPut(t, record)...)
	}
	for _, record := range someRecords() {
		got, took, e := frames.Get(b)
		if !bytes.Equal(got, record) || took != 8+len(record) || e != api.OK {
			t.Fatalf("Get = %d bytes, %d, %d; want %d bytes", len(got), took, e, len(record))
		}
		b = b[took:]
	}
	wantError(t, "behind the last one", b, api.ErrShort)
}

func TestCutAnywhere(t *testing.T) {
	for _, record := range someRecords() {
		frame := mustPut(t, record)
		for many := range len(frame) {
			wantError(t, "cut off", frame[:many], api.ErrShort)
		}
	}
}

// wantInvertedSeen inverts bits in each run of up to 32 within the bytes from start to end: those that masks tells for a run's length. flip tells the place of a bit in its byte.
func wantInvertedSeen(t *testing.T, frame []byte, start, end int, flip func(bit int) byte, masks func(length int) []uint64) {
	t.Helper()
	for length := 1; length <= 32; length++ {
		for at := 8 * start; at+length <= 8*end; at++ {
			for _, mask := range masks(length) {
				bad := bytes.Clone(frame)
				for i := range length {
					if mask>>i&1 == 1 {
						bad[(at+i)/8] ^= flip((at + i) % 8)
					}
				}
				if got, took, e := frames.Get(bad); len(got) != 0 || took != 0 || e != api.ErrForm {
					t.Fatalf("bits %b at %d inverted: Get = %d bytes, %d, %d; want ErrForm", mask, at, len(got), took, e)
				}
			}
		}
	}
}

func lowestFirst(bit int) byte  { return 1 << bit }
func highestFirst(bit int) byte { return 128 >> bit }

// Bits that follow each other the highest one first lie in up to five bytes: only of the whole run is it known that the sum tells it.
func wholeRun(length int) []uint64 { return []uint64{1<<length - 1} }

func partsOfRun(length int) []uint64 {
	all, ends := uint64(1)<<length-1, uint64(1)|1<<(length-1)
	return []uint64{all, ends, ends | 0xa5c396f05a3c690f&all}
}

func TestInvertedBitsAreSeen(t *testing.T) {
	for _, record := range [][]byte{nil, {7}, make([]byte, 4), []byte("record"), someRecord(40)} {
		frame := mustPut(t, record)
		wantInvertedSeen(t, frame, 4, 8, lowestFirst, partsOfRun)
		wantInvertedSeen(t, frame, 4, 8, highestFirst, partsOfRun)
		wantInvertedSeen(t, frame, 8, len(frame), lowestFirst, partsOfRun)
		wantInvertedSeen(t, frame, 8, len(frame), highestFirst, wholeRun)
	}
}

// R4

func TestPutSharesNothing(t *testing.T) {
	for _, many := range []int{0, 1, 20} {
		room := someRecord(40)
		first, second := mustPut(t, room[:many]), mustPut(t, room[:many])
		want := plainFrame(room[:many])
		first = first[:cap(first)]
		for i := range first {
			first[i] ^= 255
		}
		if !bytes.Equal(room, someRecord(40)) {
			t.Error("the argument has changed")
		}
		clear(room)
		if !bytes.Equal(second, want) {
			t.Error("a result has changed with another one, or with the argument")
		}
	}
}

func TestGetSharesNothing(t *testing.T) {
	record := someRecord(20)
	b := join(plainFrame(record), someRecord(30))
	was := bytes.Clone(b)
	first, _, _ := frames.Get(b)
	second, _, _ := frames.Get(b)
	first = first[:cap(first)]
	for i := range first {
		first[i] ^= 255
	}
	if !bytes.Equal(b, was) {
		t.Error("the argument has changed")
	}
	clear(b)
	if !bytes.Equal(second, record) {
		t.Error("a result has changed with another one, or with the argument")
	}
}
