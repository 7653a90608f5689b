package journals_test

import (
	"bytes"
	"encoding/binary"
	"hash/crc32"
	"regexp"
	"strings"
	"testing"

	"bucketline/api"
	"bucketline/files"
	"bucketline/journals"
)

// plainPart follows the definition of a part by the library's means, whatever its kind and data.
func plainPart(kind byte, data string) []byte {
	summed := append([]byte{kind}, data...)
	b := binary.BigEndian.AppendUint32(nil, crc32.Checksum(summed, crc32.MakeTable(crc32.Castagnoli)))
	b = binary.BigEndian.AppendUint16(b, uint16(len(data)))
	return append(b, summed...)
}

// plainAdd appends a record to the bytes of a file: the data is divided first, the kinds are told afterwards.
func plainAdd(file []byte, record string) []byte {
	rooms := []int{128 - len(file)%128}
	if rooms[0] < 8 {
		file = append(file, make([]byte, rooms[0])...)
		rooms[0] = 128
	}
	for sum(rooms)-7*len(rooms) < len(record) {
		rooms = append(rooms, 128)
	}
	for i, room := range rooms {
		kind := byte(3)
		switch {
		case len(rooms) == 1:
			kind = 1
		case i == 0:
			kind = 2
		case i == len(rooms)-1:
			kind = 4
		}
		n := min(room-7, len(record))
		file = append(file, plainPart(kind, record[:n])...)
		record = record[n:]
	}
	return file
}

func sum(l []int) int {
	n := 0
	for _, x := range l {
		n += x
	}
	return n
}

// plainFile has records, as they are written from the first byte of a file on.
func plainFile(records ...string) []byte {
	var file []byte
	for _, r := range records {
		file = plainAdd(file, r)
	}
	return file
}

// wholeRecords matches the kinds of the parts of records, up to the first part that doesn't continue them.
var wholeRecords = regexp.MustCompile(`^(?:1|23*4)*`)

// oneRecord matches the kinds of the parts of one record.
var oneRecord = regexp.MustCompile(`1|23*4`)

// wantOfKinds tells the records of parts of these kinds, the data of which are their places, as letters.
func wantOfKinds(kinds string) []string {
	letters := "abcdefgh"
	var l []string
	for _, at := range oneRecord.FindAllStringIndex(wholeRecords.FindString(kinds), -1) {
		l = append(l, letters[at[0]:at[1]])
	}
	return l
}

// Parts of all kinds, one after the other in one block, in all orders.
func TestOpenOfPartsInAllOrders(t *testing.T) {
	var visit func(kinds string, file []byte)
	visit = func(kinds string, file []byte) {
		wantRecords(t, "kinds "+kinds, file, wantOfKinds(kinds)...)
		if len(kinds) == 5 {
			return
		}
		for kind := range byte(6) {
			data := string("abcdefgh"[len(kinds)])
			visit(kinds+string('0'+kind), append(bytes.Clone(file), plainPart(kind, data)...))
		}
	}
	visit("", nil)
}

// A kind is a byte: only 1 to 4 are kinds of parts.
func TestOpenOfAnyKind(t *testing.T) {
	for kind := range 256 {
		file := append(plainFile("x"), plainPart(byte(kind), "y")...)
		file = append(file, plainPart(4, "z")...)
		switch kind {
		case 1:
			wantRecords(t, "a whole record", file, "x", "y")
		case 2:
			wantRecords(t, "two parts", file, "x", "yz")
		default:
			wantRecords(t, "no start", file, "x")
		}
	}
}

// dice gives the same numbers at each run.
type dice uint64

func (s *dice) upTo(n int) int {
	*s = *s*6364136223846793005 + 1442695040888963407
	return int(uint64(*s>>33) % uint64(n))
}

// record is often short, often about as long as one block or two, and seldom longer.
func (s *dice) record() string {
	n := s.upTo(10)
	switch s.upTo(8) {
	case 0, 1:
		n = 110 + s.upTo(20)
	case 2:
		n = 230 + s.upTo(20)
	case 3:
		n = s.upTo(900)
	}
	return strings.Repeat(string('a'+rune(s.upTo(26))), n)
}

// run is a journal beside what its disk is to have.
type run struct {
	disk    *files.Disk
	journal *journals.Journal
	records []string // all that can be read
	ends    []int    // of the records, in the file
	file    []byte
	durable int // bytes
	clean   bool
}

func (r *run) open(t *testing.T) {
	t.Helper()
	var l []string
	r.journal, l = mustOpen(t, r.disk, "j")
	wantSame(t, "Open", l, r.records)
}

func (r *run) add(t *testing.T, record string) {
	t.Helper()
	file := plainAdd(bytes.Clone(r.file), record)
	switch e := r.journal.Add([]byte(record)); {
	case !r.clean:
		want(t, "Add after a part", e, api.ErrState)
	case len(file) > runSize:
		want(t, "Add without space", e, api.ErrFull)
	default:
		want(t, "Add", e, api.OK)
		r.file, r.records, r.ends = file, append(r.records, record), append(r.ends, len(file))
	}
}

func (r *run) sync(t *testing.T) {
	t.Helper()
	want(t, "Sync", r.journal.Sync(), api.OK)
	r.durable = len(r.file)
}

// crash keeps so many bytes that are not durable, and opens what is left.
func (r *run) crash(t *testing.T, keep int) {
	t.Helper()
	disk, e := r.disk.Fail(keep, true)
	want(t, "Fail", e, api.OK)
	r.disk = disk
	r.file = r.file[:min(len(r.file), r.durable+keep)]
	r.durable = len(r.file)
	for len(r.ends) > 0 && r.ends[len(r.ends)-1] > len(r.file) {
		r.ends, r.records = r.ends[:len(r.ends)-1], r.records[:len(r.records)-1]
	}
	end := 0
	if len(r.ends) > 0 {
		end = r.ends[len(r.ends)-1]
	}
	r.clean = end == len(r.file)
	r.open(t)
}

const runSize = 5000

func TestAgainstPlainRuns(t *testing.T) {
	for seed := range 300 {
		s := dice(seed)
		r := &run{disk: mustDisk(t, runSize), clean: true}
		r.open(t)
		for range 60 {
			switch s.upTo(12) {
			case 0:
				r.open(t)
			case 1, 2, 3:
				r.sync(t)
			case 4:
				r.crash(t, s.upTo(2)*s.upTo(300))
			default:
				r.add(t, s.record())
			}
			wantFile(t, r.disk, "j", r.file)
		}
		if t.Failed() {
			t.Fatalf("seed %d", seed)
		}
	}
}
