package journals_test

import (
	"bytes"
	"slices"
	"strconv"
	"strings"
	"testing"

	"bucketline/api"
	"bucketline/files"
	"bucketline/journals"
)

func want(t *testing.T, what string, e, wanted api.Errno) {
	t.Helper()
	if e != wanted {
		t.Errorf("%s = %d; want %d", what, e, wanted)
	}
}

func wantSame(t *testing.T, what string, got, wanted []string) {
	t.Helper()
	if !slices.Equal(got, wanted) {
		t.Errorf("%s: records %.400q; want %.400q", what, strings.Join(got, " "), strings.Join(wanted, " "))
	}
}

func mustDisk(t *testing.T, size int) *files.Disk {
	t.Helper()
	d, e := files.New(size)
	if e != api.OK {
		t.Fatalf("files.New(%d) = %d", size, e)
	}
	return d
}

// diskWith has one file, j, with these bytes, all of which are durable.
func diskWith(t *testing.T, file []byte) *files.Disk {
	t.Helper()
	d := mustDisk(t, 8*api.MaxFile)
	if d.Create("j") != api.OK || d.Append("j", file) != api.OK || d.Sync("j") != api.OK || d.Names() != api.OK {
		t.Fatalf("no file of %d bytes", len(file))
	}
	return d
}

func mustOpen(t *testing.T, d *files.Disk, name string) (*journals.Journal, []string) {
	t.Helper()
	j, records, e := journals.Open(d, name)
	if j == nil || e != api.OK {
		t.Fatalf("Open(%q) = %v, %q, %d", name, j, records, e)
	}
	var l []string
	for _, r := range records {
		l = append(l, string(r))
	}
	return j, l
}

// wantRecords opens a file with these bytes; it returns the journal.
func wantRecords(t *testing.T, what string, file []byte, records ...string) *journals.Journal {
	t.Helper()
	j, l := mustOpen(t, diskWith(t, file), "j")
	wantSame(t, what, l, records)
	return j
}

func wantFile(t *testing.T, d *files.Disk, name string, file []byte) {
	t.Helper()
	n, _ := d.Size(name)
	b, e := d.Read(name, 0, n)
	if !bytes.Equal(b, file) || e != api.OK {
		t.Errorf("the file %q has %.400q, %d; want %.400q", name, b, e, file)
	}
}

func wantAdd(t *testing.T, j *journals.Journal, record string, wanted api.Errno) {
	t.Helper()
	if e := j.Add([]byte(record)); e != wanted {
		t.Errorf("Add(%d bytes) = %d; want %d", len(record), e, wanted)
	}
}

// of returns so many bytes, no two neighbours of which are equal.
func of(n int) string {
	b := make([]byte, n)
	for i := range b {
		b[i] = byte(i * 7)
	}
	return string(b)
}

func TestExamples(t *testing.T) {
	d := mustDisk(t, 10000)
	j, l := mustOpen(t, d, "j")
	wantSame(t, "no file", l, nil)
	wantSize := func(wanted int) {
		t.Helper()
		if n, e := d.Size("j"); n != wanted || e != api.OK {
			t.Errorf("Size = %d, %d; want %d", n, e, wanted)
		}
	}
	wantAdd(t, j, "", api.OK)
	wantAdd(t, j, "a", api.OK)
	wantSize(15)
	_, l = mustOpen(t, d, "j")
	wantSame(t, "two records", l, []string{"", "a"})
	wantAdd(t, j, of(200), api.OK)
	wantSize(229)
	want(t, "Sync", j.Sync(), api.OK)
	wantAdd(t, j, of(65537), api.ErrLimit)
	want(t, "Append", d.Append("j", []byte{0}), api.OK)
	wantAdd(t, j, "b", api.ErrState)
	k, l := mustOpen(t, d, "j")
	wantSame(t, "three records", l, []string{"", "a", of(200)})
	wantAdd(t, k, "b", api.ErrState)
}

// P6.1: the errors of Open

func wantNoJournal(t *testing.T, what string, d *files.Disk, name string, wanted api.Errno) {
	t.Helper()
	if j, l, e := journals.Open(d, name); j != nil || len(l) != 0 || e != wanted {
		t.Errorf("%s: Open(%q) = %v, %q, %d; want none, none, %d", what, name, j, l, e, wanted)
	}
}

func TestOpenWithoutDisk(t *testing.T) {
	for _, d := range []*files.Disk{nil, {}, new(files.Disk)} {
		wantNoJournal(t, "no disk", d, "j", api.ErrNil)
		wantNoJournal(t, "no disk, and no name", d, "", api.ErrNil)
		wantNoJournal(t, "no disk, and no name", d, "J", api.ErrNil)
	}
}

func TestOpenOfInvalidNames(t *testing.T) {
	d := mustDisk(t, 100)
	for _, name := range []string{"", "J", "a b", "a/b", "_", "é", "\x00", "j\n", strings.Repeat("j", api.MaxName+1), strings.Repeat("j", 1<<16)} {
		wantNoJournal(t, "invalid", d, name, api.ErrArg)
	}
	if l := d.List(); len(l) != 0 {
		t.Errorf("files %q", l)
	}
}

func TestOpenOfValidNames(t *testing.T) {
	d := mustDisk(t, 100)
	for i, name := range []string{"j", ".", "-", "0", "journal-1.log", strings.Repeat("z", api.MaxName)} {
		mustOpen(t, d, name)
		if len(d.List()) != i+1 || !slices.Contains(d.List(), name) {
			t.Errorf("Open(%q): files %q", name, d.List())
		}
	}
}

// As many names as may lead to files: a journal is opened on these, and on no other one.
func TestOpenWithoutFreeName(t *testing.T) {
	d := mustDisk(t, 100)
	for i := range api.MaxFiles {
		mustOpen(t, d, "j"+strconv.Itoa(i))
	}
	wantNoJournal(t, "no free name", d, "j", api.ErrFull)
	wantNoJournal(t, "no free name, and an invalid one", d, "J", api.ErrArg)
	if len(d.List()) != api.MaxFiles || slices.Contains(d.List(), "j") {
		t.Errorf("files %q", d.List())
	}
	for i := range api.MaxFiles {
		mustOpen(t, d, "j"+strconv.Itoa(i))
	}
}

func TestOpenWithoutSpace(t *testing.T) {
	d := mustDisk(t, 5)
	want(t, "Create", d.Create("a"), api.OK)
	want(t, "Append", d.Append("a", []byte("12345")), api.OK)
	j, l := mustOpen(t, d, "j")
	wantSame(t, "no space", l, nil)
	wantFile(t, d, "j", nil)
	wantAdd(t, j, "", api.ErrFull)
}

// Nobody asked for the name, or for what others wrote, to be durable.
func TestOpenMakesNothingDurable(t *testing.T) {
	d := mustDisk(t, 100)
	mustOpen(t, d, "j")
	want(t, "Append", d.Append("j", plainFile("a")), api.OK)
	mustOpen(t, d, "j")
	if left, _ := d.Fail(99, false); len(left.List()) != 0 {
		t.Errorf("durable: %q", left.List())
	}
	left, _ := d.Fail(0, true)
	wantFile(t, left, "j", nil)
}

func TestOpenChangesNoFile(t *testing.T) {
	for _, file := range [][]byte{nil, {1}, []byte(of(500)), plainFile("a", of(300)), append(plainFile("a", of(300)), 1), plainFile(of(300))[:250], plainFile(of(116), "b")} {
		d := diskWith(t, file)
		mustOpen(t, d, "j")
		mustOpen(t, d, "j")
		wantFile(t, d, "j", file)
		if !slices.Equal(d.List(), []string{"j"}) {
			t.Errorf("files %q", d.List())
		}
	}
}

// P6.1: the records that are read

func TestOpenOfRecords(t *testing.T) {
	for _, l := range [][]string{nil, {""}, {"", "", ""}, {"a"}, {"\x00", "\xff\x00"}, {of(121)}, {of(122)}, {of(121), ""}, {of(120), "", "a"}, {of(112), "", "b"}, {of(113), "", "b"}, {of(114), "", "b"}, {of(106), "", "", "c"}, {of(300), of(242), of(500), "d"}, {of(65536), "e"}} {
		wantRecords(t, strconv.Itoa(len(l)), plainFile(l...), l...)
	}
}

// Many records, up to the greatest file: one with as many records as it can have, and one with few long ones.
func TestOpenOfGreatFiles(t *testing.T) {
	block := append(bytes.Repeat(plainPart(1, ""), 18), 0, 0)
	file := bytes.Repeat(block, api.MaxFile/128)
	_, l := mustOpen(t, diskWith(t, file), "j")
	if len(l) != 18*api.MaxFile/128 || strings.Join(l, "") != "" {
		t.Errorf("%d records", len(l))
	}
	long := []string{of(65535), of(65536), of(65530), of(65531), of(65533)}
	wantRecords(t, "long", plainFile(long...), long...)
}

func TestOpenOfBytesThatAreNone(t *testing.T) {
	for _, file := range [][]byte{nil, {0}, make([]byte, 7), make([]byte, 128), make([]byte, 1000), bytes.Repeat([]byte{255}, 6), bytes.Repeat([]byte{255}, 1000), []byte(of(1000)), bytes.Repeat([]byte{1}, 129)} {
		j := wantRecords(t, "no parts", file)
		if len(file) > 0 {
			wantAdd(t, j, "a", api.ErrState)
		} else {
			wantAdd(t, j, "a", api.OK)
		}
	}
}

// threeRecords tells a file, its records, and where they end.
func threeRecords() (file []byte, records []string, ends []int) {
	records = []string{of(114), of(300), "c"}
	for i := range records {
		ends = append(ends, len(plainFile(records[:i+1]...)))
	}
	return plainFile(records...), records, ends
}

// before counts the records that end at a place, or before it.
func before(ends []int, at int) int {
	many, _ := slices.BinarySearch(ends, at+1)
	return many
}

func TestOpenOfFileThatIsCutOff(t *testing.T) {
	file, records, ends := threeRecords()
	for at := range len(file) + 1 {
		j := wantRecords(t, "cut at "+strconv.Itoa(at), file[:at], records[:before(ends, at)]...)
		if at == 0 || slices.Contains(ends, at) {
			wantAdd(t, j, "d", api.OK)
		} else {
			wantAdd(t, j, "d", api.ErrState)
		}
	}
}

// Bytes that are skipped may have any value; any other byte belongs to a part, which is not read if it is another one.
func TestOpenOfChangedBytes(t *testing.T) {
	file, records, ends := threeRecords()
	for at := range file {
		for bit := range 8 {
			b := bytes.Clone(file)
			b[at] ^= 1 << bit
			read := before(ends, at)
			if at >= 121 && at < 128 {
				read = len(records)
			}
			wantRecords(t, "changed at "+strconv.Itoa(at), b, records[:read]...)
		}
	}
}

// Fewer than 8 bytes at the end of a block are skipped, even if they are a part that is right; 8 are not.
func TestOpenSkipsEndsOfBlocks(t *testing.T) {
	empty, one := plainPart(1, ""), plainPart(1, "x")
	for room := range 8 {
		start := plainFile(of(121 - room))
		for _, rest := range [][]byte{make([]byte, room), bytes.Repeat([]byte{255}, room), empty[:room], one[:room]} {
			file := slices.Concat(start, rest, one)
			wantRecords(t, "skipped "+strconv.Itoa(room), file, of(121-room), "x")
		}
	}
	start := plainFile(of(113))
	wantRecords(t, "8 bytes left", slices.Concat(start, one, one), of(113), "x", "x")
	wantRecords(t, "8 bytes left, one of them skipped", slices.Concat(start, empty, []byte{9}, one), of(113), "", "x")
	wantRecords(t, "8 bytes left, not a part", slices.Concat(start, make([]byte, 8), one), of(113))
}

// The end of the records is that of the last part: what is skipped behind it is not the end.
func TestOpenEndsBeforeWhatIsSkipped(t *testing.T) {
	for room := range 8 {
		for many := range room + 1 {
			file := append(plainFile(of(121-room)), make([]byte, many)...)
			wanted := api.ErrState
			if many == 0 {
				wanted = api.OK
			}
			wantAdd(t, wantRecords(t, "skipped", file, of(121-room)), "a", wanted)
		}
	}
}

// A part lies within its block, even if its bytes go on in the next one.
func TestOpenOfPartBeyondItsBlock(t *testing.T) {
	for n := 122; n < 300; n++ {
		wantRecords(t, "too long a part", append(plainPart(1, of(n)), plainPart(1, "a")...))
	}
	start := plainFile(of(113))
	wantRecords(t, "9 bytes in 8", append(start, plainPart(1, "ab")...), of(113))
	wantRecords(t, "a part, and one that is too long", append(plainPart(2, of(50)), plainPart(4, of(65))...))
	wantRecords(t, "a length above all", append(plainFile("a"), 1, 2, 3, 4, 255, 255, 1), "a")
}

// Nothing asks, of parts that are read, that they fill their blocks, or that they have data.
func TestOpenOfPartsThatAreNotWritten(t *testing.T) {
	file := slices.Concat(plainPart(2, ""), plainPart(3, "a"), plainPart(3, ""), plainPart(4, ""), plainPart(1, "b"), plainPart(2, "c"), plainPart(4, "d"))
	wantRecords(t, "short parts", file, "a", "b", "cd")
	file = append(plainPart(2, of(106)), plainPart(3, "")...)
	wantRecords(t, "no room behind it", slices.Concat(file, plainPart(4, "e")), of(106)+"e")
}

// A record that is begun, but not ended, is none, and the end of the records is before it.
func TestOpenOfRecordWithoutEnd(t *testing.T) {
	start := plainFile("a")
	for _, rest := range [][]byte{plainPart(2, "b"), append(plainPart(2, "b"), plainPart(3, "c")...), append(plainPart(2, "b"), plainPart(1, "c")...), append(plainPart(2, "b"), plainPart(2, "c")...), plainPart(3, "b"), plainPart(4, "b"), plainPart(0, "b"), plainPart(5, "b"), plainPart(255, "b")} {
		j := wantRecords(t, "no end", append(bytes.Clone(start), rest...), "a")
		wantAdd(t, j, "d", api.ErrState)
	}
}

// The length of a record that is read has no limit but that of the file.
func TestOpenOfRecordAboveTheLimit(t *testing.T) {
	for _, n := range []int{65536, 65537, 100000} {
		wantRecords(t, "long", plainFile(of(n), "a"), of(n), "a")
	}
}

// P6.1: what is returned is new memory (R4)

func TestOpenReturnsNewMemory(t *testing.T) {
	d := diskWith(t, plainFile("one", "", of(300), "two"))
	j, records, _ := journals.Open(d, "j")
	for _, r := range records {
		for i := range r {
			r[i] = 'x'
		}
		whole := r[:cap(r)]
		for i := range whole {
			whole[i] = 'y'
		}
		if cap(r) > len(r) {
			_ = append(r, 'z')
		}
	}
	if string(records[0]) != "yyy" || string(records[3]) != "yyy" || string(records[2]) != strings.Repeat("y", 300) {
		t.Errorf("records share memory: %q", records)
	}
	wantFile(t, d, "j", plainFile("one", "", of(300), "two"))
	wantAdd(t, j, "more", api.OK)
	_, l := mustOpen(t, d, "j")
	wantSame(t, "read again", l, []string{"one", "", of(300), "two", "more"})
}

// P6.2: what Add writes

// Every place of a block, and records that fill what is left of it, or not quite, or a little more.
func TestAddWritesParts(t *testing.T) {
	for start := 0; start <= 121; start++ {
		for _, n := range []int{0, 1, 2, 113 - start, 114 - start, 115 - start, 116 - start, 120, 121, 122, 234 - start, 235 - start, 236 - start, 300, 400} {
			if n < 0 {
				continue
			}
			d := mustDisk(t, 10000)
			j, _ := mustOpen(t, d, "j")
			l := []string{of(start), of(n), "z"}
			for i, r := range l {
				wantAdd(t, j, r, api.OK)
				wantFile(t, d, "j", plainFile(l[:i+1]...))
			}
			_, read := mustOpen(t, d, "j")
			wantSame(t, "what was added", read, l)
		}
	}
}

// A whole file by hand: two records in the first block, then one in parts of all kinds, then one behind zeros.
func TestAddByHand(t *testing.T) {
	d := mustDisk(t, 10000)
	j, _ := mustOpen(t, d, "j")
	long := of(107 + 121 + 115)
	for _, r := range []string{"", "", long, "b"} {
		wantAdd(t, j, r, api.OK)
	}
	wantFile(t, d, "j", slices.Concat(plainPart(1, ""), plainPart(1, ""), plainPart(2, long[:107]), plainPart(3, long[107:228]), plainPart(4, long[228:]), make([]byte, 6), plainPart(1, "b")))
}

// The bytes of two parts, with checksums that were worked out elsewhere.
func TestAddByTheByte(t *testing.T) {
	d := mustDisk(t, 100)
	j, _ := mustOpen(t, d, "j")
	wantAdd(t, j, "", api.OK)
	wantAdd(t, j, "a", api.OK)
	wantFile(t, d, "j", []byte{0xa0, 0x16, 0xd0, 0x52, 0, 0, 1, 0x71, 0x6e, 0xff, 0xc4, 0, 1, 1, 'a'})
}

func TestAddOfLongRecords(t *testing.T) {
	for _, n := range []int{65535, 65536} {
		d := mustDisk(t, 1<<20)
		j, _ := mustOpen(t, d, "j")
		wantAdd(t, j, "a", api.OK)
		wantAdd(t, j, of(n), api.OK)
		wantAdd(t, j, "b", api.OK)
		wantFile(t, d, "j", plainFile("a", of(n), "b"))
		_, l := mustOpen(t, d, "j")
		wantSame(t, "long", l, []string{"a", of(n), "b"})
	}
}

func TestAddKeepsNothingOfItsArgument(t *testing.T) {
	d := mustDisk(t, 1000)
	j, _ := mustOpen(t, d, "j")
	room := []byte("record and what is behind it, to the end")
	want(t, "Add", j.Add(room[:6]), api.OK)
	if string(room) != "record and what is behind it, to the end" {
		t.Errorf("Add changed its argument: %q", room)
	}
	clear(room)
	wantFile(t, d, "j", plainFile("record"))
	want(t, "Add(nil)", j.Add(nil), api.OK)
	wantFile(t, d, "j", plainFile("record", ""))
}

// Journals on other files, and on files of the same name on other disks, go their own ways.
func TestJournalsOnSeveralFiles(t *testing.T) {
	d, other := mustDisk(t, 1000), mustDisk(t, 1000)
	a, _ := mustOpen(t, d, "a")
	b, _ := mustOpen(t, d, "b")
	c, _ := mustOpen(t, other, "a")
	for i, j := range []*journals.Journal{a, b, c, a, b, a} {
		wantAdd(t, j, of(30+i), api.OK)
	}
	wantFile(t, d, "a", plainFile(of(30), of(33), of(35)))
	wantFile(t, d, "b", plainFile(of(31), of(34)))
	wantFile(t, other, "a", plainFile(of(32)))
}

// P6.2: the errors of Add

func TestWithoutJournal(t *testing.T) {
	for _, j := range []*journals.Journal{nil, {}, new(journals.Journal)} {
		want(t, "Add", j.Add(nil), api.ErrNil)
		want(t, "Add", j.Add([]byte("a")), api.ErrNil)
		want(t, "Add", j.Add(make([]byte, 65537)), api.ErrNil)
		want(t, "Sync", j.Sync(), api.ErrNil)
	}
}

func TestAddAboveTheLimit(t *testing.T) {
	d := mustDisk(t, 8*api.MaxFile)
	j, _ := mustOpen(t, d, "j")
	for _, n := range []int{65537, 65538, 1 << 20, 1 << 24} {
		wantAdd(t, j, of(n), api.ErrLimit)
	}
	wantFile(t, d, "j", nil)
	wantAdd(t, j, "a", api.OK)
	want(t, "Append", d.Append("j", []byte{0}), api.OK)
	wantAdd(t, j, of(65537), api.ErrLimit)
	want(t, "Remove", d.Remove("j"), api.OK)
	wantAdd(t, j, of(65537), api.ErrLimit)
	wantAdd(t, j, of(65536), api.ErrNone)
}

func TestAddWithoutFile(t *testing.T) {
	d := mustDisk(t, 20)
	j, _ := mustOpen(t, d, "j")
	wantAdd(t, j, "a", api.OK)
	want(t, "Rename", d.Rename("j", "k"), api.OK)
	wantAdd(t, j, "b", api.ErrNone)
	wantAdd(t, j, of(100), api.ErrNone)
	want(t, "Sync", j.Sync(), api.ErrNone)
	if !slices.Equal(d.List(), []string{"k"}) {
		t.Errorf("files %q", d.List())
	}
	want(t, "Rename", d.Rename("k", "j"), api.OK)
	wantAdd(t, j, "b", api.OK)
	wantFile(t, d, "j", plainFile("a", "b"))
	want(t, "Remove", d.Remove("j"), api.OK)
	wantAdd(t, j, "c", api.ErrNone)
	want(t, "Create", d.Create("j"), api.OK)
	wantAdd(t, j, "c", api.ErrState)
	wantAdd(t, j, of(100), api.ErrState)
	wantFile(t, d, "j", nil)
}

// Only the length of the file that the name leads to counts.
func TestAddToAnotherFile(t *testing.T) {
	d := mustDisk(t, 100)
	j, _ := mustOpen(t, d, "j")
	wantAdd(t, j, "a", api.OK)
	want(t, "Create", d.Create("k"), api.OK)
	want(t, "Append", d.Append("k", plainFile("x")), api.OK)
	want(t, "Rename", d.Rename("k", "j"), api.OK)
	wantAdd(t, j, "b", api.OK)
	want(t, "Sync", j.Sync(), api.OK)
	wantFile(t, d, "j", plainFile("x", "b"))
	left, _ := d.Fail(0, true)
	wantFile(t, left, "j", plainFile("x", "b"))
}

func TestAddAfterOtherBytes(t *testing.T) {
	for _, more := range [][]byte{{0}, {1}, make([]byte, 7), make([]byte, 200), plainPart(1, "b")} {
		d := diskWith(t, plainFile("a"))
		j, _ := mustOpen(t, d, "j")
		want(t, "Append", d.Append("j", more), api.OK)
		for range 2 {
			wantAdd(t, j, "c", api.ErrState)
		}
		wantFile(t, d, "j", append(plainFile("a"), more...))
		want(t, "Sync", j.Sync(), api.OK)
	}
}

func TestTwoJournalsOnOneFile(t *testing.T) {
	d := mustDisk(t, 1000)
	j, _ := mustOpen(t, d, "j")
	k, _ := mustOpen(t, d, "j")
	wantAdd(t, j, "a", api.OK)
	wantAdd(t, j, "b", api.OK)
	wantAdd(t, k, "c", api.ErrState)
	l, records := mustOpen(t, d, "j")
	wantSame(t, "of the first one", records, []string{"a", "b"})
	wantAdd(t, l, "d", api.OK)
	wantAdd(t, j, "e", api.ErrState)
	wantAdd(t, l, "f", api.OK)
	wantFile(t, d, "j", plainFile("a", "b", "d", "f"))
	want(t, "Sync", k.Sync(), api.OK)
}

// The zeros that fill a block count, and either all is written or nothing.
func TestAddWithoutSpace(t *testing.T) {
	for _, l := range [][]string{{"", ""}, {"a", of(50)}, {of(100), of(20)}, {of(116), ""}, {of(116), "b"}, {of(120), of(400)}, {"a", of(65536)}} {
		start, file := plainFile(l[0]), plainFile(l...)
		for size := len(start); size <= len(file)+1; size += max(1, len(file)/300) {
			wantAddOn(t, size, l, start, file)
		}
		wantAddOn(t, len(file)-1, l, start, file)
		wantAddOn(t, len(file), l, start, file)
	}
}

// wantAddOn adds two records on a disk for so many bytes.
func wantAddOn(t *testing.T, size int, l []string, start, file []byte) {
	t.Helper()
	d := mustDisk(t, size)
	j, _ := mustOpen(t, d, "j")
	wantAdd(t, j, l[0], api.OK)
	if size >= len(file) {
		wantAdd(t, j, l[1], api.OK)
		wantFile(t, d, "j", file)
		return
	}
	for range 2 {
		wantAdd(t, j, l[1], api.ErrFull)
		wantFile(t, d, "j", start)
	}
}

func TestAddGoesOnAfterErrors(t *testing.T) {
	d := mustDisk(t, 140)
	j, _ := mustOpen(t, d, "j")
	wantAdd(t, j, of(100), api.OK)
	wantAdd(t, j, of(20), api.ErrFull)
	wantAdd(t, j, of(65537), api.ErrLimit)
	wantAdd(t, j, of(19), api.OK)
	wantAdd(t, j, "", api.ErrFull)
	wantFile(t, d, "j", plainFile(of(100), of(19)))
	want(t, "Create", d.Create("k"), api.OK)
	wantAdd(t, j, "", api.ErrFull)
	_, l := mustOpen(t, d, "j")
	wantSame(t, "after errors", l, []string{of(100), of(19)})
}

// A file has at most MaxFile bytes, however much space the disk has.
func TestAddToGreatestFile(t *testing.T) {
	d := mustDisk(t, 8*api.MaxFile)
	j, _ := mustOpen(t, d, "j")
	var l []string
	for len(l) < 15 {
		wantAdd(t, j, of(65536), api.OK)
		l = append(l, of(65536))
	}
	n, _ := d.Size("j")
	wantAdd(t, j, of(65536), api.ErrFull)
	// Of each block that is left 7 bytes are no data; of that which is begun, all of them, if there are fewer.
	left := api.MaxFile - n
	fits := left/128*121 + max(left%128-7, 0)
	wantAdd(t, j, of(fits+1), api.ErrFull)
	wantAdd(t, j, of(fits), api.OK)
	if n, _ := d.Size("j"); n != api.MaxFile {
		t.Errorf("%d bytes; want %d", n, api.MaxFile)
	}
	wantAdd(t, j, "", api.ErrFull)
	_, read := mustOpen(t, d, "j")
	wantSame(t, "the greatest file", read, append(l, of(fits)))
}

// P6.2: Sync

func TestSyncMakesTheFileDurable(t *testing.T) {
	d := mustDisk(t, 1000)
	j, _ := mustOpen(t, d, "j")
	k, _ := mustOpen(t, d, "k")
	want(t, "Names", d.Names(), api.OK)
	wantAdd(t, j, "a", api.OK)
	wantAdd(t, k, "x", api.OK)
	wantLeft := func(j, k []byte) {
		t.Helper()
		left, _ := d.Fail(0, false)
		wantFile(t, left, "j", j)
		wantFile(t, left, "k", k)
	}
	wantLeft(nil, nil)
	want(t, "Sync", j.Sync(), api.OK)
	wantLeft(plainFile("a"), nil)
	wantAdd(t, j, of(200), api.OK)
	wantLeft(plainFile("a"), nil)
	want(t, "Sync", j.Sync(), api.OK)
	want(t, "Sync", j.Sync(), api.OK)
	wantLeft(plainFile("a", of(200)), nil)
	want(t, "Sync", k.Sync(), api.OK)
	wantLeft(plainFile("a", of(200)), plainFile("x"))
}

// The name is not made durable: that is asked of the disk.
func TestSyncLeavesTheDirectory(t *testing.T) {
	d := mustDisk(t, 1000)
	j, _ := mustOpen(t, d, "j")
	wantAdd(t, j, "a", api.OK)
	want(t, "Sync", j.Sync(), api.OK)
	if left, _ := d.Fail(0, false); len(left.List()) != 0 {
		t.Errorf("durable: %q", left.List())
	}
}

// P6.3

// Of records of all kinds some are durable: whatever a crash keeps of the others, the durable ones are there first, and no part of one is.
func TestOpenAfterCrash(t *testing.T) {
	records := []string{"a", of(100), of(9), of(400), "", of(123), "b", of(250)}
	for durable := range len(records) + 1 {
		d := mustDisk(t, 10000)
		j, _ := mustOpen(t, d, "j")
		ends := []int{}
		for i, r := range records {
			if i == durable {
				want(t, "Sync", j.Sync(), api.OK)
			}
			wantAdd(t, j, r, api.OK)
			ends = append(ends, len(plainFile(records[:i+1]...)))
		}
		sure := len(plainFile(records[:durable]...))
		if durable == len(records) {
			want(t, "Sync", j.Sync(), api.OK)
		}
		for keep := range ends[len(ends)-1] - sure + 2 {
			left, _ := d.Fail(keep, true)
			k, l := mustOpen(t, left, "j")
			many := before(ends, sure+keep)
			wantSame(t, "keep "+strconv.Itoa(keep), l, records[:many])
			wantAddAfterCrash(t, left, k, records[:many])
		}
	}
}

// wantAddAfterCrash adds a record, if the file ends where these records do.
func wantAddAfterCrash(t *testing.T, d *files.Disk, j *journals.Journal, records []string) {
	t.Helper()
	if n, _ := d.Size("j"); n != len(plainFile(records...)) {
		wantAdd(t, j, "more", api.ErrState)
		return
	}
	wantAdd(t, j, "more", api.OK)
	_, l := mustOpen(t, d, "j")
	wantSame(t, "after a crash", l, append(slices.Clone(records), "more"))
}

// A crash leaves another disk: the journal goes on with the old one.
func TestCrashLeavesTheOldDisk(t *testing.T) {
	d := mustDisk(t, 1000)
	j, _ := mustOpen(t, d, "j")
	wantAdd(t, j, "a", api.OK)
	want(t, "Sync", j.Sync(), api.OK)
	left, _ := d.Fail(0, true)
	wantAdd(t, j, "b", api.OK)
	wantFile(t, d, "j", plainFile("a", "b"))
	wantFile(t, left, "j", plainFile("a"))
}
