package manifests_test

import (
	"fmt"
	"maps"
	"math"
	"slices"
	"strconv"
	"strings"
	"testing"

	"bucketline/api"
	"bucketline/edits"
	"bucketline/files"
	"bucketline/journals"
	"bucketline/manifests"
)

// The names of a manifest: of its file, and of the next one while it is being written.
const (
	name   = "m"
	unsure = "m-unsure"
)

func file(num uint32, level int, least, most string) api.File {
	return api.File{Num: num, Level: level, Least: least, Most: most}
}

func adding(l ...api.File) api.Edit {
	return api.Edit{Added: l}
}

func removing(nums ...uint32) api.Edit {
	return api.Edit{Removed: nums}
}

// key has so many bytes.
func key(n int) string {
	return strings.Repeat("k", n)
}

func told(x any) string {
	return fmt.Sprintf("%.300q", fmt.Sprint(x))
}

func want(t *testing.T, what string, e, wanted api.Errno) {
	t.Helper()
	if e != wanted {
		t.Errorf("%s = %d; want %d", what, e, wanted)
	}
}

func mustDisk(t *testing.T, size int) *files.Disk {
	t.Helper()
	d, e := files.New(size)
	if e != api.OK {
		t.Fatalf("files.New(%d) = %d", size, e)
	}
	return d
}

func mustOpen(t *testing.T, d *files.Disk) *manifests.Manifest {
	t.Helper()
	m, e := manifests.Open(d)
	if m == nil || e != api.OK {
		t.Fatalf("Open = %v, %d", m, e)
	}
	return m
}

func mustAdd(t *testing.T, m *manifests.Manifest, l ...api.Edit) {
	t.Helper()
	for _, x := range l {
		if e := m.Add(x); e != api.OK {
			t.Fatalf("Add(%s) = %d", told(x), e)
		}
	}
}

func mustFail(t *testing.T, d *files.Disk, keep int, names bool) *files.Disk {
	t.Helper()
	left, e := d.Fail(keep, names)
	if e != api.OK {
		t.Fatalf("Fail = %d", e)
	}
	return left
}

// put makes a file with these bytes, or gives them to the one that is there; all of it is durable.
func put(t *testing.T, d *files.Disk, name string, b []byte) {
	t.Helper()
	d.Remove(name)
	if d.Create(name) != api.OK || d.Append(name, b) != api.OK || d.Sync(name) != api.OK || d.Names() != api.OK {
		t.Fatalf("no file %q of %d bytes", name, len(b))
	}
}

// fill makes empty files with names that are no manifest's, till so many names lead to files.
func fill(t *testing.T, d *files.Disk, many int) {
	t.Helper()
	for i := 0; len(d.List()) < many; i++ {
		put(t, d, "x"+strconv.Itoa(i), nil)
	}
}

func contentOf(t *testing.T, d *files.Disk, name string) []byte {
	t.Helper()
	n, e := d.Size(name)
	if e != api.OK {
		t.Fatalf("Size(%q) = %d", name, e)
	}
	b, _ := d.Read(name, 0, n)
	return b
}

// image is all that can be seen of a disk: what is there, and what is durable.
type image struct {
	present, durable map[string]string
	left             int
}

func imageOf(t *testing.T, d *files.Disk) image {
	t.Helper()
	all := func(d *files.Disk) map[string]string {
		l := map[string]string{}
		for _, name := range d.List() {
			l[name] = string(contentOf(t, d, name))
		}
		return l
	}
	return image{present: all(d), durable: all(mustFail(t, d, 0, false)), left: d.Left()}
}

func wantImage(t *testing.T, what string, d *files.Disk, wanted image) {
	t.Helper()
	x := imageOf(t, d)
	if !maps.Equal(x.present, wanted.present) || !maps.Equal(x.durable, wanted.durable) || x.left != wanted.left {
		t.Errorf("%s: the disk has %s; want %s", what, told(x), told(wanted))
	}
}

// state is what a manifest tells.
type state struct {
	files   []api.File
	journal uint32
	next    uint32
	seq     uint64
}

func wantState(t *testing.T, what string, m *manifests.Manifest, wanted state) {
	t.Helper()
	if l := m.Files(); !slices.Equal(l, wanted.files) {
		t.Errorf("%s: Files = %s; want %s", what, told(l), told(wanted.files))
	}
	if m.Journal() != wanted.journal || m.Next() != wanted.next || m.Seq() != wanted.seq {
		t.Errorf("%s: %d, %d, %d; want %d, %d, %d", what, m.Journal(), m.Next(), m.Seq(), wanted.journal, wanted.next, wanted.seq)
	}
}

// wantDurable opens what is left of a disk, whatever is kept of what is not durable.
func wantDurable(t *testing.T, what string, d *files.Disk, wanted state) {
	t.Helper()
	for _, names := range []bool{false, true} {
		for _, keep := range []int{0, 1, 7, 128, math.MaxInt} {
			left := mustFail(t, d, keep, names)
			m, e := manifests.Open(left)
			if e != api.OK {
				t.Errorf("%s: Open of what is left (%d, %t) = %d", what, keep, names, e)
				continue
			}
			wantState(t, what+", after a crash", m, wanted)
		}
	}
}

// threeEdits make two files, on levels 0 and 1.
func threeEdits() ([]api.Edit, state) {
	l := []api.Edit{
		{Added: []api.File{file(1, 1, "a", "c")}, Journal: 2, Next: 3, Seq: 9},
		{Added: []api.File{file(3, 1, "x", "z"), file(2, 0, "b", "b"), file(9, 3, "q", "q")}, Journal: 4, Next: 5, Seq: 1 << 40},
		{Removed: []uint32{9, 1}, Journal: 6, Next: math.MaxUint32, Seq: 2},
	}
	return l, state{files: []api.File{file(2, 0, "b", "b"), file(3, 1, "x", "z")}, journal: 6, next: math.MaxUint32, seq: 2}
}

func TestExamples(t *testing.T) {
	d := mustDisk(t, 100000)
	m := mustOpen(t, d)
	one := api.Edit{Added: []api.File{file(1, 0, "a", "b")}, Next: 2}
	want(t, "Add", m.Add(one), api.OK)
	wantState(t, "one file", m, state{files: one.Added, next: 2})
	wantState(t, "what is left", mustOpen(t, mustFail(t, d, 0, false)), state{files: one.Added, next: 2})
	want(t, "Add again", m.Add(one), api.ErrArg)
	want(t, "Add of a file that is not there", m.Add(removing(9)), api.ErrArg)
	wantState(t, "as before", m, state{files: one.Added, next: 2})
}

// P14.1: Open

func wantNoManifest(t *testing.T, what string, d *files.Disk, wanted api.Errno) {
	t.Helper()
	if m, e := manifests.Open(d); m != nil || e != wanted {
		t.Errorf("%s: Open = %v, %d; want none, %d", what, m, e, wanted)
	}
}

// wantNotWritten opens a disk whose files no manifest wrote: that changes nothing.
func wantNotWritten(t *testing.T, what string, d *files.Disk) {
	t.Helper()
	before := imageOf(t, d)
	wantNoManifest(t, what, d, api.ErrForm)
	wantImage(t, what, d, before)
}

func TestOpenWithoutDisk(t *testing.T) {
	for _, d := range []*files.Disk{nil, {}, new(files.Disk)} {
		wantNoManifest(t, "no disk", d, api.ErrNil)
	}
}

// Files with names that don't begin with m are others', whatever they hold.
func TestOpenWithoutFilesOfAManifest(t *testing.T) {
	for _, names := range [][]string{nil, {"a"}, {"-m", ".m", "0m", "am", "n", "l", "z"}} {
		d := mustDisk(t, 1000)
		for _, s := range names {
			put(t, d, s, []byte("nothing"))
		}
		m := mustOpen(t, d)
		wantState(t, "no edits", m, state{})
		wantDurable(t, "no edits", d, state{})
		mustAdd(t, m, adding(file(1, 0, "a", "b")))
		wantState(t, "one edit", mustOpen(t, d), state{files: []api.File{file(1, 0, "a", "b")}})
		for _, s := range names {
			if b := contentOf(t, d, s); string(b) != "nothing" {
				t.Errorf("the file %q has %q", s, b)
			}
		}
	}
}

// Open needs no space at all, so that it never returns ErrFull.
func TestOpenWithoutSpace(t *testing.T) {
	l, wanted := threeEdits()
	d := mustDisk(t, 10000)
	mustAdd(t, mustOpen(t, d), l...)
	put(t, d, "x", make([]byte, d.Left()))
	fill(t, d, api.MaxFiles)
	wantState(t, "no space", mustOpen(t, d), wanted)
	d.Remove(name)
	put(t, d, "y", make([]byte, d.Left()))
	wantState(t, "no space, and no edits", mustOpen(t, d), state{})
}

// No manifest writes a file of another name, whatever is in it, and whether there is a right one or not.
func TestOpenOfOtherNames(t *testing.T) {
	l, wanted := threeEdits()
	good := fileAfter(t, l...)
	for _, other := range []string{"m0", "m1", "mm", "m-", "m.", "m-next", "m-unsur", "m-unsure0", "manifest", "m" + strings.Repeat("z", api.MaxName-1)} {
		for _, b := range [][]byte{nil, {1}, good} {
			d := mustDisk(t, 10000)
			put(t, d, other, b)
			wantNotWritten(t, "alone, "+other, d)
			put(t, d, name, good)
			wantNotWritten(t, "beside a right one, "+other, d)
			wantState(t, "without it", mustOpen(t, without(t, d, other)), wanted)
		}
	}
}

// without returns a disk like this one, but for a name.
func without(t *testing.T, d *files.Disk, name string) *files.Disk {
	t.Helper()
	left := mustFail(t, d, math.MaxInt, true)
	want(t, "Remove", left.Remove(name), api.OK)
	want(t, "Names", left.Names(), api.OK)
	return left
}

// someManifests are edits that make small manifests, and greater ones.
func someManifests() [][]api.Edit {
	three, _ := threeEdits()
	return [][]api.Edit{{{}}, {{Seq: 1}}, three[:1], three, {ofSize(126, 1)}, {ofSize(300, 1), removing(1)}}
}

// diskWith has a file m with these bytes.
func diskWith(t *testing.T, b []byte) *files.Disk {
	t.Helper()
	d := mustDisk(t, 10000)
	put(t, d, name, b)
	return d
}

func fileAfter(t *testing.T, l ...api.Edit) []byte {
	t.Helper()
	d := mustDisk(t, api.MaxFile)
	mustAdd(t, mustOpen(t, d), l...)
	return contentOf(t, d, name)
}

func TestOpenOfFileThatIsCutOff(t *testing.T) {
	for _, l := range someManifests() {
		b := fileAfter(t, l...)
		for n := range b {
			wantNotWritten(t, "cut at "+strconv.Itoa(n), diskWith(t, b[:n]))
		}
		mustOpen(t, diskWith(t, b))
	}
}

func TestOpenOfFileThatGoesOn(t *testing.T) {
	for _, l := range someManifests() {
		b := fileAfter(t, l...)
		for _, more := range [][]byte{{0}, {1}, {255}, make([]byte, 7), make([]byte, 128), make([]byte, 128-len(b)%128), b} {
			wantNotWritten(t, "more bytes", diskWith(t, slices.Concat(b, more)))
		}
	}
}

func TestOpenOfFileThatIsChanged(t *testing.T) {
	for _, l := range someManifests() {
		b := fileAfter(t, l...)
		for at := range b {
			for bit := range 8 {
				b[at] ^= 1 << bit
				wantNotWritten(t, "changed at "+strconv.Itoa(at), diskWith(t, b))
				b[at] ^= 1 << bit
			}
			wantNotWritten(t, "a byte less", diskWith(t, slices.Delete(slices.Clone(b), at, at+1)))
			wantNotWritten(t, "a byte more", diskWith(t, slices.Insert(slices.Clone(b), at, 'x')))
		}
	}
}

func TestOpenOfBytesThatAreNone(t *testing.T) {
	for _, b := range [][]byte{nil, {0}, {0, 0, 0, 0, 0}, make([]byte, 7), make([]byte, 128), make([]byte, 5000), []byte("a manifest")} {
		wantNotWritten(t, "no manifest", diskWith(t, b))
	}
}

// journalOf has these records.
func journalOf(t *testing.T, records ...[]byte) *files.Disk {
	t.Helper()
	d := mustDisk(t, api.MaxFile)
	j, _, e := journals.Open(d, name)
	want(t, "journals.Open", e, api.OK)
	for _, r := range records {
		want(t, "journals.Add", j.Add(r), api.OK)
	}
	want(t, "journals.Sync", j.Sync(), api.OK)
	want(t, "Names", d.Names(), api.OK)
	return d
}

func bytesOf(t *testing.T, x api.Edit) []byte {
	t.Helper()
	b, e := edits.Put(x)
	if e != api.OK {
		t.Fatalf("edits.Put(%s) = %d", told(x), e)
	}
	return b
}

// Records that are right, but not those of a manifest: it writes one edit, which removes nothing, and whose files are in order.
func TestOpenOfOtherRecords(t *testing.T) {
	a, b := file(1, 0, "a", "b"), file(2, 0, "a", "b")
	good := bytesOf(t, adding(a, b))
	wantState(t, "good", mustOpen(t, journalOf(t, good)), state{files: []api.File{a, b}})
	wantNotWritten(t, "no record", journalOf(t))
	wantNotWritten(t, "an empty record", journalOf(t, nil))
	wantNotWritten(t, "two records", journalOf(t, good, good))
	wantNotWritten(t, "an empty record before it", journalOf(t, nil, good))
	wantNotWritten(t, "an empty record after it", journalOf(t, good, nil))
	wantNotWritten(t, "no edit", journalOf(t, []byte("edit")))
	wantNotWritten(t, "an edit that is cut off", journalOf(t, good[:len(good)-1]))
	wantNotWritten(t, "an edit and a byte", journalOf(t, append(slices.Clone(good), 0)))
	wantNotWritten(t, "files in another order", journalOf(t, bytesOf(t, adding(b, a))))
	wantNotWritten(t, "levels in another order", journalOf(t, bytesOf(t, adding(file(1, 1, "a", "b"), b))))
	wantNotWritten(t, "a file twice", journalOf(t, bytesOf(t, adding(a, a))))
	wantNotWritten(t, "a number twice", journalOf(t, bytesOf(t, adding(a, file(1, 1, "a", "b")))))
	wantNotWritten(t, "a file removed", journalOf(t, bytesOf(t, removing(1))))
	wantNotWritten(t, "a file removed that it adds", journalOf(t, bytesOf(t, api.Edit{Added: []api.File{a}, Removed: []uint32{1}})))
}

// A record above the greatest that a journal writes.
func TestOpenOfTooLongARecord(t *testing.T) {
	x := ofSize(api.MaxRecord, 1)
	b := fileAfter(t, thirds(x)...)
	d := mustDisk(t, api.MaxFile)
	put(t, d, name, b)
	wantState(t, "the longest", mustOpen(t, d), state{files: x.Added})
	put(t, d, name, append(b, 0))
	wantNotWritten(t, "and a byte", d)
}

// P14.1, P14.4: a disk that fails while a call writes the next file

// wantFailedWhile opens a disk whose next file is not the manifest's yet, and goes on.
func wantFailedWhile(t *testing.T, what string, d *files.Disk, before state) {
	t.Helper()
	m := mustOpen(t, d)
	wantState(t, what, m, before)
	wantDurable(t, what, d, before)
	mustAdd(t, m, api.Edit{Added: []api.File{file(77, 2, "k", "l")}, Seq: 7})
	after := state{files: append(slices.Clone(before.files), file(77, 2, "k", "l")), seq: 7}
	wantState(t, what, m, after)
	wantDurable(t, what, d, after)
	if l := d.List(); !slices.Equal(l, []string{name}) {
		t.Errorf("%s: names %q", what, l)
	}
}

func TestDiskFailsWhileTheNextFileIsWritten(t *testing.T) {
	l, wanted := threeEdits()
	next := fileAfter(t, append(l, ofSize(200, 50))...)
	for n := range len(next) + 1 {
		d := mustDisk(t, 10000)
		put(t, d, unsure, next[:n])
		wantFailedWhile(t, "no file before", d, state{})
		d = mustDisk(t, 10000)
		mustAdd(t, mustOpen(t, d), l...)
		put(t, d, unsure, next[:n])
		wantFailedWhile(t, "a file before", d, wanted)
	}
}

// What a crash left of the next file doesn't make one that is there right.
func TestNextFileBesideAWrongOne(t *testing.T) {
	l, _ := threeEdits()
	b := fileAfter(t, l...)
	d := diskWith(t, b[:len(b)-1])
	put(t, d, unsure, b)
	wantNotWritten(t, "a wrong file", d)
}
