package manifests_test

import (
	"math"
	"slices"
	"strconv"
	"testing"

	"bucketline/api"
	"bucketline/edits"
	"bucketline/files"
	"bucketline/manifests"
)

// ofSize is an edit of so many bytes that adds files with numbers from a first one on, in order. (From 100 bytes on.)
func ofSize(size int, first uint32) api.Edit {
	x := api.Edit{}
	for length(x) <= size-100 {
		x.Added = append(x.Added, file(first+uint32(len(x.Added)), 0, key(32), key(32)))
	}
	num := first + uint32(len(x.Added))
	for n := 2; n <= 64; n++ {
		y := x
		y.Added = append(slices.Clone(x.Added), file(num, 0, key(n/2), key(n-n/2)))
		if length(y) == size {
			return y
		}
		y.Added = append(y.Added, file(num+1, 0, key(16), key(17)))
		if length(y) == size {
			return y
		}
	}
	panic("no edit of " + strconv.Itoa(size) + " bytes")
}

func length(x api.Edit) int {
	b, _ := edits.Put(x)
	return len(b)
}

// thirds are three edits that add the files of one.
func thirds(x api.Edit) []api.Edit {
	n := len(x.Added) / 3
	return []api.Edit{adding(x.Added[:n]...), adding(x.Added[n : 2*n]...), adding(x.Added[2*n:]...)}
}

// P14.2: the errors of Add

// wantError adds an edit in vain: it changes nothing, neither in the manifest nor on the disk.
func wantError(t *testing.T, what string, m *manifests.Manifest, d *files.Disk, x api.Edit, wanted api.Errno) {
	t.Helper()
	was := state{m.Files(), m.Journal(), m.Next(), m.Seq()}
	before := imageOf(t, d)
	if e := m.Add(x); e != wanted {
		t.Errorf("%s: Add(%s) = %d; want %d", what, told(x), e, wanted)
	}
	wantState(t, what, m, was)
	wantImage(t, what, d, before)
}

func TestNoManifest(t *testing.T) {
	good := adding(file(1, 0, "a", "b"))
	bad := adding(file(1, 4, "a", "b"))
	for _, m := range []*manifests.Manifest{nil, {}, new(manifests.Manifest)} {
		for range 2 {
			for _, x := range []api.Edit{good, bad, {}, removing(1), ofSize(maxEdit+1, 1)} {
				want(t, "Add", m.Add(x), api.ErrNil)
			}
			wantState(t, "none", m, state{})
		}
	}
}

const maxEdit = 32768

// badEdits cannot be put: a level, or a key, or their order is invalid.
func badEdits() []api.Edit {
	good := file(7, 0, "a", "b")
	var l []api.Edit
	for _, f := range []api.File{{}, file(8, -1, "a", "b"), file(8, 4, "a", "b"), file(8, math.MaxInt, "a", "b"), file(8, math.MinInt, "a", "b"), file(8, 0, "", "b"), file(8, 0, "a", ""), file(8, 0, "b", "a"), file(8, 0, key(33), "z"), file(8, 0, "a", key(33))} {
		l = append(l, adding(f), adding(good, f), adding(f, good), api.Edit{Added: []api.File{f}, Removed: []uint32{1}, Journal: 9, Next: 9, Seq: 9})
	}
	return l
}

// impossibleEdits can be put, but not be done with files 1 to 3.
func impossibleEdits() []api.Edit {
	a := func(num uint32) api.File { return file(num, 1, "a", "b") }
	return []api.Edit{
		adding(a(1)), adding(a(2)), adding(a(3)), adding(a(4), a(1)), adding(a(4), a(4)), adding(a(4), file(4, 3, "c", "d")),
		removing(0), removing(4), removing(1, 1), removing(1, 2, 3, 1), removing(1, 2, 3, math.MaxUint32),
		{Added: []api.File{a(4)}, Removed: []uint32{4}},
		{Added: []api.File{a(1)}, Removed: []uint32{2}},
		{Added: []api.File{a(1), a(1)}, Removed: []uint32{1}},
		{Added: []api.File{a(1)}, Removed: []uint32{1, 1}},
		{Added: []api.File{a(5)}, Removed: []uint32{4}, Journal: 9, Next: 9, Seq: 9},
	}
}

func threeFiles() api.Edit {
	return api.Edit{Added: []api.File{file(2, 0, "a", "b"), file(1, 1, "a", "b"), file(3, 1, "a", "b")}, Journal: 5, Next: 6, Seq: 7}
}

func TestAddOfWrongEdits(t *testing.T) {
	d := mustDisk(t, 100000)
	m := mustOpen(t, d)
	for _, x := range badEdits() {
		wantError(t, "invalid, and the first", m, d, x, api.ErrArg)
	}
	wantError(t, "nothing to remove", m, d, removing(1), api.ErrArg)
	mustAdd(t, m, threeFiles())
	for _, x := range slices.Concat(badEdits(), impossibleEdits()) {
		wantError(t, "wrong", m, d, x, api.ErrArg)
	}
	wantDurable(t, "after errors", d, state{threeFiles().Added, 5, 6, 7})
	mustAdd(t, m, removing(1, 2, 3), threeFiles())
	wantDurable(t, "after errors", d, state{threeFiles().Added, 5, 6, 7})
}

func TestAddOfLongEdits(t *testing.T) {
	for _, size := range []int{maxEdit - 1, maxEdit} {
		x := ofSize(size, 1)
		d := mustDisk(t, 1<<20)
		m := mustOpen(t, d)
		mustAdd(t, m, x)
		wantState(t, "long", m, state{files: x.Added})
		wantDurable(t, "long", d, state{files: x.Added})
	}
	for _, size := range []int{maxEdit + 1, maxEdit + 2, 2 * maxEdit, 100000} {
		d := mustDisk(t, 1<<20)
		m := mustOpen(t, d)
		wantError(t, "too long", m, d, ofSize(size, 1), api.ErrLimit)
		mustAdd(t, m, threeFiles())
		wantError(t, "too long", m, d, ofSize(size, 4), api.ErrLimit)
	}
}

// The bytes of an edit count as they are put, those of its removed numbers and of its last numbers, too.
func TestAddOfLongEditsThatRemove(t *testing.T) {
	d := mustDisk(t, 1<<20)
	m := mustOpen(t, d)
	x := ofSize(maxEdit, 1)
	mustAdd(t, m, x)
	wantError(t, "a byte more", m, d, api.Edit{Removed: make([]uint32, 40000)}, api.ErrLimit)
	wantError(t, "as long as it may be", m, d, api.Edit{Removed: make([]uint32, maxEdit-7)}, api.ErrArg)
	wantError(t, "a greater number at the end", m, d, api.Edit{Removed: make([]uint32, maxEdit-7), Seq: 128}, api.ErrLimit)
	y := ofSize(maxEdit-1, 1)
	y.Journal = 128
	var nums []uint32
	for _, f := range x.Added {
		nums = append(nums, f.Num)
	}
	mustAdd(t, m, removing(nums...), y)
	wantDurable(t, "another one", d, state{files: y.Added, journal: 128})
}

// tooLong are so many files that no edit can add them.
func tooLong() []api.File {
	return ofSize(maxEdit+1, 100).Added
}

func TestOrderOfErrors(t *testing.T) {
	d := mustDisk(t, 200)
	m := mustOpen(t, d)
	mustAdd(t, m, threeFiles())
	put(t, d, "x", make([]byte, d.Left()))
	fill(t, d, api.MaxFiles)
	bad, there := file(8, 4, "a", "b"), file(1, 0, "a", "b")
	wantError(t, "invalid, too long, impossible, no space", m, d, api.Edit{Added: append(tooLong(), there, bad), Removed: []uint32{9}}, api.ErrArg)
	wantError(t, "too long, impossible, no space", m, d, api.Edit{Added: append(tooLong(), there), Removed: []uint32{9}}, api.ErrLimit)
	wantError(t, "impossible, no space", m, d, adding(there), api.ErrArg)
	wantError(t, "no space", m, d, adding(file(4, 0, "a", "b")), api.ErrFull)
	wantError(t, "no space", m, d, api.Edit{}, api.ErrFull)
}

// P14.2: space

// like returns a disk of this size with the same manifest, and empty files till so many names lead to files.
func like(t *testing.T, d *files.Disk, size, names int) *files.Disk {
	t.Helper()
	c := mustDisk(t, size)
	if slices.Contains(d.List(), name) {
		put(t, c, name, contentOf(t, d, name))
	}
	fill(t, c, names)
	return c
}

// shrink takes space till so much is left.
func shrink(t *testing.T, d *files.Disk, left int) {
	t.Helper()
	for d.Left() > left {
		s := "y" + strconv.Itoa(len(d.List()))
		put(t, d, s, make([]byte, min(d.Left()-left, api.MaxFile)))
	}
	if d.Left() != left {
		t.Fatalf("%d bytes are left; want %d", d.Left(), left)
	}
}

// spaceRuns are edits one after the other: small ones, long ones, ones that add and remove, up to files whose edit has exactly 32768 bytes.
func spaceRuns() map[string][]api.Edit {
	runs := map[string][]api.Edit{"three": nil, "empty": make([]api.Edit, 30), "all": {ofSize(maxEdit, 1)}}
	runs["three"], _ = threeEdits()
	for i := range uint32(60) {
		f := file(i, int(i%4), key(1+int(i)%32), key(32))
		runs["growing"] = append(runs["growing"], api.Edit{Added: []api.File{f}, Journal: i << 20, Next: i << 25, Seq: uint64(i) << 55})
		runs["one after the other"] = append(runs["one after the other"], adding(f), removing(i))
	}
	x := ofSize(maxEdit, 1)
	runs["thirds"] = append(thirds(x), api.Edit{Removed: []uint32{1, 2, 3}}, adding(x.Added[:3]...))
	runs["edits of two such sizes"] = []api.Edit{ofSize(maxEdit, 1), ofSize(maxEdit, 1000)}
	for i := range 20 {
		n := len(x.Added)
		runs["twenty"] = append(runs["twenty"], adding(x.Added[i*n/20:(i+1)*n/20]...))
	}
	return runs
}

// Enough space is enough, as exactly as the chapter counts it: whether what the manifest has on the disk already counts as space for it or not.
func TestAddWithEnoughSpace(t *testing.T) {
	for what, l := range spaceRuns() {
		d := mustDisk(t, 8*api.MaxFile)
		m, sum := mustOpen(t, d), 0
		for _, x := range l {
			sum += len(bytesOf(t, x))
			enough := 4096 + 2*sum
			tight := like(t, d, enough, api.MaxFiles-3)
			narrow := like(t, d, enough+100000, api.MaxFiles-13)
			shrink(t, narrow, enough)
			fill(t, narrow, api.MaxFiles-3)
			mustAdd(t, m, x)
			for _, c := range []*files.Disk{tight, narrow} {
				if c.Left() > enough || len(c.List()) != api.MaxFiles-3 {
					t.Fatalf("%d bytes, %d names", c.Left(), len(c.List()))
				}
				mustAdd(t, mustOpen(t, c), x)
				wantDurable(t, what, c, state{m.Files(), m.Journal(), m.Next(), m.Seq()})
			}
		}
	}
}

// One byte less than enough, or one name, may do, too; if not, nothing happens.
func TestAddWithAlmostEnoughSpace(t *testing.T) {
	l, _ := threeEdits()
	d := mustDisk(t, 10000)
	m, sum := mustOpen(t, d), 0
	for _, x := range l {
		sum += len(bytesOf(t, x))
		mustAdd(t, m, x)
		for _, less := range []int{1, 2, 100, 4096} {
			for _, names := range []int{3, 2, 1, 0} {
				c := like(t, d, 4096+2*sum-less, api.MaxFiles-names)
				wantDoneOrNot(t, c, adding(file(50, 0, "a", "b")))
			}
		}
	}
}

// wantDoneOrNot adds an edit: it is there wholly, or not at all.
func wantDoneOrNot(t *testing.T, d *files.Disk, x api.Edit) bool {
	t.Helper()
	m := mustOpen(t, d)
	was := state{m.Files(), m.Journal(), m.Next(), m.Seq()}
	before := imageOf(t, d)
	if e := m.Add(x); e == api.ErrFull {
		wantState(t, "not done", m, was)
		wantImage(t, "not done", d, before)
		wantDurable(t, "not done", d, was)
		return false
	} else if e != api.OK {
		t.Errorf("Add(%s) = %d", told(x), e)
	}
	l, _ := edits.Do(was.files, x)
	is := state{l, x.Journal, x.Next, x.Seq}
	wantState(t, "done", m, is)
	wantDurable(t, "done", d, is)
	return true
}

// From no space at all to more than is needed: below a size nothing is done, and from it on all is.
func TestAddWithAnySpace(t *testing.T) {
	three, _ := threeEdits()
	for _, before := range [][]api.Edit{nil, three} {
		d := mustDisk(t, 10000)
		mustAdd(t, mustOpen(t, d), before...)
		x := ofSize(400, 60)
		needed := -1
		for left := range 900 {
			c := like(t, d, 10000, 0)
			shrink(t, c, left)
			done := wantDoneOrNot(t, c, x)
			if done && needed < 0 {
				needed = left
			}
			if done != (needed >= 0) {
				t.Errorf("%d bytes are enough, but %d are not", needed, left)
			}
		}
		if needed < 300 || needed > 600 {
			t.Errorf("%d bytes are needed", needed)
		}
	}
}

func TestAddWithAnyNames(t *testing.T) {
	l, _ := threeEdits()
	for names := range api.MaxFiles + 1 {
		d := mustDisk(t, 10000)
		fill(t, d, names)
		done := wantDoneOrNot(t, d, l[0])
		if free := api.MaxFiles - names; !done && free >= 3 {
			t.Errorf("%d names are free, but not enough", free)
		}
		if names == api.MaxFiles && done {
			t.Errorf("no name is free, but enough")
		}
	}
}

// After an edit for which there was no space, others are added.
func TestAddGoesOnWhenThereIsSpace(t *testing.T) {
	d := mustDisk(t, 1000)
	m := mustOpen(t, d)
	mustAdd(t, m, threeFiles())
	x := ofSize(950, 10)
	wantError(t, "no space", m, d, x, api.ErrFull)
	mustAdd(t, m, removing(2))
	wantError(t, "no space", m, d, x, api.ErrFull)
	put(t, d, "x", make([]byte, d.Left()))
	wantError(t, "no space at all", m, d, removing(1), api.ErrFull)
	want(t, "Remove", d.Remove("x"), api.OK)
	mustAdd(t, m, removing(1))
	wantDurable(t, "after errors", d, state{files: []api.File{file(3, 1, "a", "b")}})
}

// Edits are added till there is no more space: what was added before it is there.
func TestAddTillTheDiskIsFull(t *testing.T) {
	for _, size := range []int{1, 11, 12, 500, 3000, 20000} {
		d := mustDisk(t, size)
		m, was := mustOpen(t, d), state{}
		e := api.OK
		for i := uint32(0); e == api.OK && int(i) < size; i++ {
			x := api.Edit{Added: []api.File{file(i, 2, "a", key(20))}, Journal: i + 1, Next: i + 2, Seq: uint64(i)}
			if e = m.Add(x); e == api.OK {
				was = state{append(was.files, x.Added...), i + 1, i + 2, uint64(i)}
			}
		}
		want(t, "Add", e, api.ErrFull)
		wantState(t, "full", m, was)
		wantDurable(t, "full", d, was)
		if len(was.files) < size/100 {
			t.Errorf("only %d files on %d bytes", len(was.files), size)
		}
	}
}

// Files beyond what a record can tell are too many, on any disk.
func TestAddOfMoreFilesThanARecordTells(t *testing.T) {
	d := mustDisk(t, 8*api.MaxFile)
	m := mustOpen(t, d)
	x := ofSize(api.MaxRecord, 1)
	mustAdd(t, m, thirds(x)...)
	wantDurable(t, "the most", d, state{files: x.Added})
	wantError(t, "one more", m, d, adding(file(9000, 0, "a", "b")), api.ErrFull)
	wantError(t, "a greater number", m, d, api.Edit{Seq: 128}, api.ErrFull)
	mustAdd(t, m, removing(1), adding(file(9000, 0, "a", "b")))
	wantDurable(t, "one less, and another", d, state{files: append(x.Added[1:], file(9000, 0, "a", "b"))})
}

// Many edits that remove what was added need no more space than their files do.
func TestManyEditsOnASmallDisk(t *testing.T) {
	d := mustDisk(t, 400)
	m := mustOpen(t, d)
	mustAdd(t, m, adding(file(0, 0, "a", "b")))
	for i := range uint32(5000) {
		mustAdd(t, m, api.Edit{Added: []api.File{file(i+1, 1, "a", "b")}, Removed: []uint32{i}, Next: i + 2, Seq: uint64(i)})
		if i%1000 == 7 {
			wantDurable(t, "many", d, state{files: []api.File{file(i+1, 1, "a", "b")}, next: i + 2, seq: uint64(i)})
			d = mustFail(t, d, 0, i%2 == 0)
			m = mustOpen(t, d)
		}
	}
	wantState(t, "many", m, state{files: []api.File{file(5000, 1, "a", "b")}, next: 5001, seq: 4999})
}

// What others do with the file of a manifest is not part of it: the next edit is added all the same, with all before it.
func TestAddWhenTheFileIsGoneOrAnother(t *testing.T) {
	l, wanted := threeEdits()
	for _, spoil := range []func(d *files.Disk){
		func(d *files.Disk) { d.Remove(name) },
		func(d *files.Disk) { d.Rename(name, "x") },
		func(d *files.Disk) { d.Append(name, []byte{1}) },
		func(d *files.Disk) { d.Remove(name); d.Create(name) },
		func(d *files.Disk) { d.Create(unsure); d.Append(unsure, []byte("another")) },
	} {
		d := mustDisk(t, 10000)
		m := mustOpen(t, d)
		mustAdd(t, m, l[:2]...)
		spoil(d)
		mustAdd(t, m, l[2])
		wantDurable(t, "spoiled", d, wanted)
	}
}

// P14.3

func TestWhatTheLastEditSays(t *testing.T) {
	d := mustDisk(t, 10000)
	m := mustOpen(t, d)
	for _, x := range []api.Edit{{Journal: 1}, {Next: 1}, {Seq: 1}, {Journal: math.MaxUint32, Next: math.MaxUint32, Seq: math.MaxUint64}, {Journal: 127, Next: 128, Seq: 1 << 63}, {Journal: 3, Next: 2, Seq: 1}, {}} {
		mustAdd(t, m, x)
		wantState(t, "no files", m, state{nil, x.Journal, x.Next, x.Seq})
		wantDurable(t, "no files", d, state{nil, x.Journal, x.Next, x.Seq})
	}
}

// Files come by their levels, and then by their numbers, whatever the order of the edits.
func TestFilesAreInOrder(t *testing.T) {
	l := []api.File{file(9, 0, "a", "b"), file(math.MaxUint32, 0, "a", "b"), file(0, 1, "a", "b"), file(128, 1, "a", "b"), file(2, 3, "\x00", "\xff")}
	for turn := range l {
		d := mustDisk(t, 10000)
		m := mustOpen(t, d)
		for i := range l {
			mustAdd(t, m, adding(l[(i*2+turn)%len(l)]))
		}
		wantState(t, "in order", m, state{files: l})
		wantDurable(t, "in order", d, state{files: l})
	}
}

// R4

func TestFilesReturnsNewMemory(t *testing.T) {
	d := mustDisk(t, 10000)
	m := mustOpen(t, d)
	mustAdd(t, m, threeFiles())
	wanted := state{threeFiles().Added, 5, 6, 7}
	for _, x := range []*manifests.Manifest{m, mustOpen(t, d)} {
		l := x.Files()
		other := x.Files()
		clear(l[:cap(l)])
		if !slices.Equal(other, wanted.files) {
			t.Errorf("Files shares memory: %s", told(other))
		}
		wantState(t, "its own", x, wanted)
	}
}

func TestAddKeepsNothingOfItsArgument(t *testing.T) {
	d := mustDisk(t, 10000)
	m := mustOpen(t, d)
	added := append(make([]api.File, 0, 9), file(5, 0, "a", "b"), file(4, 0, "a", "b"))
	removed := append(make([]uint32, 0, 9), 4, 5)
	mustAdd(t, m, adding(added...))
	x := api.Edit{Added: append(added[:0:0], file(7, 0, "a", "b"), file(6, 0, "a", "b")), Removed: removed}
	mustAdd(t, m, x)
	if !slices.Equal(added, []api.File{file(5, 0, "a", "b"), file(4, 0, "a", "b")}) || added[:3][2] != (api.File{}) || !slices.Equal(removed[:3], []uint32{4, 5, 0}) || x.Added[0].Num != 7 {
		t.Errorf("Add changed its argument: %s %s %s", told(added[:3]), told(removed[:3]), told(x))
	}
	clear(added)
	clear(x.Added)
	clear(removed)
	wantState(t, "its own", m, state{files: []api.File{file(6, 0, "a", "b"), file(7, 0, "a", "b")}})
}

// R5: manifests on two disks have nothing in common, even if one disk is what a failure left of the other.
func TestManifestsOnTwoDisks(t *testing.T) {
	d := mustDisk(t, 10000)
	m := mustOpen(t, d)
	mustAdd(t, m, adding(file(1, 0, "a", "b")))
	left := mustFail(t, d, 0, false)
	o := mustOpen(t, left)
	mustAdd(t, o, adding(file(2, 0, "a", "b")))
	mustAdd(t, m, removing(1))
	wantState(t, "one", m, state{})
	wantState(t, "another", o, state{files: []api.File{file(1, 0, "a", "b"), file(2, 0, "a", "b")}})
	wantDurable(t, "one", d, state{})
	wantDurable(t, "another", left, state{files: []api.File{file(1, 0, "a", "b"), file(2, 0, "a", "b")}})
}

// A manifest that is opened again, on the same disk, has all; opening it changes nothing for the first one.
func TestOpenAgain(t *testing.T) {
	l, wanted := threeEdits()
	d := mustDisk(t, 10000)
	m := mustOpen(t, d)
	for _, x := range l {
		mustAdd(t, m, x)
		before := imageOf(t, d)
		o := mustOpen(t, d)
		wantImage(t, "Open", d, before)
		wantState(t, "again", o, state{m.Files(), m.Journal(), m.Next(), m.Seq()})
	}
	wantState(t, "all", m, wanted)
}
