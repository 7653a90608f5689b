package manifests_test

import (
	"encoding/binary"
	"math"
	"slices"
	"strconv"
	"strings"
	"testing"

	"bucketline/api"
	"bucketline/files"
	"bucketline/manifests"
)

// plain follows the chapter word by word: it keeps all edits, and works out from them what there is.
type plain struct {
	edits []api.Edit
}

// plainLength counts the bytes of an edit, as the library writes its numbers.
func plainLength(x api.Edit) int {
	numbers := []uint64{uint64(len(x.Added)), uint64(len(x.Removed)), uint64(x.Journal), uint64(x.Next), x.Seq}
	n := 0
	for _, f := range x.Added {
		numbers = append(numbers, uint64(f.Num), uint64(f.Level), uint64(len(f.Least)), uint64(len(f.Most)))
		n += len(f.Least) + len(f.Most)
	}
	for _, num := range x.Removed {
		numbers = append(numbers, uint64(num))
	}
	for _, v := range numbers {
		n += len(binary.AppendUvarint(nil, v))
	}
	return n
}

func plainValid(x api.Edit) bool {
	for _, f := range x.Added {
		if f.Level < 0 || f.Level > 3 || f.Least == "" || len(f.Most) > 32 || len(f.Least) > 32 || strings.Compare(f.Least, f.Most) > 0 {
			return false
		}
	}
	return true
}

// all tells the files after all edits, in no order.
func (p plain) all() []api.File {
	var l []api.File
	for _, x := range p.edits {
		l = slices.DeleteFunc(l, func(f api.File) bool { return slices.Contains(x.Removed, f.Num) })
		l = append(l, x.Added...)
	}
	return l
}

func (p plain) state() state {
	s := state{}
	for level := range api.MaxLevels {
		var l []api.File
		for _, f := range p.all() {
			if f.Level == level {
				l = append(l, f)
			}
		}
		slices.SortFunc(l, func(x, y api.File) int { return int(int64(x.Num) - int64(y.Num)) })
		s.files = append(s.files, l...)
	}
	if n := len(p.edits); n > 0 {
		x := p.edits[n-1]
		s.journal, s.next, s.seq = x.Journal, x.Next, x.Seq
	}
	return s
}

// possible reports whether an edit can be done with the files that there are.
func (p plain) possible(x api.Edit) bool {
	nums := map[uint32]int{}
	for _, f := range p.all() {
		nums[f.Num]++
	}
	for _, num := range x.Removed {
		nums[num]--
		if nums[num] != 0 {
			return false
		}
	}
	for _, f := range x.Added {
		nums[f.Num]++
		if nums[f.Num] != 1 {
			return false
		}
	}
	return true
}

// error is that of Add, but for ErrFull.
func (p plain) error(x api.Edit) api.Errno {
	switch {
	case !plainValid(x):
		return api.ErrArg
	case plainLength(x) > 32768:
		return api.ErrLimit
	case !p.possible(x):
		return api.ErrArg
	}
	return api.OK
}

// enough reports whether a disk has enough space for one more edit, if what the manifest has there counts as space for it.
func (p plain) enough(t *testing.T, d *files.Disk, size int, x api.Edit) bool {
	t.Helper()
	names := 0
	for _, s := range d.List() {
		if s[0] != 'm' {
			n, _ := d.Size(s)
			size, names = size-n, names+1
		}
	}
	sum := plainLength(x)
	for _, y := range p.edits {
		sum += plainLength(y)
	}
	after := plain{append(slices.Clone(p.edits), x)}
	return size >= 4096+2*sum && plainLength(adding(after.all()...)) <= 32768 && api.MaxFiles-names >= 3
}

// dice gives the same numbers at each run.
type dice uint64

func (s *dice) upTo(n int) int {
	*s = *s*6364136223846793005 + 1442695040888963407
	return int(uint64(*s>>33) % uint64(n))
}

func (s *dice) key() string {
	n := 1 + s.upTo(4)
	if s.upTo(4) == 0 {
		n = 1 + s.upTo(32)
	}
	return strings.Repeat(string(byte('a'+s.upTo(3))), n)
}

func (s *dice) file() api.File {
	x, y := s.key(), s.key()
	f := file(uint32(s.upTo(40)), s.upTo(4), min(x, y), max(x, y))
	switch s.upTo(60) {
	case 0:
		f.Level = s.upTo(9) - 3
	case 1:
		f.Least, f.Most = f.Most, f.Least
	case 2:
		f.Num = math.MaxUint32 - f.Num
	}
	return f
}

// edit is mostly one that is possible.
func (s *dice) edit(l []api.File) api.Edit {
	x := api.Edit{Journal: uint32(s.upTo(300)), Next: uint32(s.upTo(300)) << s.upTo(24), Seq: uint64(s.upTo(300)) << s.upTo(56)}
	for _, f := range l {
		if s.upTo(6) == 0 {
			x.Removed = append(x.Removed, f.Num)
		}
	}
	for range s.upTo(5) {
		x.Added = append(x.Added, s.file())
	}
	if s.upTo(20) == 0 {
		x.Removed = append(x.Removed, uint32(s.upTo(40)))
	}
	return x
}

// run is a manifest beside what it is to have.
type run struct {
	disk     *files.Disk
	size     int
	manifest *manifests.Manifest
	plain    plain
	full     int // times that Add returned ErrFull
}

func (r *run) check(t *testing.T, what string) {
	t.Helper()
	wantState(t, what, r.manifest, r.plain.state())
	wantDurable(t, what, r.disk, r.plain.state())
}

func (r *run) add(t *testing.T, x api.Edit) {
	t.Helper()
	before := imageOf(t, r.disk)
	enough := r.plain.enough(t, r.disk, r.size, x)
	e := r.manifest.Add(x)
	if wanted := r.plain.error(x); wanted != api.OK {
		want(t, "Add", e, wanted)
	} else if e != api.OK {
		want(t, "Add", e, api.ErrFull)
		r.full++
		if enough {
			t.Errorf("Add(%s): no space, where there is enough", told(x))
		}
	}
	if e != api.OK {
		wantImage(t, "Add in vain", r.disk, before)
	} else {
		r.plain.edits = append(r.plain.edits, x)
	}
	r.check(t, "Add")
}

// other is what others do with the disk.
func (r *run) other(t *testing.T, s *dice) {
	t.Helper()
	name := "x" + strconv.Itoa(s.upTo(70))
	switch s.upTo(6) {
	case 0, 1:
		r.disk.Create(name)
	case 2:
		r.disk.Append(name, make([]byte, s.upTo(1000)))
	case 3:
		r.disk.Append(name, make([]byte, r.disk.Left()/(1+s.upTo(3))))
	case 4:
		r.disk.Remove(name)
	case 5:
		r.disk.Names()
	}
	r.check(t, "others")
}

func (r *run) open(t *testing.T) {
	t.Helper()
	r.manifest = mustOpen(t, r.disk)
	r.check(t, "Open")
}

func TestAgainstPlainRuns(t *testing.T) {
	full := 0
	for seed := range 150 {
		s := dice(seed)
		size := []int{500, 3000, 6000, 20000, 1 << 20}[s.upTo(5)]
		r := &run{disk: mustDisk(t, size), size: size}
		r.open(t)
		for range 60 {
			switch s.upTo(12) {
			case 0:
				r.open(t)
			case 1:
				r.disk = mustFail(t, r.disk, s.upTo(2)*s.upTo(300), s.upTo(2) == 0)
				r.open(t)
			case 2, 3, 4:
				r.other(t, &s)
			default:
				r.add(t, s.edit(r.plain.all()))
			}
		}
		full += r.full
		if t.Failed() {
			t.Fatalf("seed %d", seed)
		}
	}
	if full < 20 {
		t.Errorf("only %d times there was no space", full)
	}
}

// In steps of one byte, a disk gets smaller, till an edit can't be added: never before it has less than enough space.
func TestAgainstPlainAtAllSizes(t *testing.T) {
	l, _ := threeEdits()
	for size := 1; size < 6000; size += 1 + size/50 {
		r := &run{disk: mustDisk(t, size), size: size}
		r.open(t)
		for _, x := range slices.Concat(l, []api.Edit{ofSize(600, 100), {}, removing(100), adding(file(100, 3, "b", "c"))}) {
			r.add(t, x)
		}
		if size > 5500 && r.full > 0 {
			t.Errorf("%d bytes: no space", size)
		}
	}
}
