package files_test

import (
	"slices"
	"strings"
	"testing"

	"bucketline/api"
	"bucketline/files"
)

// plainDisk follows the definitions in another way: files stay in a list for ever, directories are lists of links to them, and bytes are strings.
type plainDisk struct {
	size             int
	files            []plainFile
	present, durable []link
}

type plainFile struct {
	all, durable string
}

type link struct {
	name string
	file int
}

// file returns the number of the file that a name leads to, or -1.
func (p *plainDisk) file(name string) int {
	for _, l := range p.present {
		if l.name == name {
			return l.file
		}
	}
	return -1
}

func (p *plainDisk) unlink(name string) {
	p.present = slices.DeleteFunc(slices.Clone(p.present), func(l link) bool { return l.name == name })
}

func (p *plainDisk) link(name string, file int) {
	p.unlink(name)
	p.present = append(p.present, link{name, file})
}

func (p *plainDisk) left() int {
	left := p.size
	for _, l := range p.present {
		left -= len(p.files[l.file].all)
	}
	return max(left, 0)
}

func (p *plainDisk) create(name string) api.Errno {
	if p.file(name) >= 0 {
		return api.ErrThere
	}
	if len(p.present) == api.MaxFiles {
		return api.ErrFull
	}
	p.files = append(p.files, plainFile{})
	p.link(name, len(p.files)-1)
	return api.OK
}

func (p *plainDisk) rename(from, to string) api.Errno {
	file := p.file(from)
	if file < 0 {
		return api.ErrNone
	}
	p.unlink(from)
	p.link(to, file)
	return api.OK
}

func (p *plainDisk) append(name, b string) api.Errno {
	file := p.file(name)
	if file < 0 {
		return api.ErrNone
	}
	if len(b) > p.left() {
		return api.ErrFull
	}
	p.files[file].all += b
	return api.OK
}

func (p *plainDisk) remove(name string) api.Errno {
	if p.file(name) < 0 {
		return api.ErrNone
	}
	p.unlink(name)
	return api.OK
}

func (p *plainDisk) sync(name string) api.Errno {
	file := p.file(name)
	if file < 0 {
		return api.ErrNone
	}
	p.files[file].durable = p.files[file].all
	return api.OK
}

func (p *plainDisk) fail(keep int, names bool) *plainDisk {
	from := p.durable
	if names {
		from = p.present
	}
	left := &plainDisk{size: p.size}
	for i, l := range from {
		f := p.files[l.file]
		b := f.durable + f.all[len(f.durable):][:min(keep, len(f.all)-len(f.durable))]
		left.files = append(left.files, plainFile{b, b})
		left.present = append(left.present, link{l.name, i})
	}
	left.durable = slices.Clone(left.present)
	return left
}

func (p *plainDisk) content() string {
	var l []string
	for _, at := range p.present {
		l = append(l, at.name+"="+p.files[at.file].all+" ")
	}
	slices.Sort(l)
	return strings.Join(l, "")
}

// dice gives the same numbers at each run.
type dice uint64

func (s *dice) upTo(n int) int {
	*s = *s*6364136223846793005 + 1442695040888963407
	return int(uint64(*s>>33) % uint64(n))
}

func (s *dice) name() string {
	return "abcdefgh"[s.upTo(8):][:1]
}

// step makes one change, of both disks.
func step(t *testing.T, s *dice, d *files.Disk, p *plainDisk) {
	t.Helper()
	a, b := s.name(), s.name()
	data := "0123456789"[:s.upTo(11)]
	switch s.upTo(8) {
	case 0:
		want(t, "Create "+a, d.Create(a), p.create(a))
	case 1:
		want(t, "Remove "+a, d.Remove(a), p.remove(a))
	case 2:
		want(t, "Rename "+a+" "+b, d.Rename(a, b), p.rename(a, b))
	case 3, 4, 5:
		want(t, "Append "+a, d.Append(a, []byte(data)), p.append(a, data))
	case 6:
		want(t, "Sync "+a, d.Sync(a), p.sync(a))
	case 7:
		want(t, "Names", d.Names(), api.OK)
		p.durable = slices.Clone(p.present)
	}
}

func TestAgainstPlainDisk(t *testing.T) {
	for seed := range 200 {
		s := dice(seed)
		size := 1 + s.upTo(80)
		d, p := mustNew(t, size), &plainDisk{size: size}
		for range 150 {
			step(t, &s, d, p)
			wantContent(t, "the disk", d, p.content())
			wantLeft(t, d, p.left())
			keep, names := s.upTo(12), s.upTo(2) == 0
			left, plainLeft := mustFail(t, d, keep, names), p.fail(keep, names)
			wantContent(t, "what a crash leaves", left, plainLeft.content())
			wantLeft(t, left, plainLeft.left())
			if s.upTo(10) == 0 {
				d, p = left, plainLeft
			}
		}
		if t.Failed() {
			t.Fatalf("seed %d", seed)
		}
	}
}
