package manifests

import (
	"bytes"
	"slices"
	"strings"

	"bucketline/api"
	"bucketline/edits"
	"bucketline/files"
	"bucketline/journals"
)

// The file of a manifest is a journal with one record: the edit that alone makes all its files. Each Add writes it anew, so that it never grows beyond what its files need.
const (
	fileName = "m"
	// unsureName is that of the next file while it is being written. What a crash leaves under it is not part of the manifest.
	unsureName = "m-unsure"
)

// isDisk reports whether a call made a disk.
func isDisk(d *files.Disk) bool {
	_, e := d.Size(fileName)
	return e != api.ErrNil
}

// namesOf returns the names of a disk that are a manifest's, but for the unsure one.
func namesOf(d *files.Disk) []string {
	return slices.DeleteFunc(d.List(), func(name string) bool {
		return name == unsureName || !strings.HasPrefix(name, fileName)
	})
}

// read returns the edit that is in the file of a manifest, if only that one is there, and as a manifest wrote it.
func read(d *files.Disk, names []string) (api.Edit, bool) {
	if name, ok := only(names); !ok || name != fileName {
		return api.Edit{}, false
	}
	_, records, _ := journals.Open(d, fileName)
	record, ok := only(records)
	if !ok {
		return api.Edit{}, false
	}
	x, e := edits.Get(record)
	if e != api.OK {
		return api.Edit{}, false
	}
	all, e := after(nil, x)
	if e != api.OK || !bytes.Equal(content(d), written(all)) {
		return api.Edit{}, false
	}
	return all, true
}

// only returns the element of a list that has no other one.
func only[T any](l []T) (x T, ok bool) {
	if len(l) != 1 {
		return x, false
	}
	return l[0], true
}

// written returns the bytes of the file that has this edit.
func written(all api.Edit) []byte {
	d, _ := files.New(api.MaxFile)
	if write(d, all) != api.OK {
		return nil
	}
	return content(d)
}

func content(d *files.Disk) []byte {
	n, _ := d.Size(fileName)
	b, _ := d.Read(fileName, 0, n)
	return b
}

// write lets the file have this edit instead of the one before, durably, or leaves it as it was. Whenever the disk fails, one of the two is there, whole: the next file is durable before it gets the name.
func write(d *files.Disk, all api.Edit) (e api.Errno) {
	// There is one if the disk failed while another call wrote it.
	d.Remove(unsureName)
	defer func() {
		if e != api.OK {
			d.Remove(unsureName)
			e = api.ErrFull
		}
	}()
	if e = writeUnsure(d, all); e != api.OK {
		return e
	}
	if e = d.Rename(unsureName, fileName); e != api.OK {
		return e
	}
	return d.Names()
}

// writeUnsure makes a file with this edit. What it returns is the error of whatever there was no space for: a name, bytes, or so long a record.
func writeUnsure(d *files.Disk, all api.Edit) api.Errno {
	record, e := edits.Put(all)
	if e != api.OK {
		return e
	}
	j, _, e := journals.Open(d, unsureName)
	if e != api.OK {
		return e
	}
	if e := j.Add(record); e != api.OK {
		return e
	}
	return j.Sync()
}
