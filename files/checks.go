package files

import "bucketline/api"

// check returns an error, or OK.
type check func() api.Errno

// firstError returns the error of the first check that fails. Those behind it may rely on it: they are not made.
func firstError(checks ...check) api.Errno {
	for _, c := range checks {
		if e := c(); e != api.OK {
			return e
		}
	}
	return api.OK
}

// exists fails for a disk that no call made.
func (d *Disk) exists() api.Errno {
	return unless(d != nil && d.present != nil, api.ErrNil)
}

// arguments fails if one of them is invalid.
func arguments(valid ...bool) check {
	return func() api.Errno {
		for _, ok := range valid {
			if !ok {
				return api.ErrArg
			}
		}
		return api.OK
	}
}

// leads fails if a name leads to no file.
func (d *Disk) leads(name string) check {
	return func() api.Errno { return unless(d.present[name] != nil, api.ErrNone) }
}

// isFree fails if a name leads to a file.
func (d *Disk) isFree(name string) check {
	return func() api.Errno { return unless(d.present[name] == nil, api.ErrThere) }
}

// hasFreeName fails if as many names lead to files as may do so.
func (d *Disk) hasFreeName() api.Errno {
	return unless(len(d.present) < api.MaxFiles, api.ErrFull)
}

// hasSpace fails if a disk, or a file, can't take so many bytes more.
func (d *Disk) hasSpace(name string, many int) check {
	return func() api.Errno {
		length := len(d.present[name].bytes)
		return unless(many <= d.Left() && many <= api.MaxFile-length, api.ErrFull)
	}
}

// reaches fails if a file ends before n bytes from an offset on do.
func (d *Disk) reaches(name string, at, n int) check {
	return func() api.Errno {
		length := len(d.present[name].bytes)
		// Not at+n <= length: the sum may be greater than an int.
		return unless(n <= length-at, api.ErrShort)
	}
}

func unless(ok bool, e api.Errno) api.Errno {
	if ok {
		return api.OK
	}
	return e
}

// isName reports whether a name is valid.
func isName(name string) bool {
	if len(name) < 1 || len(name) > api.MaxName {
		return false
	}
	for i := range len(name) {
		if !isNameByte(name[i]) {
			return false
		}
	}
	return true
}

func isNameByte(c byte) bool {
	return c >= 'a' && c <= 'z' || c >= '0' && c <= '9' || c == '-' || c == '.'
}
