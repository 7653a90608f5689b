package files_test

import (
	"bytes"
	"math"
	"slices"
	"strconv"
	"strings"
	"testing"

	"bucketline/api"
	"bucketline/files"
)

const maxSize = 8 * api.MaxFile

func mustNew(t *testing.T, size int) *files.Disk {
	t.Helper()
	d, e := files.New(size)
	if d == nil || e != api.OK {
		t.Fatalf("New(%d) = %v, %d", size, d, e)
	}
	return d
}

func mustFail(t *testing.T, d *files.Disk, keep int, names bool) *files.Disk {
	t.Helper()
	left, e := d.Fail(keep, names)
	if left == nil || left == d || e != api.OK {
		t.Fatalf("Fail(%d, %t) = %v, %d", keep, names, left, e)
	}
	return left
}

func want(t *testing.T, what string, e, wanted api.Errno) {
	t.Helper()
	if e != wanted {
		t.Errorf("%s = %d; want %d", what, e, wanted)
	}
}

func ok(t *testing.T, what string, l ...api.Errno) {
	t.Helper()
	for i, e := range l {
		want(t, what+" "+strconv.Itoa(i), e, api.OK)
	}
}

func wantRead(t *testing.T, d *files.Disk, name string, at, n int, b string, e api.Errno) {
	t.Helper()
	if got, gotE := d.Read(name, at, n); string(got) != b || gotE != e {
		t.Errorf("Read(%q, %d, %d) = %q, %d; want %q, %d", name, at, n, got, gotE, b, e)
	}
}

func wantSize(t *testing.T, d *files.Disk, name string, n int, e api.Errno) {
	t.Helper()
	if got, gotE := d.Size(name); got != n || gotE != e {
		t.Errorf("Size(%q) = %d, %d; want %d, %d", name, got, gotE, n, e)
	}
}

// content has all names, ascending, with their bytes.
func content(t *testing.T, d *files.Disk) string {
	t.Helper()
	var s strings.Builder
	for _, name := range d.List() {
		n, e := d.Size(name)
		b, readE := d.Read(name, 0, n)
		if e != api.OK || readE != api.OK || len(b) != n {
			t.Errorf("%q: %d bytes, %d; read %d, %d", name, n, e, len(b), readE)
		}
		s.WriteString(name + "=" + string(b) + " ")
	}
	return s.String()
}

func wantContent(t *testing.T, what string, d *files.Disk, wanted string) {
	t.Helper()
	if got := content(t, d); got != wanted {
		t.Errorf("%s: %q; want %q", what, got, wanted)
	}
}

func wantLeft(t *testing.T, d *files.Disk, left int) {
	t.Helper()
	if got := d.Left(); got != left {
		t.Errorf("Left = %d; want %d", got, left)
	}
}

// write appends bytes, and makes them durable.
func write(t *testing.T, d *files.Disk, name, b string) {
	t.Helper()
	ok(t, "write "+name, d.Append(name, []byte(b)), d.Sync(name))
}

func badNames() []string {
	l := []string{"", strings.Repeat("a", api.MaxName+1), strings.Repeat("a", 1<<16), "A", "Z", "a b", " ", "a/b", "é", "ab\x00", "\xffab", "a\n", "_", "aA", "Aa", "a+b", "a,b"}
	for c := range 256 {
		if b := byte(c); !isPlainByte(b) {
			l = append(l, string([]byte{b}), "a"+string([]byte{b}), string([]byte{b})+"a", strings.Repeat("a", 15)+string([]byte{b}))
		}
	}
	return l
}

func goodNames() []string {
	l := []string{strings.Repeat("a", api.MaxName), strings.Repeat("-", api.MaxName), "..", "-.-", "a.b-9", "journal-12.log", strings.Repeat("9", api.MaxName-1)}
	for c := range 256 {
		if b := byte(c); isPlainByte(b) {
			l = append(l, string([]byte{b}))
		}
	}
	return l
}

func isPlainByte(b byte) bool {
	return strings.IndexByte("abcdefghijklmnopqrstuvwxyz0123456789-.", b) >= 0
}

func TestExamples(t *testing.T) {
	d := mustNew(t, 10)
	ok(t, "example", d.Create("a"), d.Append("a", []byte("abcde")), d.Sync("a"), d.Append("a", []byte("fg")), d.Names(), d.Rename("a", "b"))
	wantLeft(t, d, 3)
	old := mustFail(t, d, 1, false)
	wantContent(t, "the durable directory", old, "a=abcdef ")
	wantRead(t, old, "a", 0, 6, "abcdef", api.OK)
	present := mustFail(t, d, 0, true)
	wantContent(t, "the present directory", present, "b=abcde ")
	wantSize(t, present, "b", 5, api.OK)
	want(t, "Append", d.Append("b", []byte("1234")), api.ErrFull)
	wantRead(t, d, "b", 5, 3, "", api.ErrShort)
	wantRead(t, d, "a", 0, 0, "", api.ErrNone)
	want(t, "Create(A)", d.Create("A"), api.ErrArg)
	want(t, "Create(b)", d.Create("b"), api.ErrThere)
}

// P5.1

func TestNewSizes(t *testing.T) {
	for _, size := range []int{1, 2, 10, api.MaxFile, api.MaxFile + 1, maxSize - 1, maxSize} {
		d := mustNew(t, size)
		wantLeft(t, d, size)
		wantContent(t, "a new disk", d, "")
		wantContent(t, "a new disk, failed", mustFail(t, d, 9, false), "")
	}
	for _, size := range []int{0, -1, math.MinInt, maxSize + 1, math.MaxInt} {
		if d, e := files.New(size); d != nil || e != api.ErrArg {
			t.Errorf("New(%d) = %v, %d; want none, ErrArg", size, d, e)
		}
	}
}

func TestNewDisksShareNothing(t *testing.T) {
	a, b := mustNew(t, 10), mustNew(t, 10)
	ok(t, "Create", a.Create("a"), a.Names())
	write(t, a, "a", "123")
	wantContent(t, "the other one", b, "")
	wantLeft(t, b, 10)
}

// P5.2

func TestCreate(t *testing.T) {
	d := mustNew(t, 10)
	ok(t, "Create", d.Create("a"))
	wantContent(t, "one file", d, "a= ")
	write(t, d, "a", "abc")
	want(t, "Create again", d.Create("a"), api.ErrThere)
	wantContent(t, "what is there", d, "a=abc ")
}

func TestNamesThatAreValid(t *testing.T) {
	for _, name := range goodNames() {
		d := mustNew(t, 10)
		ok(t, "Create "+name, d.Create(name), d.Append(name, []byte("x")), d.Sync(name))
		wantContent(t, "created", d, name+"=x ")
		if name != "to" {
			ok(t, "Rename "+name, d.Rename(name, "to"), d.Rename("to", name), d.Remove(name))
		}
		wantContent(t, "removed", d, "")
	}
}

func TestNamesThatAreInvalid(t *testing.T) {
	d := mustNew(t, 10)
	ok(t, "Create", d.Create("a"))
	for _, name := range badNames() {
		for i, e := range []api.Errno{d.Create(name), d.Remove(name), d.Rename(name, "b"), d.Rename("a", name), d.Rename(name, name), d.Rename("none", name), d.Append(name, nil), d.Append(name, make([]byte, 20)), d.Sync(name)} {
			if e != api.ErrArg {
				t.Errorf("%q: call %d = %d; want ErrArg", name, i, e)
			}
		}
		wantRead(t, d, name, 0, 0, "", api.ErrArg)
		wantSize(t, d, name, 0, api.ErrArg)
	}
	wantContent(t, "nothing has changed", d, "a= ")
}

func TestCreateFull(t *testing.T) {
	d := mustNew(t, 10)
	for i := range api.MaxFiles {
		ok(t, "Create", d.Create("f"+strconv.Itoa(i)))
	}
	was := content(t, d)
	want(t, "one more", d.Create("g"), api.ErrFull)
	want(t, "one that is there", d.Create("f0"), api.ErrThere)
	want(t, "an invalid one", d.Create("G"), api.ErrArg)
	wantContent(t, "nothing has changed", d, was)
	ok(t, "Names, Rename", d.Names(), d.Rename("f0", "g"))
	want(t, "after Rename", d.Create("f0"), api.ErrFull)
	// A name that only the durable directory has does not count.
	ok(t, "Remove, Create", d.Remove("g"), d.Create("h"))
	want(t, "and one more", d.Create("g"), api.ErrFull)
	ok(t, "Rename onto another", d.Rename("h", "f1"), d.Create("g"))
	want(t, "and one more", d.Create("h"), api.ErrFull)
	want(t, "on the failed disk", mustFail(t, d, 0, false).Create("h"), api.ErrFull)
}

func TestRemove(t *testing.T) {
	d := mustNew(t, 10)
	want(t, "Remove of none", d.Remove("a"), api.ErrNone)
	ok(t, "Create", d.Create("a"), d.Create("b"))
	write(t, d, "a", "abcdefgh")
	ok(t, "Remove", d.Remove("a"))
	wantContent(t, "b is left", d, "b= ")
	wantLeft(t, d, 10)
	want(t, "Remove again", d.Remove("a"), api.ErrNone)
	ok(t, "Create again", d.Create("a"))
	wantContent(t, "a new one is empty", d, "a= b= ")
}

func TestRename(t *testing.T) {
	d := mustNew(t, 20)
	want(t, "of none", d.Rename("a", "b"), api.ErrNone)
	want(t, "of none onto itself", d.Rename("a", "a"), api.ErrNone)
	ok(t, "Create", d.Create("a"), d.Create("b"), d.Create("c"))
	write(t, d, "a", "1")
	write(t, d, "b", "22")
	write(t, d, "c", "333")
	want(t, "of none onto one", d.Rename("d", "a"), api.ErrNone)
	ok(t, "onto itself", d.Rename("a", "a"))
	wantContent(t, "the same", d, "a=1 b=22 c=333 ")
	ok(t, "to a new name", d.Rename("a", "d"))
	wantContent(t, "a new name", d, "b=22 c=333 d=1 ")
	ok(t, "onto another one", d.Rename("c", "b"))
	wantContent(t, "b is c", d, "b=333 d=1 ")
	wantLeft(t, d, 16)
	want(t, "no more", d.Rename("c", "e"), api.ErrNone)
	ok(t, "Append to the new name", d.Append("b", []byte("4")))
	wantContent(t, "the file goes on", d, "b=3334 d=1 ")
}

// P5.3

func TestAppend(t *testing.T) {
	d := mustNew(t, 10)
	want(t, "to none", d.Append("a", []byte("x")), api.ErrNone)
	want(t, "too much to none", d.Append("a", make([]byte, 11)), api.ErrNone)
	ok(t, "Create", d.Create("a"), d.Create("b"))
	ok(t, "Append", d.Append("a", []byte("abc")), d.Append("b", []byte{0, 255}), d.Append("a", nil), d.Append("a", []byte{}), d.Append("a", []byte("d")))
	wantContent(t, "two files", d, "a=abcd b=\x00\xff ")
	wantLeft(t, d, 4)
	want(t, "one byte too much", d.Append("a", make([]byte, 5)), api.ErrFull)
	want(t, "much too much", d.Append("b", make([]byte, 1<<21)), api.ErrFull)
	wantContent(t, "nothing has changed", d, "a=abcd b=\x00\xff ")
	ok(t, "as much as fits", d.Append("a", []byte("efgh")))
	wantLeft(t, d, 0)
	want(t, "one more", d.Append("b", []byte("x")), api.ErrFull)
	ok(t, "none more", d.Append("b", nil))
	wantContent(t, "full", d, "a=abcdefgh b=\x00\xff ")
}

func TestAppendToTheGreatestFile(t *testing.T) {
	d := mustNew(t, 2*api.MaxFile)
	ok(t, "Create", d.Create("a"), d.Create("b"))
	want(t, "too much at once", d.Append("a", make([]byte, api.MaxFile+1)), api.ErrFull)
	wantSize(t, d, "a", 0, api.OK)
	ok(t, "Append", d.Append("a", make([]byte, api.MaxFile-1)), d.Append("a", []byte{1}))
	want(t, "one more", d.Append("a", []byte{1}), api.ErrFull)
	ok(t, "none more", d.Append("a", nil))
	wantSize(t, d, "a", api.MaxFile, api.OK)
	wantLeft(t, d, api.MaxFile)
	ok(t, "another one, at once", d.Append("b", make([]byte, api.MaxFile)))
	wantLeft(t, d, 0)
	wantRead(t, d, "a", api.MaxFile-2, 2, "\x00\x01", api.OK)
}

func TestAppendOnTheGreatestDisk(t *testing.T) {
	d := mustNew(t, maxSize)
	for i := range 8 {
		name := strconv.Itoa(i)
		ok(t, "Append", d.Create(name), d.Append(name, make([]byte, api.MaxFile)))
	}
	wantLeft(t, d, 0)
	ok(t, "Create", d.Create("8"))
	want(t, "one more", d.Append("8", []byte{1}), api.ErrFull)
}

func TestRead(t *testing.T) {
	d := mustNew(t, 100)
	const all = "0123456789"
	ok(t, "Create", d.Create("a"), d.Create("empty"), d.Append("a", []byte(all[:4])), d.Sync("a"), d.Append("a", []byte(all[4:])))
	for at := range 13 {
		for n := range 13 {
			if at+n <= len(all) {
				wantRead(t, d, "a", at, n, all[at:at+n], api.OK)
			} else {
				wantRead(t, d, "a", at, n, "", api.ErrShort)
			}
		}
	}
	wantRead(t, d, "empty", 0, 0, "", api.OK)
	wantRead(t, d, "empty", 1, 0, "", api.ErrShort)
	wantRead(t, d, "empty", 0, 1, "", api.ErrShort)
}

func TestReadOfWrongNumbers(t *testing.T) {
	d := mustNew(t, 100)
	ok(t, "Create", d.Create("a"), d.Append("a", []byte("0123")))
	for _, n := range []int{-1, -4, math.MinInt} {
		for _, name := range []string{"a", "none", "A"} {
			for _, other := range []int{n, -1, 0, 1, 5, math.MaxInt} {
				wantRead(t, d, name, n, other, "", api.ErrArg)
				wantRead(t, d, name, other, n, "", api.ErrArg)
			}
		}
	}
	for _, n := range []int{5, 1 << 31, 1 << 62, math.MaxInt - 1, math.MaxInt} {
		for _, other := range []int{0, 1, 4, 5, 1 << 62, math.MaxInt} {
			wantRead(t, d, "a", n, other, "", api.ErrShort)
			wantRead(t, d, "a", other, n, "", api.ErrShort)
			wantRead(t, d, "none", n, other, "", api.ErrNone)
		}
	}
}

func TestSize(t *testing.T) {
	d := mustNew(t, 1000)
	wantSize(t, d, "a", 0, api.ErrNone)
	ok(t, "Create", d.Create("a"))
	for i := range 10 {
		wantSize(t, d, "a", 100*i, api.OK)
		ok(t, "Append", d.Append("a", make([]byte, 100)))
	}
	ok(t, "Remove", d.Remove("a"))
	wantSize(t, d, "a", 0, api.ErrNone)
}

// P5.4

func TestSync(t *testing.T) {
	d := mustNew(t, 100)
	want(t, "of none", d.Sync("a"), api.ErrNone)
	ok(t, "Create", d.Create("a"), d.Create("b"), d.Sync("b"), d.Append("a", []byte("abc")), d.Append("b", []byte("xyz")))
	wantContent(t, "nothing is durable", mustFail(t, d, 0, true), "a= b= ")
	ok(t, "Sync", d.Sync("a"))
	wantContent(t, "of one file", mustFail(t, d, 0, true), "a=abc b= ")
	ok(t, "Append", d.Append("a", []byte("def")))
	wantContent(t, "not what follows", mustFail(t, d, 0, true), "a=abc b= ")
	ok(t, "Sync", d.Sync("a"), d.Sync("a"), d.Sync("b"))
	wantContent(t, "all", mustFail(t, d, 0, true), "a=abcdef b=xyz ")
	wantContent(t, "no names", mustFail(t, d, 0, false), "")
}

func TestNames(t *testing.T) {
	d := mustNew(t, 100)
	ok(t, "Create", d.Create("a"), d.Append("a", []byte("abc")))
	wantContent(t, "before the first call", mustFail(t, d, 9, false), "")
	ok(t, "Names", d.Names())
	wantContent(t, "no bytes", mustFail(t, d, 0, false), "a= ")
	ok(t, "Create", d.Create("b"), d.Rename("a", "c"))
	wantContent(t, "as it was", mustFail(t, d, 9, false), "a=abc ")
	ok(t, "Names", d.Names())
	wantContent(t, "as it is", mustFail(t, d, 9, false), "b= c=abc ")
	ok(t, "Remove", d.Remove("b"), d.Remove("c"))
	wantContent(t, "removed, but not durably", mustFail(t, d, 9, false), "b= c=abc ")
	ok(t, "Names", d.Names())
	wantContent(t, "removed", mustFail(t, d, 9, false), "")
}

// What a name leads to after a crash is the file, not what has its name now.
func TestNamesKeepTheFile(t *testing.T) {
	d := mustNew(t, 100)
	ok(t, "Create", d.Create("a"), d.Names())
	write(t, d, "a", "old")
	ok(t, "a new one", d.Append("a", []byte("+")), d.Remove("a"), d.Create("a"))
	write(t, d, "a", "new")
	wantContent(t, "the old one", mustFail(t, d, 0, false), "a=old ")
	wantContent(t, "the old one with more", mustFail(t, d, 1, false), "a=old+ ")
	wantContent(t, "the new one", mustFail(t, d, 0, true), "a=new ")
	ok(t, "Names", d.Names())
	wantContent(t, "the new one, durable", mustFail(t, d, 9, false), "a=new ")
}

// P5.5

func TestList(t *testing.T) {
	d := mustNew(t, 10)
	l := []string{"-", ".", "0", "00", "9", "a", "a-", "a.", "a0", "aa", "b", "z", "zz"}
	for i := range l {
		ok(t, "Create", d.Create(l[i*5%len(l)]))
	}
	if got := d.List(); !slices.Equal(got, l) {
		t.Errorf("List = %q; want %q", got, l)
	}
	ok(t, "Rename, Remove", d.Rename("0", "zzz"), d.Remove("a"))
	if got, wanted := d.List(), append(slices.Concat(l[:2], l[3:5], l[6:]), "zzz"); !slices.Equal(got, wanted) {
		t.Errorf("List = %q; want %q", got, wanted)
	}
}

func TestLeft(t *testing.T) {
	d := mustNew(t, 10)
	ok(t, "Create", d.Create("a"), d.Create("b"))
	wantLeft(t, d, 10)
	ok(t, "Append", d.Append("a", []byte("abc")), d.Append("b", []byte("de")), d.Sync("a"), d.Names())
	wantLeft(t, d, 5)
	ok(t, "Rename", d.Rename("a", "c"))
	wantLeft(t, d, 5)
	ok(t, "Rename", d.Rename("c", "b"))
	wantLeft(t, d, 7)
	ok(t, "Remove", d.Remove("b"))
	wantLeft(t, d, 10)
}

// overfull fails such that the files have 20 bytes on a disk of 10.
func overfull(t *testing.T) *files.Disk {
	t.Helper()
	d := mustNew(t, 10)
	ok(t, "Create", d.Create("a"), d.Create("b"), d.Append("a", []byte("0123456789")), d.Names(), d.Remove("a"), d.Append("b", []byte("abcdefghij")))
	wantLeft(t, d, 0)
	return mustFail(t, d, 10, false)
}

func TestLeftIsNeverNegative(t *testing.T) {
	d := overfull(t)
	wantContent(t, "both files", d, "a=0123456789 b=abcdefghij ")
	wantLeft(t, d, 0)
	ok(t, "no bytes", d.Append("a", nil))
	want(t, "a byte", d.Append("a", []byte("x")), api.ErrFull)
	ok(t, "Create, Remove", d.Create("c"), d.Remove("a"))
	wantLeft(t, d, 0)
	ok(t, "Remove", d.Remove("b"))
	wantLeft(t, d, 10)
	// The size is still that of the first disk.
	want(t, "a byte too much", d.Append("c", make([]byte, 11)), api.ErrFull)
	ok(t, "as much as fits", d.Append("c", make([]byte, 10)))
}

// P5.6

func TestFailWrongKeep(t *testing.T) {
	d := mustNew(t, 10)
	ok(t, "Create", d.Create("a"), d.Append("a", []byte("abc")))
	for _, keep := range []int{-1, -2, math.MinInt} {
		for _, names := range []bool{false, true} {
			if left, e := d.Fail(keep, names); left != nil || e != api.ErrArg {
				t.Errorf("Fail(%d, %t) = %v, %d; want none, ErrArg", keep, names, left, e)
			}
		}
	}
	wantContent(t, "as it was", d, "a=abc ")
}

func TestFailKeeps(t *testing.T) {
	d := mustNew(t, 100)
	ok(t, "Create", d.Create("a"), d.Create("b"), d.Create("c"), d.Names())
	write(t, d, "a", "abc")
	write(t, d, "c", "xyz")
	ok(t, "Append", d.Append("a", []byte("defg")), d.Append("b", []byte("12")))
	for keep, wanted := range []string{"a=abc b= c=xyz ", "a=abcd b=1 c=xyz ", "a=abcde b=12 c=xyz ", "a=abcdef b=12 c=xyz ", "a=abcdefg b=12 c=xyz ", "a=abcdefg b=12 c=xyz "} {
		wantContent(t, "durable names", mustFail(t, d, keep, false), wanted)
		wantContent(t, "present names", mustFail(t, d, keep, true), wanted)
	}
	for _, keep := range []int{1 << 31, 1 << 62, math.MaxInt - 1, math.MaxInt} {
		wantContent(t, "durable names", mustFail(t, d, keep, false), "a=abcdefg b=12 c=xyz ")
		wantContent(t, "present names", mustFail(t, d, keep, true), "a=abcdefg b=12 c=xyz ")
	}
}

func TestFailKeepsTheSize(t *testing.T) {
	d := mustNew(t, 10)
	ok(t, "Create", d.Create("a"), d.Append("a", []byte("abc")))
	wantLeft(t, mustFail(t, d, 0, false), 10)
	wantLeft(t, mustFail(t, d, 0, true), 10)
	wantLeft(t, mustFail(t, d, 2, true), 8)
	ok(t, "Sync, Names", d.Sync("a"), d.Names())
	wantLeft(t, mustFail(t, d, 0, false), 7)
}

// What is left after a crash is there after any number of others.
func TestFailIsDurable(t *testing.T) {
	d := mustNew(t, 100)
	ok(t, "Create", d.Create("a"), d.Create("b"), d.Names(), d.Create("c"), d.Rename("b", "d"))
	write(t, d, "a", "abc")
	ok(t, "Append", d.Append("a", []byte("def")), d.Append("d", []byte("123")), d.Append("c", []byte("xyz")))
	for names, others := range map[bool]string{false: "b=12 ", true: "c=xy d=12 "} {
		first, wanted := mustFail(t, d, 2, names), "a=abcde "+others
		wantContent(t, "first", first, wanted)
		wantContent(t, "second", mustFail(t, first, 0, false), wanted)
		wantContent(t, "third", mustFail(t, mustFail(t, first, 9, true), 0, false), wanted)
		// And from here on it changes as any disk does.
		ok(t, "Append, Create", first.Append("a", []byte("!?")), first.Create("new"))
		wantContent(t, "with more", mustFail(t, first, 1, false), "a=abcde! "+others)
		ok(t, "Sync, Names", first.Sync("a"), first.Names())
		wantContent(t, "with all", mustFail(t, first, 0, false), "a=abcde!? "+others+"new= ")
	}
}

func TestFailChangesNothing(t *testing.T) {
	for _, names := range []bool{false, true} {
		d := mustNew(t, 100)
		ok(t, "Create", d.Create("a"), d.Names(), d.Append("a", []byte("abc")), d.Create("b"))
		left := mustFail(t, d, 9, names)
		ok(t, "the failed disk", left.Append("a", []byte("+")), left.Sync("a"), left.Create("c"), left.Rename("a", "b"), left.Names())
		wantContent(t, "the disk", d, "a=abc b= ")
		wantContent(t, "its durable part", mustFail(t, d, 0, false), "a= ")
		wantLeft(t, d, 97)
		ok(t, "the disk", d.Append("a", []byte("-")), d.Sync("a"), d.Remove("b"), d.Names())
		wantContent(t, "the failed disk", left, "b=abc+ c= ")
		wantContent(t, "failed again", mustFail(t, left, 0, false), "b=abc+ c= ")
		wantLeft(t, left, 96)
	}
}

// P5.7

// A file is written, synced and then renamed onto the old one: a crash leaves the old one or the new one, never a part.
func TestRenamedFileIsOldOrNew(t *testing.T) {
	d := mustNew(t, 100)
	ok(t, "Create", d.Create("it"))
	write(t, d, "it", "old")
	ok(t, "Names", d.Names())
	steps := []func() api.Errno{
		func() api.Errno { return d.Create("temp") },
		func() api.Errno { return d.Append("temp", []byte("new")) },
		func() api.Errno { return d.Sync("temp") },
		func() api.Errno { return d.Rename("temp", "it") },
		d.Names,
	}
	for i, step := range steps {
		ok(t, "step", step())
		for keep := range 5 {
			for _, names := range []bool{false, true} {
				wanted := "old"
				if i >= 4 || i == 3 && names {
					wanted = "new"
				}
				wantRead(t, mustFail(t, d, keep, names), "it", 0, 3, wanted, api.OK)
			}
		}
	}
}

func TestRenamedFileKeepsItsDurableBytes(t *testing.T) {
	d := mustNew(t, 100)
	ok(t, "Create", d.Create("a"), d.Names())
	write(t, d, "a", "abc")
	ok(t, "Append, Rename", d.Append("a", []byte("def")), d.Rename("a", "b"))
	wantContent(t, "before Names", mustFail(t, d, 0, false), "a=abc ")
	ok(t, "Names", d.Names())
	wantContent(t, "after Names", mustFail(t, d, 0, false), "b=abc ")
	// It is one file: what is synced by its new name is durable by its old one, too.
	ok(t, "Rename, Sync", d.Rename("b", "c"), d.Append("c", []byte("!")), d.Sync("c"))
	wantContent(t, "by the old name", mustFail(t, d, 0, false), "b=abcdef! ")
	ok(t, "Rename, Names", d.Rename("c", "d"), d.Rename("d", "e"), d.Names())
	wantContent(t, "renamed often", mustFail(t, d, 0, false), "e=abcdef! ")
}

// R2, R3

func TestNoDisk(t *testing.T) {
	for what, d := range map[string]*files.Disk{"nil": nil, "one that no call made": {}} {
		for _, name := range []string{"a", "A", ""} {
			for i, e := range []api.Errno{d.Create(name), d.Remove(name), d.Rename(name, "b"), d.Rename("b", name), d.Append(name, nil), d.Append(name, []byte("x")), d.Sync(name), d.Names()} {
				if e != api.ErrNil {
					t.Errorf("%s: call %d with %q = %d; want ErrNil", what, i, name, e)
				}
			}
			wantRead(t, d, name, 0, 0, "", api.ErrNil)
			wantRead(t, d, name, -1, -1, "", api.ErrNil)
			wantSize(t, d, name, 0, api.ErrNil)
		}
		for _, keep := range []int{-1, 0, 1, math.MaxInt} {
			for _, names := range []bool{false, true} {
				if left, e := d.Fail(keep, names); left != nil || e != api.ErrNil {
					t.Errorf("%s: Fail = %v, %d; want none, ErrNil", what, left, e)
				}
			}
		}
		if l := d.List(); len(l) != 0 || d.Left() != 0 {
			t.Errorf("%s: List = %q, Left = %d; want none, 0", what, l, d.Left())
		}
	}
}

// R4

func TestAppendKeepsOnlyTheBytes(t *testing.T) {
	d := mustNew(t, 100)
	ok(t, "Create", d.Create("a"), d.Create("b"))
	room := bytes.Repeat([]byte{'r'}, 50)
	ok(t, "Append", d.Append("a", room[:3]), d.Append("a", room[:2]), d.Append("b", room[:3]), d.Append("a", []byte("!")))
	if !bytes.Equal(room, bytes.Repeat([]byte{'r'}, 50)) {
		t.Error("the argument has changed")
	}
	clear(room)
	wantContent(t, "as it was appended", d, "a=rrrrr! b=rrr ")
}

func TestReadSharesNothing(t *testing.T) {
	d := mustNew(t, 100)
	ok(t, "Create", d.Create("a"), d.Append("a", []byte("0123456789")))
	left := mustFail(t, d, 10, true)
	for _, n := range []int{0, 1, 5} {
		first, _ := d.Read("a", 2, n)
		second, _ := d.Read("a", 2, n)
		clear(first[:cap(first)])
		if string(second) != "23456789"[:n] {
			t.Errorf("a result has changed with another one: %q", second)
		}
		ok(t, "Append", d.Append("a", []byte("x")))
		clear(second[:cap(second)])
	}
	wantContent(t, "the disk", d, "a=0123456789xxx ")
	wantContent(t, "the failed disk", left, "a=0123456789 ")
}

func TestListSharesNothing(t *testing.T) {
	d := mustNew(t, 10)
	ok(t, "Create", d.Create("a"), d.Create("b"))
	first, second := d.List(), d.List()
	clear(first[:cap(first)])
	if wanted := []string{"a", "b"}; !slices.Equal(second, wanted) || !slices.Equal(d.List(), wanted) {
		t.Errorf("List = %q, then %q; want %q", second, d.List(), wanted)
	}
}
