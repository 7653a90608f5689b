package ints_test

import (
	"bytes"
	"encoding/binary"
	"math"
	"strings"
	"testing"

	"bucketline/api"
	"bucketline/ints"
)

// edgeNumbers are those around each change of length, and some between.
func edgeNumbers() []uint64 {
	l := []uint64{0, 1, 2, 300, 0x0102030405060708, math.MaxUint32, math.MaxInt64, math.MaxUint64}
	for shift := range 64 {
		n := uint64(1) << shift
		l = append(l, n-1, n, n+1)
	}
	return l
}

// someNumbers are scattered over all lengths, and the same at each run.
func someNumbers(many int) []uint64 {
	var l []uint64
	n := uint64(1)
	for i := range many {
		n = n*6364136223846793005 + 1442695040888963407
		l = append(l, n>>(i%64))
	}
	return l
}

func wantGet(t *testing.T, b []byte, n uint64, took int, e api.Errno) {
	t.Helper()
	if gotN, gotTook, gotE := ints.Get(b); gotN != n || gotTook != took || gotE != e {
		t.Errorf("Get(%v) = %d, %d, %d; want %d, %d, %d", b, gotN, gotTook, gotE, n, took, e)
	}
}

func wantGetFour(t *testing.T, b []byte, n uint32, e api.Errno) {
	t.Helper()
	if gotN, gotE := ints.GetFour(b); gotN != n || gotE != e {
		t.Errorf("GetFour(%v) = %d, %d; want %d, %d", b, gotN, gotE, n, e)
	}
}

func wantGetText(t *testing.T, b []byte, s string, took int, e api.Errno) {
	t.Helper()
	if gotS, gotTook, gotE := ints.GetText(b); gotS != s || gotTook != took || gotE != e {
		t.Errorf("GetText(%v) = %q, %d, %d; want %q, %d, %d", b, gotS, gotTook, gotE, s, took, e)
	}
}

func wantBytes(t *testing.T, what string, got, want []byte) {
	t.Helper()
	if !bytes.Equal(got, want) {
		t.Errorf("%s = %v; want %v", what, got, want)
	}
}

// P1.1

func TestPutExamples(t *testing.T) {
	wantBytes(t, "Put(nil, 0)", ints.Put(nil, 0), []byte{0})
	wantBytes(t, "Put(empty, 0)", ints.Put([]byte{}, 0), []byte{0})
	wantBytes(t, "Put(nil, 127)", ints.Put(nil, 127), []byte{127})
	wantBytes(t, "Put(nil, 300)", ints.Put(nil, 300), []byte{172, 2})
	wantBytes(t, "Put(9, 128)", ints.Put([]byte{9}, 128), []byte{9, 128, 1})
	greatest := append(bytes.Repeat([]byte{255}, 9), 1)
	wantBytes(t, "Put(nil, 2^64-1)", ints.Put(nil, math.MaxUint64), greatest)
}

func TestPutWritesVarints(t *testing.T) {
	for _, n := range append(edgeNumbers(), someNumbers(1000)...) {
		want := binary.AppendUvarint(nil, n)
		wantBytes(t, "Put", ints.Put(nil, n), want)
		wantBytes(t, "Put behind some", ints.Put([]byte{128, 0}, n), append([]byte{128, 0}, want...))
	}
}

func TestGetExamples(t *testing.T) {
	wantGet(t, []byte{172, 2, 7}, 300, 2, api.OK)
	wantGet(t, []byte{128}, 0, 0, api.ErrShort)
	wantGet(t, []byte{128, 0}, 0, 0, api.ErrForm)
	wantGet(t, nil, 0, 0, api.ErrShort)
	wantGet(t, []byte{}, 0, 0, api.ErrShort)
	wantGet(t, bytes.Repeat([]byte{255}, 10), 0, 0, api.ErrForm)
}

func TestGetOfAllPairs(t *testing.T) {
	for a := range 256 {
		for b := range 256 {
			l := []byte{byte(a), byte(b)}
			switch {
			case a < 128:
				wantGet(t, l, uint64(a), 1, api.OK)
			case b >= 128:
				wantGet(t, l, 0, 0, api.ErrShort)
			case b == 0:
				wantGet(t, l, 0, 0, api.ErrForm)
			default:
				wantGet(t, l, uint64(a-128+128*b), 2, api.OK)
			}
		}
	}
}

func TestGetShort(t *testing.T) {
	for many := range 10 {
		for _, c := range []byte{128, 129, 255} {
			wantGet(t, bytes.Repeat([]byte{c}, many), 0, 0, api.ErrShort)
		}
	}
}

func TestGetEndless(t *testing.T) {
	for many := 10; many < 15; many++ {
		for _, c := range []byte{128, 129, 255} {
			b := bytes.Repeat([]byte{c}, many)
			wantGet(t, b, 0, 0, api.ErrForm)
			wantGet(t, append(b, 1), 0, 0, api.ErrForm)
			wantGet(t, append(b, 0), 0, 0, api.ErrForm)
		}
	}
}

func TestGetNeedlessZero(t *testing.T) {
	for many := 1; many < 10; many++ {
		for _, c := range []byte{128, 129, 255} {
			b := append(bytes.Repeat([]byte{c}, many), 0)
			wantGet(t, b, 0, 0, api.ErrForm)
			wantGet(t, append(b, 1, 2, 3), 0, 0, api.ErrForm)
		}
	}
}

func TestGetTenthByte(t *testing.T) {
	for c := range 256 {
		high := append(bytes.Repeat([]byte{255}, 9), byte(c))
		low := append(bytes.Repeat([]byte{128}, 9), byte(c))
		for _, tail := range [][]byte{nil, {0}, {1, 2}} {
			if c == 1 {
				wantGet(t, append(high, tail...), math.MaxUint64, 10, api.OK)
				wantGet(t, append(low, tail...), 1<<63, 10, api.OK)
				continue
			}
			wantGet(t, append(high, tail...), 0, 0, api.ErrForm)
			wantGet(t, append(low, tail...), 0, 0, api.ErrForm)
		}
	}
}

// P1.2

func TestPutFour(t *testing.T) {
	wantBytes(t, "PutFour(7, 258)", ints.PutFour([]byte{7}, 258), []byte{7, 0, 0, 1, 2})
	wantBytes(t, "PutFour(nil, 0)", ints.PutFour(nil, 0), []byte{0, 0, 0, 0})
	wantBytes(t, "PutFour(nil, 0x01020304)", ints.PutFour(nil, 0x01020304), []byte{1, 2, 3, 4})
	wantBytes(t, "PutFour(nil, 2^32-1)", ints.PutFour(nil, math.MaxUint32), []byte{255, 255, 255, 255})
	for _, n := range append(edgeNumbers(), someNumbers(1000)...) {
		want := binary.BigEndian.AppendUint32([]byte{1, 2}, uint32(n))
		wantBytes(t, "PutFour", ints.PutFour([]byte{1, 2}, uint32(n)), want)
	}
}

func TestGetFour(t *testing.T) {
	wantGetFour(t, []byte{0, 0, 1, 2, 9}, 258, api.OK)
	wantGetFour(t, []byte{1, 2, 3, 4}, 0x01020304, api.OK)
	wantGetFour(t, []byte{255, 255, 255, 255}, math.MaxUint32, api.OK)
	wantGetFour(t, []byte{0, 0, 0, 0}, 0, api.OK)
	wantGetFour(t, nil, 0, api.ErrShort)
	for many := range 4 {
		wantGetFour(t, bytes.Repeat([]byte{7}, many), 0, api.ErrShort)
	}
}

// P1.3

func someTexts() []string {
	return []string{"", "a", "ab", "\x00", "\x80\x00", "\xff\xfe", "żółw", strings.Repeat("x", 127), strings.Repeat("y", 128), strings.Repeat("z", 20000)}
}

func TestPutText(t *testing.T) {
	wantBytes(t, "PutText(nil, ab)", ints.PutText(nil, "ab"), []byte{2, 97, 98})
	wantBytes(t, "PutText(nil, empty)", ints.PutText(nil, ""), []byte{0})
	for _, s := range someTexts() {
		want := append(binary.AppendUvarint([]byte{5}, uint64(len(s))), s...)
		wantBytes(t, "PutText", ints.PutText([]byte{5}, s), want)
	}
}

func TestGetText(t *testing.T) {
	wantGetText(t, []byte{2, 97, 98, 99}, "ab", 3, api.OK)
	wantGetText(t, []byte{3, 97, 98}, "", 0, api.ErrShort)
	wantGetText(t, []byte{0}, "", 1, api.OK)
	wantGetText(t, []byte{0, 97}, "", 1, api.OK)
	wantGetText(t, []byte{1, 0x80}, "\x80", 2, api.OK)
}

func TestGetTextWithErrorOfGet(t *testing.T) {
	wantGetText(t, nil, "", 0, api.ErrShort)
	wantGetText(t, []byte{128}, "", 0, api.ErrShort)
	wantGetText(t, []byte{129, 0, 97}, "", 0, api.ErrForm)
	wantGetText(t, bytes.Repeat([]byte{255}, 20), "", 0, api.ErrForm)
	wantGetText(t, append(bytes.Repeat([]byte{255}, 9), 2, 97), "", 0, api.ErrForm)
}

func TestGetTextTooLong(t *testing.T) {
	for _, n := range edgeNumbers() {
		if n <= 1 {
			continue
		}
		wantGetText(t, append(binary.AppendUvarint(nil, n), 97), "", 0, api.ErrShort)
	}
}

func TestGetTextCutAnywhere(t *testing.T) {
	whole := ints.PutText(nil, strings.Repeat("k", 200))
	for many := range len(whole) {
		wantGetText(t, whole[:many], "", 0, api.ErrShort)
	}
}

// P1.4

func TestReadBackNumbers(t *testing.T) {
	for _, before := range []string{"", "\x80", "\x00", "before"} {
		for _, after := range []string{"", "\x80", "\x00", "after", "\xff\xff\xff\xff\xff\xff\xff\xff\xff\xff\xff"} {
			for _, n := range append(edgeNumbers(), someNumbers(200)...) {
				b := ints.Put([]byte(before), n)
				took := len(b) - len(before)
				wantGet(t, append(b, after...)[len(before):], n, took, api.OK)
				four := ints.PutFour([]byte(before), uint32(n))
				wantGetFour(t, append(four, after...)[len(before):], uint32(n), api.OK)
			}
		}
	}
}

func TestReadBackTexts(t *testing.T) {
	for _, before := range []string{"", "\x80", "\x00", "before"} {
		for _, after := range []string{"", "\x80", "\x00", "after"} {
			for _, s := range someTexts() {
				b := ints.PutText([]byte(before), s)
				took := len(b) - len(before)
				wantGetText(t, append(b, after...)[len(before):], s, took, api.OK)
			}
		}
	}
}

func TestReadBackOneAfterAnother(t *testing.T) {
	var b []byte
	for _, n := range edgeNumbers() {
		b = ints.PutText(ints.PutFour(ints.Put(b, n), uint32(n)), strings.Repeat("s", int(n%300)))
	}
	for _, n := range edgeNumbers() {
		got, took, e := ints.Get(b)
		if got != n || e != api.OK {
			t.Fatalf("Get = %d, %d; want %d", got, e, n)
		}
		b = b[took:]
		if got, e := ints.GetFour(b); got != uint32(n) || e != api.OK {
			t.Fatalf("GetFour = %d, %d; want %d", got, e, uint32(n))
		}
		b = b[4:]
		s, took, e := ints.GetText(b)
		if s != strings.Repeat("s", int(n%300)) || e != api.OK {
			t.Fatalf("GetText = %q, %d", s, e)
		}
		b = b[took:]
	}
	if len(b) != 0 {
		t.Errorf("%d bytes are left", len(b))
	}
}

// What Get takes is just what Put writes, whatever the bytes are.
func TestOnlyWhatPutWrites(t *testing.T) {
	for _, seed := range someNumbers(20000) {
		b := binary.LittleEndian.AppendUint64(nil, seed)
		b = binary.LittleEndian.AppendUint64(b, seed*0x9e3779b97f4a7c15)
		for i := range b[:seed%16] {
			b[i] |= 128
		}
		n, took, e := ints.Get(b)
		if e == api.OK {
			wantBytes(t, "Put of what Get read", ints.Put(nil, n), b[:took])
		}
	}
}

// R4

func TestPutSharesNothing(t *testing.T) {
	puts := map[string]func(b []byte) []byte{
		"Put":          func(b []byte) []byte { return ints.Put(b, 300) },
		"PutFour":      func(b []byte) []byte { return ints.PutFour(b, 300) },
		"PutText":      func(b []byte) []byte { return ints.PutText(b, "text") },
		"PutText none": func(b []byte) []byte { return ints.PutText(b, "") },
	}
	for what, put := range puts {
		room := bytes.Repeat([]byte{9}, 40)
		first, second := put(room[:3]), put(room[:3])
		want := bytes.Clone(second)
		first = first[:cap(first)]
		for i := range first {
			first[i] = 1
		}
		wantBytes(t, what+": the other result", second, want)
		wantBytes(t, what+": the argument", room, bytes.Repeat([]byte{9}, 40))
		for i := range room {
			room[i] = 2
		}
		wantBytes(t, what+": the other result", second, want)
	}
}

func TestGetSharesNothing(t *testing.T) {
	b := []byte{2, 97, 98, 99}
	s, _, _ := ints.GetText(b)
	wantBytes(t, "the argument", b, []byte{2, 97, 98, 99})
	b[1] = 120
	if s != "ab" {
		t.Errorf("GetText = %q; want it as it was read", s)
	}
}
