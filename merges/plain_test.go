package merges_test

import (
	"bytes"
	"cmp"
	"slices"
	"testing"

	"bucketline/api"
	"bucketline/merges"
)

// plainCmp orders marks as the document says it.
func plainCmp(x, y api.Mark) int {
	switch {
	case x.Key != y.Key:
		return bytes.Compare([]byte(x.Key), []byte(y.Key))
	case x.Seq != y.Seq:
		return cmp.Compare(y.Seq, x.Seq)
	case x.Gone == y.Gone:
		return 0
	case x.Gone:
		return -1
	}
	return 1
}

func plainlyAscending(l []api.Entry) bool {
	for i := range l {
		for k := range i {
			if plainCmp(l[k].Mark, l[i].Mark) != -1 {
				return false
			}
		}
	}
	return true
}

// plainMerge sorts what all lists have.
func plainMerge(l [][]api.Entry) ([]api.Entry, bool) {
	for _, one := range l {
		if !plainlyAscending(one) {
			return nil, false
		}
	}
	all := slices.Concat(l...)
	for i, x := range all {
		for _, y := range all[:i] {
			if x.Mark == y.Mark {
				return nil, false
			}
		}
	}
	slices.SortFunc(all, func(x, y api.Entry) int { return plainCmp(x.Mark, y.Mark) })
	return all, true
}

// plainVisible are the places of the entries that are visible at a number: the first one of each key whose number is not greater.
func plainVisible(l []api.Entry, seq uint64) []int {
	var places []int
	for i, x := range l {
		isFirst := x.Seq <= seq
		for _, y := range l[:i] {
			isFirst = isFirst && (y.Key != x.Key || y.Seq > seq)
		}
		if isFirst {
			places = append(places, i)
		}
	}
	return places
}

func plainThin(l []api.Entry, at []uint64, last bool) ([]api.Entry, bool) {
	if !plainlyAscending(l) {
		return nil, false
	}
	places := plainVisible(l, greatest)
	for _, seq := range at {
		places = append(places, plainVisible(l, seq)...)
	}
	var left []api.Entry
	for i, x := range l {
		if slices.Contains(places, i) {
			left = append(left, x)
		}
	}
	if !last {
		return left, true
	}
	var kept []api.Entry
	for i, x := range left {
		isThereBehind := slices.ContainsFunc(left[i:], func(y api.Entry) bool { return y.Key == x.Key && !y.Gone })
		if !x.Gone || isThereBehind {
			kept = append(kept, x)
		}
	}
	return kept, true
}

func plainSee(l []api.Entry, seq uint64) ([]api.Row, bool) {
	if !plainlyAscending(l) {
		return nil, false
	}
	var rows []api.Row
	for _, i := range plainVisible(l, seq) {
		if !l[i].Gone {
			rows = append(rows, row(l[i].Key, l[i].Value))
		}
	}
	return rows, true
}

func wantMergeAsPlain(t *testing.T, l [][]api.Entry) bool {
	t.Helper()
	want, ok := plainMerge(l)
	if ok {
		wantMerge(t, l, want)
	} else {
		wantNoMerge(t, "plainly not", l)
	}
	return ok
}

func wantThinAsPlain(t *testing.T, l []api.Entry, at []uint64, last bool) {
	t.Helper()
	if want, ok := plainThin(l, at, last); ok {
		wantThin(t, l, at, last, want...)
	} else if got, e := merges.Thin(l, at, last); len(got) != 0 || e != api.ErrArg {
		t.Errorf("Thin(%s, %s, %t) = %s, %d; want none, ErrArg", told(l), told(at), last, told(got), e)
	}
}

func wantSeeAsPlain(t *testing.T, l []api.Entry, seq uint64) {
	t.Helper()
	if want, ok := plainSee(l, seq); ok {
		wantSee(t, l, seq, want...)
	} else if got, e := merges.See(l, seq); len(got) != 0 || e != api.ErrArg {
		t.Errorf("See(%s, %d) = %s, %d; want none, ErrArg", told(l), seq, told(got), e)
	}
}

// dice gives the same numbers at each run.
type dice uint64

func (s *dice) upTo(n int) int {
	*s = *s*6364136223846793005 + 1442695040888963407
	return int(uint64(*s>>33) % uint64(n))
}

func (s *dice) seq() uint64 {
	if s.upTo(8) == 0 {
		return []uint64{0, 1, 1<<63 - 1, 1 << 63, greatest - 1, greatest}[s.upTo(6)]
	}
	return uint64(s.upTo(12))
}

func (s *dice) entry() api.Entry {
	keys := []string{"", "a", "a\x00", "aa", "b", "\xff", "é"}
	x := put(keys[s.upTo(len(keys))], s.seq(), []string{"", "v", "w"}[s.upTo(3)])
	x.Gone = s.upTo(3) == 0
	return x
}

// ascending are entries in order, with different marks.
func (s *dice) ascending(most int) []api.Entry {
	var l []api.Entry
	for range s.upTo(most + 1) {
		x := s.entry()
		if at, found := slices.BinarySearchFunc(l, x, func(x, y api.Entry) int { return plainCmp(x.Mark, y.Mark) }); !found {
			l = slices.Insert(l, at, x)
		}
	}
	return l
}

// dealt are the entries in so many lists, in order.
func (s *dice) dealt(l []api.Entry, many int) [][]api.Entry {
	parts := make([][]api.Entry, many)
	for _, x := range l {
		i := s.upTo(many)
		parts[i] = append(parts[i], x)
	}
	return parts
}

func (s *dice) looks() []uint64 {
	var at []uint64
	for range s.upTo(6) {
		at = append(at, s.seq())
	}
	return at
}

// spoiled has two entries changed for each other, or one of them twice, or another one instead.
func (s *dice) spoiled(l []api.Entry) []api.Entry {
	if len(l) == 0 {
		return nil
	}
	l = slices.Clone(l)
	i, k := s.upTo(len(l)), s.upTo(len(l))
	switch s.upTo(3) {
	case 0:
		l[i], l[k] = l[k], l[i]
	case 1:
		l = slices.Insert(l, k, l[i])
	case 2:
		l[i] = s.entry()
	}
	return l
}

func TestAgainstPlainMerges(t *testing.T) {
	merged := 0
	for seed := range 10000 {
		s := dice(seed)
		l := s.ascending(25)
		parts := s.dealt(l, 1+s.upTo(7))
		wantMerge(t, parts, l)
		i := s.upTo(len(parts))
		parts[i] = s.spoiled(parts[i])
		if wantMergeAsPlain(t, parts) {
			merged++
		}
		if wantMergeAsPlain(t, [][]api.Entry{s.ascending(4), s.ascending(4), s.ascending(4)}) {
			merged++
		}
		if t.Failed() {
			t.Fatalf("seed %d", seed)
		}
	}
	if merged < 4000 || merged > 16000 {
		t.Errorf("%d were merged", merged)
	}
}

func TestAgainstPlainThinAndSee(t *testing.T) {
	for seed := range 10000 {
		s := dice(seed)
		l := s.ascending(30)
		at := s.looks()
		for _, last := range []bool{false, true} {
			wantThinAsPlain(t, l, at, last)
			wantShown(t, l, at, last)
			wantThinAsPlain(t, s.spoiled(l), at, last)
		}
		wantSeeAsPlain(t, l, s.seq())
		wantSeeAsPlain(t, s.spoiled(l), s.seq())
		if t.Failed() {
			t.Fatalf("seed %d", seed)
		}
	}
}

// allMarks of these keys, with numbers from the greatest down to 0, in order.
func allMarks(keys []string, numbers int) []api.Entry {
	var l []api.Entry
	for _, key := range keys {
		for i := range numbers {
			seq := uint64(numbers - 1 - i)
			l = append(l, gone(key, seq), put(key, seq, key+"v"))
		}
	}
	return l
}

// chosen are those whose bit is set.
func chosen[T any](l []T, bits int) []T {
	var some []T
	for i, x := range l {
		if bits>>i&1 == 1 {
			some = append(some, x)
		}
	}
	return some
}

// All ascending lists of the marks of two keys with three numbers, at all sets of looks.
func TestThinOfAllShortLists(t *testing.T) {
	all := allMarks([]string{"a", "b"}, 3)
	for bits := range 1 << len(all) {
		l := chosen(all, bits)
		for seq := range uint64(4) {
			wantSeeAsPlain(t, l, seq)
		}
		for lookBits := range 1 << 4 {
			at := chosen([]uint64{3, 0, 2, 1}, lookBits)
			wantThinAsPlain(t, l, at, false)
			wantThinAsPlain(t, l, at, true)
		}
		if t.Failed() {
			t.Fatalf("bits %b", bits)
		}
	}
}

// All lists of a few of six marks, in any order and with repetition, alone and in pairs.
func TestMergeOfAllShortLists(t *testing.T) {
	marks := append(allMarks([]string{"a"}, 2), put("", 5, "x"), put("b", 0, ""))
	short := [][]api.Entry{nil}
	for i := 0; len(short[i]) < 2; i++ {
		for _, x := range marks {
			short = append(short, append(slices.Clip(short[i]), x))
		}
	}
	merged := 0
	for _, l := range short {
		wantMergeAsPlain(t, [][]api.Entry{l})
		for _, m := range short {
			if wantMergeAsPlain(t, [][]api.Entry{l, m}) {
				merged++
			}
			wantMergeAsPlain(t, [][]api.Entry{l, m, marks[4:5]})
		}
	}
	// Each of six marks in the first list, in the second, or in none, at most two in each.
	if want := 1 + 6*2 + 15*(2+2) + 20*6 + 15*6; merged != want {
		t.Errorf("%d were merged; want %d", merged, want)
	}
}

// Each of six marks in any of three lists, also in more than one.
func TestMergeOfAllShares(t *testing.T) {
	marks := append(allMarks([]string{"a"}, 2), put("aa", 1, "x"), put("b", 9, ""))
	merged := 0
	for bits := range 1 << (3 * len(marks)) {
		parts := [][]api.Entry{chosen(marks, bits), chosen(marks, bits>>6), chosen(marks, bits>>12)}
		want, ok := plainMerge(parts)
		got, e := merges.Merge(parts)
		if !slices.Equal(got, want) || (e == api.OK) != ok {
			t.Fatalf("Merge(%s) = %s, %d; want %s, %t", told(parts), told(got), e, told(want), ok)
		}
		if ok {
			merged++
		}
	}
	if want := 4 * 4 * 4 * 4 * 4 * 4; merged != want {
		t.Errorf("%d were merged; want %d", merged, want)
	}
}
