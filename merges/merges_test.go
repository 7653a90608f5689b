package merges_test

import (
	"fmt"
	"math"
	"slices"
	"strings"
	"testing"

	"bucketline/api"
	"bucketline/merges"
)

const greatest = math.MaxUint64

func put(key string, seq uint64, value string) api.Entry {
	return api.Entry{Mark: api.Mark{Key: key, Seq: seq}, Value: value}
}

func gone(key string, seq uint64) api.Entry {
	return api.Entry{Mark: api.Mark{Key: key, Seq: seq, Gone: true}}
}

func row(key, value string) api.Row {
	return api.Row{Key: key, Value: value}
}

func lists(l ...[]api.Entry) [][]api.Entry {
	return l
}

func entries(l ...api.Entry) []api.Entry {
	return l
}

func looks(l ...uint64) []uint64 {
	return l
}

// told is anything in a few words.
func told(x any) string {
	return fmt.Sprintf("%.300q", fmt.Sprint(x))
}

func wantMerge(t *testing.T, l [][]api.Entry, want []api.Entry) {
	t.Helper()
	if got, e := merges.Merge(l); !slices.Equal(got, want) || e != api.OK {
		t.Errorf("Merge(%s) = %s, %d; want %s", told(l), told(got), e, told(want))
	}
}

func wantNoMerge(t *testing.T, what string, l [][]api.Entry) {
	t.Helper()
	if got, e := merges.Merge(l); len(got) != 0 || e != api.ErrArg {
		t.Errorf("%s: Merge(%s) = %s, %d; want none, ErrArg", what, told(l), told(got), e)
	}
}

func wantThin(t *testing.T, l []api.Entry, looks []uint64, last bool, want ...api.Entry) {
	t.Helper()
	if got, e := merges.Thin(l, looks, last); !slices.Equal(got, want) || e != api.OK {
		t.Errorf("Thin(%s, %s, %t) = %s, %d; want %s", told(l), told(looks), last, told(got), e, told(want))
	}
}

func wantSee(t *testing.T, l []api.Entry, seq uint64, want ...api.Row) {
	t.Helper()
	if got, e := merges.See(l, seq); !slices.Equal(got, want) || e != api.OK {
		t.Errorf("See(%s, %d) = %s, %d; want %s", told(l), seq, told(got), e, told(want))
	}
}

// wantNotAscending is refused by all functions.
func wantNotAscending(t *testing.T, what string, l []api.Entry) {
	t.Helper()
	wantNoMerge(t, what, lists(l))
	wantNoMerge(t, what, lists(nil, l, entries(put("other", 1, "x"))))
	wantNoMerge(t, what, lists(entries(put("\xff\xff", 1, "x")), l))
	for _, seq := range looks(0, 1, 5, greatest) {
		if got, e := merges.See(l, seq); len(got) != 0 || e != api.ErrArg {
			t.Errorf("%s: See(%s, %d) = %s, %d; want none, ErrArg", what, told(l), seq, told(got), e)
		}
		for _, last := range []bool{false, true} {
			if got, e := merges.Thin(l, looks(seq), last); len(got) != 0 || e != api.ErrArg {
				t.Errorf("%s: Thin(%s, %d, %t) = %s, %d; want none, ErrArg", what, told(l), seq, last, told(got), e)
			}
		}
	}
}

// ordinary are a few keys with versions, some of them gone.
func ordinary() []api.Entry {
	return entries(
		put("a", 9, "a9"), put("a", 8, "a8"), gone("a", 5), put("a", 2, "a2"),
		gone("aa", 7), put("aa", 3, "aa3"),
		put("b", 6, "b6"),
		gone("c", 4), gone("c", 1),
		put("d", 10, ""), put("d", 0, "d0"),
	)
}

// odd entries would not be valid elsewhere, or are at an edge; they ascend.
func odd() []api.Entry {
	long := strings.Repeat("k", 33)
	goneWithValue := gone("g", 5)
	goneWithValue.Value = "v"
	return entries(
		put("", greatest, "of no key"), gone("", 3), put("", 3, "x"), put("", 0, ""),
		put("\x00", 1, "x"), put("\x00\x00", 2, "x"),
		put("a", 1, strings.Repeat("v", 257)), put("a", 0, "x"),
		goneWithValue, put("g", 5, "of the same number"), gone("g", 0), put("g", 0, "0"),
		put(long, 2, "x"), put(long, 1, "y"), put(long+"k", 3, "z"),
		put("é", 1, "x"), put("\xff", 1, strings.Repeat("v", 1<<16)), put("\xff\xff", greatest, "x"),
	)
}

// oddThin are those of them that are visible from the greatest number on.
func oddThin() []api.Entry {
	l := odd()
	return entries(l[0], l[4], l[5], l[6], l[8], l[12], l[14], l[15], l[16], l[17])
}

// descents are lists of which one entry does not come after the one before.
func descents() map[string][]api.Entry {
	withValue := gone("a", 1)
	withValue.Value = "x"
	return map[string][]api.Entry{
		"keys":                     entries(put("b", 1, "x"), put("a", 1, "x")),
		"a key behind a longer":    entries(put("aa", 1, "x"), put("a", 1, "x")),
		"keys by runes":            entries(put("\xff", 1, "x"), put("é", 1, "x")),
		"keys by case":             entries(put("a", 1, "x"), put("B", 1, "x")),
		"an empty key at the end":  entries(put("a", 1, "x"), put("", 9, "x")),
		"numbers":                  entries(put("a", 1, "x"), put("a", 2, "x")),
		"great numbers":            entries(put("a", 1, "x"), put("a", 1<<63, "x")),
		"the greatest number":      entries(put("a", 0, "x"), put("a", greatest, "x")),
		"gone behind there":        entries(put("a", 1, "x"), gone("a", 1)),
		"twice":                    entries(put("a", 1, "x"), put("a", 1, "x")),
		"twice, with other values": entries(put("a", 1, "x"), put("a", 1, "y")),
		"twice, no key":            entries(put("", 0, "x"), put("", 0, "")),
		"twice gone":               entries(gone("a", 1), gone("a", 1)),
		"twice gone, with a value": entries(gone("a", 1), withValue),
		"at the end":               entries(put("a", 2, "x"), put("b", 2, "x"), put("c", 2, "x"), put("c", 3, "x")),
		"at the start":             entries(put("b", 2, "x"), put("a", 2, "x"), put("c", 2, "x"), put("d", 3, "x")),
		"a key again":              entries(put("a", 2, "x"), put("b", 2, "x"), put("a", 1, "x")),
		"apart":                    entries(put("a", 2, "x"), put("a", 1, "x"), put("b", 5, "x"), put("a", 2, "x")),
	}
}

func TestExamples(t *testing.T) {
	l := entries(gone("a", 9), put("a", 5, "x"), put("a", 2, "y"), gone("b", 7))
	wantMerge(t, lists(entries(l[0], l[3]), l[1:3]), l)
	wantNoMerge(t, "a mark in two lists", lists(entries(put("a", 1, "x")), entries(put("a", 1, "y"))))
	wantThin(t, l, nil, false, l[0], l[3])
	wantThin(t, l, nil, true)
	wantThin(t, l, looks(6), true, l[0], l[1])
	wantThin(t, l, looks(3, 1), false, l[0], l[2], l[3])
	wantSee(t, l, 9)
	wantSee(t, l, 5, row("a", "x"))
	wantSee(t, l, 4, row("a", "y"))
	wantNotAscending(t, "b ahead of a", entries(put("b", 1, "x"), put("a", 1, "x")))
}

// P12.1

func TestMergeOfNothing(t *testing.T) {
	wantMerge(t, nil, nil)
	wantMerge(t, lists(), nil)
	wantMerge(t, lists(nil), nil)
	wantMerge(t, lists(nil, entries(), nil), nil)
	wantMerge(t, make([][]api.Entry, 1000), nil)
}

func TestMergeOfOneList(t *testing.T) {
	for _, l := range lists(ordinary(), odd(), ordinary()[:1], entries(put("", 0, ""))) {
		wantMerge(t, lists(l), l)
		wantMerge(t, lists(nil, l), l)
		wantMerge(t, lists(l, nil), l)
		wantMerge(t, lists(nil, nil, l, entries(), nil), l)
	}
}

// Each list of those has every third entry, or one piece, or one entry, and they stand in any order.
func TestMergeOfManyLists(t *testing.T) {
	for _, l := range lists(ordinary(), odd()) {
		for many := 1; many <= len(l)+1; many++ {
			dealt := make([][]api.Entry, many)
			for i, x := range l {
				dealt[i%many] = append(dealt[i%many], x)
			}
			pieces := slices.Collect(slices.Chunk(l, many))
			for range 2 {
				wantMerge(t, dealt, l)
				wantMerge(t, pieces, l)
				slices.Reverse(dealt)
				slices.Reverse(pieces)
			}
		}
	}
}

// In every order of five lists, of which one has nothing.
func TestMergeInEveryOrder(t *testing.T) {
	l := ordinary()
	parts := lists(entries(l[0], l[3], l[10]), entries(l[1], l[2], l[4], l[6]), nil, entries(l[5], l[7]), entries(l[8], l[9]))
	count := 0
	everyOrder(parts, func(order [][]api.Entry) {
		count++
		wantMerge(t, order, l)
	})
	if count != 120 {
		t.Errorf("%d orders", count)
	}
}

func everyOrder(l [][]api.Entry, do func([][]api.Entry)) {
	var from func(at int)
	from = func(at int) {
		if at == len(l) {
			do(l)
		}
		for i := at; i < len(l); i++ {
			l[at], l[i] = l[i], l[at]
			from(at + 1)
			l[at], l[i] = l[i], l[at]
		}
	}
	from(0)
}

func TestMergeRefusesListsThatDoNotAscend(t *testing.T) {
	good := lists(entries(put("a", 7, "x"), put("c", 7, "x")), entries(put("b", 7, "x")), nil)
	for what, bad := range descents() {
		wantNotAscending(t, what, bad)
		for at := range len(good) + 1 {
			wantNoMerge(t, what, slices.Insert(slices.Clone(good), at, bad))
		}
	}
	// The other list has just what is between: all together they look well.
	wantNoMerge(t, "one behind the other", lists(entries(put("a", 1, "x"), put("c", 1, "x"), put("b", 1, "x")), entries(put("d", 1, "x"))))
	wantNoMerge(t, "the last one", lists(entries(put("z", 1, "x")), entries(put("y", 1, "x"), put("x", 1, "x"))))
	wantNoMerge(t, "all ahead of the first", lists(entries(put("a", 1, "x")), entries(put("c", 1, "x"), put("b", 1, "x"))))
}

func TestMergeRefusesMarksInTwoLists(t *testing.T) {
	for _, l := range lists(ordinary(), odd()) {
		for i, x := range l {
			other := x
			other.Value += "another"
			for _, twice := range entries(x, other) {
				wantNoMerge(t, "in two lists", lists(l, entries(twice)))
				wantNoMerge(t, "in two lists", lists(entries(twice), l))
				wantNoMerge(t, "in two of four", lists(l[:i], l[i+1:], entries(twice), entries(x)))
				wantNoMerge(t, "in two with others", lists(nil, l[:i+1], nil, append(entries(twice), l[i+1:]...)))
			}
		}
		wantNoMerge(t, "a list twice", lists(l, l))
		wantNoMerge(t, "a list three times", lists(l, l, l))
	}
}

// Marks that differ in one thing only may be in two lists.
func TestMergeOfMarksThatAreAlike(t *testing.T) {
	l := entries(gone("a", 2), put("a", 2, "x"), gone("a", 1), put("a", 1, "x"), gone("aa", 2), put("aa", 2, "x"))
	for i := range l {
		for k := range l[:i] {
			wantMerge(t, lists(l[i:i+1], l[k:k+1]), entries(l[k], l[i]))
			wantMerge(t, lists(l[k:k+1], l[i:i+1]), entries(l[k], l[i]))
		}
	}
}

func TestMergeOfVeryManyLists(t *testing.T) {
	var l []api.Entry
	var single [][]api.Entry
	for i := range 100_000 {
		x := put(fmt.Sprintf("%08d", i/3), uint64(9-i%3), "v")
		l = append(l, x)
		single = append(single, entries(x))
	}
	slices.Reverse(single)
	wantMerge(t, single, l)
	wantMerge(t, lists(l[:1], l[1:]), l)
	wantNoMerge(t, "in two of very many", append(single, entries(l[50_000])))
}

// P12.2

func TestThinOfNothing(t *testing.T) {
	for _, last := range []bool{false, true} {
		wantThin(t, nil, nil, last)
		wantThin(t, entries(), looks(), last)
		wantThin(t, nil, looks(0, 5, greatest), last)
	}
}

// Without a look, the first entry of each key is left.
func TestThinWithNoLook(t *testing.T) {
	l := ordinary()
	wantThin(t, l, nil, false, l[0], l[4], l[6], l[7], l[9])
	wantThin(t, l, looks(), false, l[0], l[4], l[6], l[7], l[9])
	wantThin(t, l, nil, true, l[0], l[6], l[9])
	wantThin(t, odd(), nil, false, oddThin()...)
	wantThin(t, odd(), nil, true, slices.DeleteFunc(oddThin(), func(x api.Entry) bool { return x.Gone })...)
}

func TestThinWithOneLook(t *testing.T) {
	l := entries(put("a", 9, "9"), put("a", 7, "7"), put("a", 4, "4"), put("a", 1, "1"))
	for look, want := range map[uint64]int{0: 0, 1: 3, 2: 3, 3: 3, 4: 2, 5: 2, 6: 2, 7: 1, 8: 1, 9: 0, 10: 0, 1 << 63: 0, greatest: 0} {
		for _, last := range []bool{false, true} {
			if want == 0 {
				wantThin(t, l, looks(look), last, l[0])
			} else {
				wantThin(t, l, looks(look), last, l[0], l[want])
			}
		}
	}
}

// Looks in any order, more than once, and such as see nothing more.
func TestThinWithManyLooks(t *testing.T) {
	l := ordinary()
	want := entries(l[0], l[2], l[3], l[4], l[5], l[6], l[7], l[8], l[9], l[10])
	for _, at := range [][]uint64{{3, 7}, {7, 3}, {3, 7, 3}, {7, 7, 7, 3, 3}, {3, 6, 7}, {greatest, 3, 7, greatest}, {7, 20, 3, 10}} {
		wantThin(t, l, at, false, want...)
	}
	wantThin(t, l, looks(0), false, l[0], l[4], l[6], l[7], l[9], l[10])
	wantThin(t, l, looks(1), false, l[0], l[4], l[6], l[7], l[8], l[9], l[10])
	wantThin(t, l, looks(8, 0), false, l[0], l[1], l[4], l[6], l[7], l[9], l[10])
	wantThin(t, l, looks(10, 9, 8, 7, 6, 5, 4, 3, 2, 1, 0), false, l...)
	wantThin(t, l, looks(0, 1, 2, 3, 4, 5, 6, 7, 8, 9), false, l...)
}

func TestThinAtEdgesOfNumbers(t *testing.T) {
	l := entries(put("a", greatest, "x"), put("a", greatest-1, "y"), put("a", 1<<63, "z"), put("a", 1<<63-1, "u"), put("a", 1, "v"), put("a", 0, "w"))
	wantThin(t, l, nil, false, l[0])
	wantThin(t, l, looks(greatest), false, l[0])
	wantThin(t, l, looks(greatest-1), false, l[0], l[1])
	wantThin(t, l, looks(greatest-2), false, l[0], l[2])
	wantThin(t, l, looks(1<<63), false, l[0], l[2])
	wantThin(t, l, looks(1<<63-1), false, l[0], l[3])
	wantThin(t, l, looks(1<<63-2), false, l[0], l[4])
	wantThin(t, l, looks(1), false, l[0], l[4])
	wantThin(t, l, looks(0), false, l[0], l[5])
	wantThin(t, l, looks(0, 1, greatest-1, 1<<63, 1<<63-1), true, l...)
	wantThin(t, l[5:], nil, false, l[5])
	wantThin(t, l[5:], looks(0, greatest), true, l[5])
}

// Of a number, the entry that is gone hides the other one at every look.
func TestThinOfOneNumberGoneAndThere(t *testing.T) {
	for _, seq := range looks(0, 1, 5, 1<<63, greatest) {
		l := entries(gone("a", seq), put("a", seq, "x"))
		at := looks(0, 1, seq-1, seq, seq+1, greatest)
		wantThin(t, l, nil, false, l[0])
		wantThin(t, l, at, false, l[0])
		wantThin(t, l, nil, true)
		wantThin(t, l, at, true)
		wantSee(t, l, seq)
		wantSee(t, l, greatest)
	}
	l := entries(put("a", 6, "y"), gone("a", 5), put("a", 5, "x"), put("a", 4, "z"))
	wantThin(t, l, looks(5), true, l[0])
	wantThin(t, l, looks(5, 4), true, l[0], l[1], l[3])
}

// Gone entries ahead of, between and behind others of their key.
func TestThinAtTheLastLevel(t *testing.T) {
	all := looks(0, 1, 2, 3, 4, 5, 6, 7, 8, 9)
	for text, want := range map[string]string{
		"": "", "x": "x", "g": "", "gx": "gx", "xg": "x", "gg": "", "xgg": "x", "gxg": "gx", "xgx": "xgx", "ggx": "ggx", "gggg": "",
		"xgxg": "xgx", "gxgxgg": "gxgx", "xxx": "xxx", "ggxggxgg": "ggxggx",
	} {
		l := byLetters("a", text)
		wantThin(t, l, all, true, l[:len(want)]...)
		wantThin(t, l, all, false, l...)
		// Those of the keys beside it are none of its.
		before, after := byLetters("\x00", "gx"), byLetters("b", "xg")
		joined := slices.Concat(before, l, after)
		wantThin(t, joined, all, true, slices.Concat(before, l[:len(want)], after[:1])...)
		wantThin(t, joined, all, false, joined...)
	}
}

// byLetters are entries of a key, from 9 down: g is one that is gone, x one that is not.
func byLetters(key, letters string) []api.Entry {
	var l []api.Entry
	for i, c := range letters {
		x := put(key, uint64(9-i), "v")
		if c == 'g' {
			x = gone(key, uint64(9-i))
		}
		l = append(l, x)
	}
	return l
}

// What counts is what is left, not what there was: one that is not gone, but that nobody sees, keeps no other.
func TestLastLooksAtWhatIsLeft(t *testing.T) {
	l := entries(put("a", 9, "x"), gone("a", 6), put("a", 4, "y"), gone("a", 2))
	wantThin(t, l, looks(7), true, l[0])
	wantThin(t, l, looks(7), false, l[0], l[1])
	wantThin(t, l, looks(7, 2), true, l[0])
	wantThin(t, l, looks(7, 4), true, l[0], l[1], l[2])
	wantThin(t, l, looks(7, 3), true, l[0])
	wantThin(t, l[1:], nil, true)
	wantThin(t, l[1:], looks(5), true, l[1], l[2])
}

func TestThinOfOddEntries(t *testing.T) {
	l := odd()
	wantThin(t, l, looks(0), false, l[0], l[3], l[4], l[5], l[6], l[7], l[8], l[10], l[12], l[14], l[15], l[16], l[17])
	wantThin(t, l, looks(3, 1), false, l[0], l[1], l[3], l[4], l[5], l[6], l[8], l[10], l[12], l[13], l[14], l[15], l[16], l[17])
	wantThin(t, l, looks(3, 1), true, l[0], l[1], l[3], l[4], l[5], l[6], l[12], l[13], l[14], l[15], l[16], l[17])
}

// A key with very many versions, and very many looks.
func TestThinOfVeryMany(t *testing.T) {
	const many = 100_000
	var l, odds []api.Entry
	var at []uint64
	for i := range uint64(many) {
		x := put("k", 2*many-2*i, "v")
		l = append(l, x)
		if i%2 == 0 {
			odds = append(odds, x)
			at = append(at, x.Seq+1, x.Seq)
		}
	}
	wantThin(t, l, at, true, odds...)
	wantThin(t, l, nil, false, l[0])
	wantSee(t, l, 3, row("k", "v"))
	wantSee(t, l, 1)
}

// P12.3

func TestSee(t *testing.T) {
	l := ordinary()
	a9, a8, a2, aa3, b6 := row("a", "a9"), row("a", "a8"), row("a", "a2"), row("aa", "aa3"), row("b", "b6")
	d0, d10 := row("d", "d0"), row("d", "")
	for seq, want := range [][]api.Row{{d0}, {d0}, {a2, d0}, {a2, aa3, d0}, {a2, aa3, d0}, {aa3, d0}, {aa3, b6, d0}, {b6, d0}, {a8, b6, d0}, {a9, b6, d0}, {a9, b6, d10}, {a9, b6, d10}} {
		wantSee(t, l, uint64(seq), want...)
	}
	wantSee(t, l, 1<<63, a9, b6, d10)
	wantSee(t, l, greatest, a9, b6, d10)
}

func TestSeeNothing(t *testing.T) {
	for _, seq := range looks(0, 1, greatest) {
		wantSee(t, nil, seq)
		wantSee(t, entries(), seq)
		wantSee(t, entries(gone("a", 0)), seq)
		wantSee(t, entries(gone("a", 0), put("a", 0, "x")), seq)
	}
	wantSee(t, entries(put("a", 1, "x"), put("b", greatest, "x")), 0)
	wantSee(t, entries(put("a", greatest, "x")), greatest-1)
	wantSee(t, entries(put("a", greatest, "x")), greatest, row("a", "x"))
	wantSee(t, entries(put("a", 0, "x")), 0, row("a", "x"))
}

func TestSeeOddEntries(t *testing.T) {
	l := odd()
	asRow := func(at int) api.Row { return row(l[at].Key, l[at].Value) }
	wantSee(t, l, 0, asRow(3), asRow(7))
	wantSee(t, l, 1, asRow(3), asRow(4), asRow(6), asRow(13), asRow(15), asRow(16))
	wantSee(t, l, 5, asRow(4), asRow(5), asRow(6), asRow(12), asRow(14), asRow(15), asRow(16))
	wantSee(t, l, greatest, asRow(0), asRow(4), asRow(5), asRow(6), asRow(12), asRow(14), asRow(15), asRow(16), asRow(17))
}

// P12.4

// wantShown holds what is left against what there was: at each look, and from the greatest number on, the same rows.
func wantShown(t *testing.T, l []api.Entry, at []uint64, last bool) {
	t.Helper()
	left, e := merges.Thin(l, at, last)
	if e != api.OK {
		t.Fatalf("Thin(%s, %s, %t): %d", told(l), told(at), last, e)
	}
	most := uint64(0)
	for _, x := range l {
		most = max(most, x.Seq)
	}
	for _, seq := range append(looks(most, most|1, greatest-1, greatest), at...) {
		want, _ := merges.See(l, seq)
		if seq >= most || slices.Contains(at, seq) {
			wantSee(t, left, seq, want...)
		}
	}
	wantThin(t, left, at, last, left...)
}

func TestTheSameRowsAreShown(t *testing.T) {
	for _, l := range lists(ordinary(), odd(), nil) {
		for _, at := range [][]uint64{nil, {0}, {5}, {greatest}, {3, 7}, {0, 1, 2, 3, 4}, {9, 5, 5, 1}} {
			wantShown(t, l, at, false)
			wantShown(t, l, at, true)
		}
	}
}

// R4

func TestMergeKeepsToItsMemory(t *testing.T) {
	l := ordinary()
	spare := append(slices.Clone(l), odd()...)
	room := slices.Clone(spare)
	for _, parts := range [][][]api.Entry{{room[:len(l)]}, {room[:4], room[4:len(l)]}, {room[4:len(l)], nil, room[:4]}} {
		was := slices.Clone(parts)
		first, _ := merges.Merge(parts)
		second, _ := merges.Merge(parts)
		for i := range parts {
			if len(parts[i]) != len(was[i]) || len(parts[i]) > 0 && &parts[i][0] != &was[i][0] {
				t.Error("the list of lists has changed")
			}
		}
		clear(first[:cap(first)])
		if !slices.Equal(room, spare) {
			t.Error("an argument has changed")
		}
		clear(room)
		if !slices.Equal(second, l) {
			t.Error("a result has changed with another one, or with an argument")
		}
		copy(room, spare)
	}
}

func TestThinKeepsToItsMemory(t *testing.T) {
	l := ordinary()
	room, at := append(slices.Clone(l), odd()...), looks(9, 0, 5, 5, 3, 7, 4)
	roomWas, atWas := slices.Clone(room), slices.Clone(at)
	for _, last := range []bool{false, true} {
		for _, many := range []int{0, 2, 4} {
			call := func() []api.Entry {
				got, e := merges.Thin(room[:len(l)], at[:many], last)
				if e != api.OK {
					t.Fatal(e)
				}
				return got
			}
			first, second := call(), call()
			want := slices.Clone(second)
			clear(first[:cap(first)])
			if !slices.Equal(room, roomWas) || !slices.Equal(at, atWas) {
				t.Error("an argument has changed")
			}
			clear(room)
			clear(at)
			if !slices.Equal(second, want) || len(want) == 0 {
				t.Error("a result has changed with another one, or with an argument")
			}
			copy(room, roomWas)
			copy(at, atWas)
		}
	}
}

func TestSeeKeepsToItsMemory(t *testing.T) {
	l := ordinary()
	first, _ := merges.See(l, 8)
	second, _ := merges.See(l, 8)
	want := slices.Clone(second)
	clear(first[:cap(first)])
	if !slices.Equal(l, ordinary()) {
		t.Error("the argument has changed")
	}
	clear(l)
	if !slices.Equal(second, want) || len(want) != 3 {
		t.Error("a result has changed with another one, or with the argument")
	}
}

// R5

func TestSameAgain(t *testing.T) {
	l := ordinary()
	for range 50 {
		wantMerge(t, lists(l[5:], l[:5]), l)
		wantNoMerge(t, "in two", lists(l, l[:1]))
		wantThin(t, l, looks(1), false, l[0], l[4], l[6], l[7], l[8], l[9], l[10])
		wantSee(t, l, 2, row("a", "a2"), row("d", "d0"))
	}
}
