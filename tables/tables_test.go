package tables_test

import (
	"math"
	"slices"
	"strings"
	"testing"

	"bucketline/api"
	"bucketline/tables"
)

func there(key string, seq uint64, value string) api.Entry {
	return api.Entry{Mark: api.Mark{Key: key, Seq: seq}, Value: value}
}

func gone(key string, seq uint64) api.Entry {
	return api.Entry{Mark: api.Mark{Key: key, Seq: seq, Gone: true}}
}

func of(many int, c byte) string {
	return strings.Repeat(string([]byte{c}), many)
}

func want(t *testing.T, what string, e, wanted api.Errno) {
	t.Helper()
	if e != wanted {
		t.Errorf("%s = %d; want %d", what, e, wanted)
	}
}

func wantPut(t *testing.T, x *tables.Table, y api.Entry, tall int, wanted api.Errno) {
	t.Helper()
	if e := x.Put(y, tall); e != wanted {
		t.Errorf("Put(%.60q %d gone %t is %.60q, %d) = %d; want %d", y.Key, y.Seq, y.Gone, y.Value, tall, e, wanted)
	}
}

func wantGet(t *testing.T, x *tables.Table, key string, seq uint64, wanted api.Entry) {
	t.Helper()
	if y, ok := x.Get(key, seq); y != wanted || !ok {
		t.Errorf("Get(%.60q, %d) = %.200v, %t; want %.200v", key, seq, y, ok, wanted)
	}
}

func wantNone(t *testing.T, x *tables.Table, key string, seq uint64) {
	t.Helper()
	if y, ok := x.Get(key, seq); y != (api.Entry{}) || ok {
		t.Errorf("Get(%.60q, %d) = %.200v, %t; want none", key, seq, y, ok)
	}
}

func wantFrom(t *testing.T, x *tables.Table, m api.Mark, most int, wanted []api.Entry) {
	t.Helper()
	if l := x.From(m, most); !slices.Equal(l, wanted) {
		t.Errorf("From(%.60q %d gone %t, %d) = %.400v; want %.400v", m.Key, m.Seq, m.Gone, most, l, wanted)
	}
}

func wantAll(t *testing.T, x *tables.Table, wanted ...api.Entry) {
	t.Helper()
	wantFrom(t, x, api.Mark{}, math.MaxInt, wanted)
}

func wantCounts(t *testing.T, x *tables.Table, many, bytes int) {
	t.Helper()
	if x.Len() != many || x.Bytes() != bytes {
		t.Errorf("Len, Bytes = %d, %d; want %d, %d", x.Len(), x.Bytes(), many, bytes)
	}
}

// with has these entries, with towers of different heights.
func with(t *testing.T, l ...api.Entry) *tables.Table {
	t.Helper()
	x := tables.New()
	for i, y := range l {
		wantPut(t, x, y, 1+i*5%api.MaxTall, api.OK)
	}
	return x
}

// noTables are those that no call made.
func noTables() []*tables.Table {
	return []*tables.Table{nil, {}, new(tables.Table)}
}

// invalidEntries are at the edges of what is valid, and far from them.
func invalidEntries() []api.Entry {
	valued := gone("b", 1)
	valued.Value = "v"
	return []api.Entry{{}, there("", 1, "v"), gone("", 1), there(of(33, 'k'), 1, "v"), gone(of(33, 'k'), 1), there(of(1<<16, 'k'), 1, "v"), there(strings.Repeat("é", 17), 1, "v"), there("b", 1, of(257, 'v')), there("b", 1, of(1<<16, 'v')), there("b", 1, strings.Repeat("é", 129)), valued}
}

func invalidHeights() []int {
	return []int{0, -1, 9, 10, 64, 256 + 1, 1<<32 + 1, math.MaxInt, math.MinInt}
}

func TestExamples(t *testing.T) {
	x := tables.New()
	wantPut(t, x, there("b", 2, "v"), 1, api.OK)
	wantPut(t, x, gone("a", 1), 8, api.OK)
	wantPut(t, x, there("b", 3, "wx"), 2, api.OK)
	wantPut(t, x, there("b", 2, "y"), 1, api.ErrThere)
	wantCounts(t, x, 3, 6)
	wantGet(t, x, "b", 9, there("b", 3, "wx"))
	wantGet(t, x, "b", 2, there("b", 2, "v"))
	wantNone(t, x, "b", 1)
	wantGet(t, x, "a", 5, gone("a", 1))
	wantFrom(t, x, api.Mark{Key: "b", Seq: 2}, 9, []api.Entry{there("b", 2, "v")})
	wantFrom(t, x, api.Mark{Key: "a", Seq: 5}, 1, []api.Entry{gone("a", 1)})
	wantPut(t, x, there("b", 1, "v"), 9, api.ErrArg)
	wantPut(t, x, there("", 1, "v"), 1, api.ErrArg)
}

// P7.1

func TestNewIsEmpty(t *testing.T) {
	x := tables.New()
	if x == nil {
		t.Fatal("New = nil")
	}
	wantCounts(t, x, 0, 0)
	wantAll(t, x)
	wantFrom(t, x, api.Mark{Key: "a", Seq: 1, Gone: true}, 9, nil)
	wantNone(t, x, "a", math.MaxUint64)
	wantNone(t, x, "", 0)
}

func TestNewTablesShareNothing(t *testing.T) {
	x, y := tables.New(), tables.New()
	wantPut(t, x, there("a", 1, "v"), 8, api.OK)
	wantCounts(t, y, 0, 0)
	wantAll(t, y)
	wantPut(t, y, there("a", 1, "other"), 8, api.OK)
	wantAll(t, x, there("a", 1, "v"))
	wantAll(t, y, there("a", 1, "other"))
}

// P7.2

func TestPutWithoutTable(t *testing.T) {
	for _, x := range noTables() {
		wantPut(t, x, there("a", 1, "v"), 1, api.ErrNil)
		wantPut(t, x, there("a", 1, "v"), 0, api.ErrNil)
		wantPut(t, x, there("", 1, "v"), 1, api.ErrNil)
		wantCounts(t, x, 0, 0)
	}
}

func TestPutOfInvalidEntries(t *testing.T) {
	l := []api.Entry{gone("a", 1), there("b", 1, "v")}
	x := with(t, l...)
	for _, y := range invalidEntries() {
		for tall := -1; tall <= api.MaxTall+1; tall++ {
			wantPut(t, x, y, tall, api.ErrArg)
		}
		wantAll(t, x, l...)
		wantCounts(t, x, 2, 3)
	}
}

func TestPutOfInvalidHeights(t *testing.T) {
	x := with(t, there("b", 1, "v"))
	for _, tall := range invalidHeights() {
		wantPut(t, x, there("a", 1, "v"), tall, api.ErrArg)
		wantPut(t, x, gone("c", 1), tall, api.ErrArg)
	}
	wantAll(t, x, there("b", 1, "v"))
	wantCounts(t, x, 1, 2)
}

func TestPutOfEdges(t *testing.T) {
	for tall := 1; tall <= api.MaxTall; tall++ {
		for _, y := range []api.Entry{there("a", 0, ""), there("a", math.MaxUint64, "v"), gone("a", 0), gone("a", math.MaxUint64), there("\x00", 1, "\x00"), there("\xff", 1, "\xff"), there(of(32, 'k'), 1, of(256, 'v')), there(of(31, 'k'), 1, of(255, 'v')), gone(of(32, '\xff'), 1), there(strings.Repeat("é", 16), 1, strings.Repeat("é", 128))} {
			x := tables.New()
			wantPut(t, x, y, tall, api.OK)
			wantAll(t, x, y)
			wantGet(t, x, y.Key, y.Seq, y)
			wantCounts(t, x, 1, len(y.Key)+len(y.Value))
		}
	}
}

func TestPutOfAllLengths(t *testing.T) {
	for length := range 40 {
		e := api.OK
		if length < 1 || length > 32 {
			e = api.ErrArg
		}
		wantPut(t, tables.New(), there(of(length, 'k'), 1, "v"), 1, e)
		wantPut(t, tables.New(), gone(of(length, 0), 1), 8, e)
	}
	for length := range 300 {
		e := api.OK
		if length > 256 {
			e = api.ErrArg
		}
		wantPut(t, tables.New(), there("k", 1, of(length, 0)), 1, e)
	}
}

// The first entry of a mark stays, whatever the value and the height of another one.
func TestPutOfMarksThatAreThere(t *testing.T) {
	l := []api.Entry{gone("a", 2), there("a", 2, "v"), there("a", 1, ""), there("b", 2, "v"), gone("b", 0)}
	x := with(t, l...)
	for _, y := range l {
		for tall := 1; tall <= api.MaxTall; tall++ {
			wantPut(t, x, y, tall, api.ErrThere)
			if !y.Gone {
				wantPut(t, x, there(y.Key, y.Seq, "another"), tall, api.ErrThere)
				wantPut(t, x, there(y.Key, y.Seq, ""), tall, api.ErrThere)
			}
		}
	}
	wantAll(t, x, l...)
	wantCounts(t, x, 5, 7)
}

// A mark is another one if its key, its number, or whether it is gone, differs.
func TestPutOfOtherMarks(t *testing.T) {
	x := with(t, there("a", 2, "v"))
	for i, y := range []api.Entry{gone("a", 2), there("a", 1, "v"), there("a", 3, "v"), there("a", 2+1<<32, "v"), there("b", 2, "v"), there("a\x00", 2, "v"), there("A", 2, "v")} {
		wantPut(t, x, y, 1+i, api.OK)
	}
	wantCounts(t, x, 8, 16)
}

func TestPutHoldsArgumentsFirst(t *testing.T) {
	x := with(t, there("b", 1, "v"), gone("b", 1))
	wantPut(t, x, there("b", 1, "v"), 0, api.ErrArg)
	wantPut(t, x, there("b", 1, "v"), 9, api.ErrArg)
	wantPut(t, x, there("b", 1, of(257, 'v')), 1, api.ErrArg)
	valued := gone("b", 1)
	valued.Value = "v"
	wantPut(t, x, valued, 1, api.ErrArg)
}

// full has as many entries as a table may have: the even numbers of one key.
func full(t *testing.T) *tables.Table {
	t.Helper()
	x := tables.New()
	for i := range api.MaxRows {
		wantPut(t, x, there("k", uint64(2*i), "v"), 1+i%api.MaxTall, api.OK)
	}
	return x
}

func TestPutIntoFullTable(t *testing.T) {
	x := full(t)
	wantCounts(t, x, 4096, 8192)
	before := x.From(api.Mark{}, math.MaxInt)
	for _, y := range []api.Entry{there("k", 8192, "v"), there("k", 1, "v"), gone("k", 0), there("a", 1, ""), there("z", 1, of(256, 'v'))} {
		for tall := 1; tall <= api.MaxTall; tall++ {
			wantPut(t, x, y, tall, api.ErrFull)
		}
	}
	wantPut(t, x, there("k", 0, "w"), 1, api.ErrThere)
	wantPut(t, x, there("k", 8190, "w"), 8, api.ErrThere)
	wantPut(t, x, there("k", 0, "w"), 0, api.ErrArg)
	wantPut(t, x, there("", 1, "v"), 1, api.ErrArg)
	wantAll(t, x, before...)
	wantCounts(t, x, 4096, 8192)
	wantNone(t, x, "a", 9)
}

func TestFullTableAnswers(t *testing.T) {
	x := full(t)
	for i := range api.MaxRows {
		wantGet(t, x, "k", uint64(2*i), there("k", uint64(2*i), "v"))
		wantGet(t, x, "k", uint64(2*i+1), there("k", uint64(2*i), "v"))
	}
	l := x.From(api.Mark{}, math.MaxInt)
	if len(l) != api.MaxRows {
		t.Fatalf("%d entries", len(l))
	}
	for i, y := range l {
		if y != there("k", uint64(2*(api.MaxRows-1-i)), "v") {
			t.Fatalf("entry %d is %v", i, y)
		}
	}
}

// P7.3

func TestGetWithoutTable(t *testing.T) {
	for _, x := range noTables() {
		wantNone(t, x, "a", 1)
		wantNone(t, x, "", 0)
	}
}

func TestGetOfNumbers(t *testing.T) {
	x := with(t, there("b", 5, "five"), gone("b", 3), there("b", math.MaxInt64+1, "great"), there("b", 1, ""))
	wantNone(t, x, "b", 0)
	wantGet(t, x, "b", 1, there("b", 1, ""))
	wantGet(t, x, "b", 2, there("b", 1, ""))
	wantGet(t, x, "b", 3, gone("b", 3))
	wantGet(t, x, "b", 4, gone("b", 3))
	wantGet(t, x, "b", 5, there("b", 5, "five"))
	wantGet(t, x, "b", math.MaxInt64, there("b", 5, "five"))
	wantGet(t, x, "b", math.MaxInt64+1, there("b", math.MaxInt64+1, "great"))
	wantGet(t, x, "b", math.MaxUint64, there("b", math.MaxInt64+1, "great"))
}

func TestGetOfTheEdgesOfNumbers(t *testing.T) {
	x := with(t, there("b", 0, "least"), there("b", math.MaxUint64, "most"))
	wantGet(t, x, "b", 0, there("b", 0, "least"))
	wantGet(t, x, "b", math.MaxUint64-1, there("b", 0, "least"))
	wantGet(t, x, "b", math.MaxUint64, there("b", math.MaxUint64, "most"))
}

// Of two entries with one number, the one that is gone comes first, in whatever order they were put.
func TestGetOfTheOneThatIsGone(t *testing.T) {
	for _, l := range [][]api.Entry{{gone("b", 2), there("b", 2, "v")}, {there("b", 2, "v"), gone("b", 2)}} {
		x := with(t, l...)
		wantGet(t, x, "b", 2, gone("b", 2))
		wantGet(t, x, "b", 9, gone("b", 2))
		wantNone(t, x, "b", 1)
	}
}

func TestGetOfThatKeyAlone(t *testing.T) {
	x := with(t, there("b", 2, "v"), there("bb", 1, "w"), there("\xff", 1, "x"), there(of(32, 'k'), 1, "y"))
	for _, key := range []string{"", "a", "b\x00", "ba", "bbb", "B", "c", "\x00", "\xfe", "\xff\x00", of(31, 'k'), of(33, 'k'), of(1<<16, 'k')} {
		wantNone(t, x, key, math.MaxUint64)
	}
	wantNone(t, x, "b", 1)
	wantGet(t, x, "bb", 1, there("bb", 1, "w"))
	wantGet(t, x, "\xff", 1, there("\xff", 1, "x"))
	wantGet(t, x, of(32, 'k'), 1, there(of(32, 'k'), 1, "y"))
}

// P7.4

func TestFromWithoutTable(t *testing.T) {
	for _, x := range noTables() {
		wantFrom(t, x, api.Mark{}, 9, nil)
		wantFrom(t, x, api.Mark{Key: "a", Seq: 1}, math.MaxInt, nil)
		wantFrom(t, x, api.Mark{}, -1, nil)
	}
}

// inOrder are entries as marks are ordered.
func inOrder() []api.Entry {
	return []api.Entry{there("\x00", 1, "v"), there("A", 1, ""), gone("a", math.MaxUint64), there("a", math.MaxUint64, "v"), there("a", 5, "wx"), gone("a", 4), there("a", 4, "v"), there("a", 0, "v"), gone("a\x00", 9), there("aa", 9, "v"), there("b", 0, ""), there("\x7f", 3, "v"), there("\x80", 3, "v"), there(of(31, '\xff'), 3, "v"), there(of(32, '\xff'), 3, of(256, 'v'))}
}

func TestFromEachMarkThatIsThere(t *testing.T) {
	l := inOrder()
	x := with(t, l...)
	for i, y := range l {
		for most := range len(l) + 2 {
			wantFrom(t, x, y.Mark, most, l[i:min(i+most, len(l))])
		}
		wantFrom(t, x, y.Mark, math.MaxInt, l[i:])
	}
}

// A mark may be any: between those that are there, or with a key that is not valid.
func TestFromMarksThatAreNotThere(t *testing.T) {
	l := inOrder()
	x := with(t, l...)
	at := func(m api.Mark, first int) {
		t.Helper()
		wantFrom(t, x, m, math.MaxInt, l[first:])
		wantFrom(t, x, m, 1, l[first:min(first+1, len(l))])
	}
	at(api.Mark{}, 0)
	at(api.Mark{Seq: math.MaxUint64, Gone: true}, 0)
	at(api.Mark{Key: "\x00", Seq: 2}, 0)
	at(api.Mark{Key: "\x00", Seq: 1, Gone: true}, 0)
	at(api.Mark{Key: "\x00"}, 1)
	at(api.Mark{Key: "a", Seq: 6}, 4)
	at(api.Mark{Key: "a", Seq: 5, Gone: true}, 4)
	at(api.Mark{Key: "a", Seq: 3}, 7)
	at(api.Mark{Key: "a", Seq: 0, Gone: true}, 7)
	at(api.Mark{Key: "a\x00", Seq: 9}, 9)
	at(api.Mark{Key: "aa", Seq: 9, Gone: true}, 9)
	at(api.Mark{Key: "aaa", Seq: math.MaxUint64}, 10)
	at(api.Mark{Key: "b", Seq: math.MaxUint64}, 10)
	at(api.Mark{Key: of(1<<16, 'b')}, 11)
	at(api.Mark{Key: of(32, '\xff'), Seq: 4}, 14)
	at(api.Mark{Key: of(32, '\xff'), Seq: 2}, 15)
	at(api.Mark{Key: of(33, '\xff'), Seq: math.MaxUint64, Gone: true}, 15)
}

func TestFromWithoutMost(t *testing.T) {
	x := with(t, inOrder()...)
	for _, most := range []int{0, -1, -2, math.MinInt32, math.MinInt} {
		wantFrom(t, x, api.Mark{}, most, nil)
		wantFrom(t, x, api.Mark{Key: "a", Seq: 5}, most, nil)
		wantFrom(t, x, api.Mark{Key: of(33, '\xff')}, most, nil)
	}
}

// From tells what is there when it is called, also after it was called before.
func TestFromBetweenPuts(t *testing.T) {
	x := tables.New()
	l := inOrder()
	for i := len(l) - 1; i >= 0; i-- {
		wantPut(t, x, l[i], 1+i%api.MaxTall, api.OK)
		wantAll(t, x, l[i:]...)
	}
}

// R4

func TestFromReturnsNewMemory(t *testing.T) {
	l := inOrder()
	x := with(t, l...)
	first, second := x.From(api.Mark{}, 7), x.From(api.Mark{}, 7)
	whole := first[:cap(first)]
	for i := range whole {
		whole[i] = there("changed", 1, "changed")
	}
	_ = append(first, there("appended", 1, "appended"))
	if !slices.Equal(second, l[:7]) {
		t.Errorf("another result has changed to %v", second)
	}
	wantAll(t, x, l...)
	wantCounts(t, x, len(l), with(t, l...).Bytes())
}

// P7.5

func TestCountsWithoutTable(t *testing.T) {
	for _, x := range noTables() {
		wantCounts(t, x, 0, 0)
	}
}

// Each entry counts, with its key, also if another one has the same key; so do bytes, not characters.
func TestCountsOfEachPut(t *testing.T) {
	x := tables.New()
	many, bytes := 0, 0
	for i, y := range append(inOrder(), there("é", 1, "éé"), gone("é", 1)) {
		wantPut(t, x, y, 1+i%api.MaxTall, api.OK)
		many, bytes = many+1, bytes+len(y.Key)+len(y.Value)
		wantCounts(t, x, many, bytes)
	}
	wantCounts(t, with(t, there("é", 1, "éé"), gone("é", 1)), 2, 8)
}

func TestCountsOfTheGreatestTable(t *testing.T) {
	x := tables.New()
	for i := range api.MaxRows {
		wantPut(t, x, there(of(32, 'k'), uint64(i), of(256, 'v')), api.MaxTall, api.OK)
	}
	wantCounts(t, x, 4096, 4096*288)
}

// Calls that only ask change nothing.
func TestAskingChangesNothing(t *testing.T) {
	l := inOrder()
	x := with(t, l...)
	many, bytes := x.Len(), x.Bytes()
	for range 3 {
		wantAll(t, x, l...)
		wantGet(t, x, "a", 4, gone("a", 4))
		wantNone(t, x, "none", 4)
		wantCounts(t, x, many, bytes)
	}
}

// P7.6

// arranged calls f with each order of the entries from the place at on.
func arranged(l []api.Entry, at int, f func()) {
	if at == len(l) {
		f()
		return
	}
	for i := at; i < len(l); i++ {
		l[at], l[i] = l[i], l[at]
		arranged(l, at+1, f)
		l[at], l[i] = l[i], l[at]
	}
}

func TestAllOrdersOfPuts(t *testing.T) {
	wanted := []api.Entry{there("a", 7, "v"), gone("a", 2), there("a", 2, ""), there("aa", 9, "v"), gone("b", 1), there("b", 0, "wx")}
	for _, step := range []int{0, 1, 3, 5} {
		l := slices.Clone(wanted)
		arranged(l, 0, func() {
			x := tables.New()
			for i, y := range l {
				wantPut(t, x, y, 1+(i+1)*step%api.MaxTall, api.OK)
			}
			wantAll(t, x, wanted...)
		})
	}
}

// Every entry has every height, beside every height of its neighbours.
func TestAllHeights(t *testing.T) {
	wanted := []api.Entry{there("a", 1, "v"), gone("b", 2), there("b", 1, "w")}
	for heights := range 8 * 8 * 8 {
		x := tables.New()
		wantPut(t, x, wanted[1], 1+heights%8, api.OK)
		wantPut(t, x, wanted[2], 1+heights/8%8, api.OK)
		wantPut(t, x, wanted[0], 1+heights/64, api.OK)
		wantAll(t, x, wanted...)
		for i, y := range wanted {
			wantFrom(t, x, y.Mark, 9, wanted[i:])
			wantGet(t, x, y.Key, y.Seq, y)
		}
		wantCounts(t, x, 3, 5)
	}
}

// The same entries answer alike, with towers of one height or of many.
func TestGreatTablesOfOneHeight(t *testing.T) {
	for _, tall := range []int{1, 2, 8} {
		x := tables.New()
		for i := range 1000 {
			wantPut(t, x, there("k", uint64(i*607%1000), "v"), tall, api.OK)
		}
		for i, y := range x.From(api.Mark{}, math.MaxInt) {
			if y != there("k", uint64(999-i), "v") {
				t.Fatalf("tall %d: entry %d is %v", tall, i, y)
			}
		}
		wantCounts(t, x, 1000, 2000)
	}
}
