package models_test

import (
	"fmt"
	"math"
	"reflect"
	"slices"
	"strings"
	"testing"

	"bucketline/api"
	"bucketline/models"
)

func put(key, value string) api.Ask {
	return api.Ask{Kind: api.KiPut, Key: key, Value: value}
}

func del(key string) api.Ask {
	return api.Ask{Kind: api.KiDel, Key: key}
}

func casOld(key, old, value string) api.Ask {
	return api.Ask{Kind: api.KiCas, Key: key, Old: old, Value: value}
}

func casNew(key, value string) api.Ask {
	return api.Ask{Kind: api.KiCas, Key: key, New: true, Value: value}
}

func batch(l ...api.Change) api.Ask {
	return api.Ask{Kind: api.KiBatch, L: l}
}

func get(key string) api.Ask {
	return api.Ask{Kind: api.KiGet, Key: key}
}

func scan(from, to string, many int) api.Ask {
	return api.Ask{Kind: api.KiScan, Key: from, To: to, Many: many}
}

func gives(key, value string) api.Change {
	return api.Change{Key: key, Value: value}
}

func removes(key string) api.Change {
	return api.Change{Key: key, Gone: true}
}

func row(key, value string) api.Row {
	return api.Row{Key: key, Value: value}
}

func rows(l ...api.Row) []api.Row {
	return l
}

func said(client uint8, num uint32, reply api.Reply) api.Said {
	return api.Said{Client: client, Num: num, Reply: reply}
}

func yes(l ...api.Row) api.Reply {
	return api.Reply{Yes: true, Rows: l}
}

func no(l ...api.Row) api.Reply {
	return api.Reply{Rows: l}
}

// long is a text of so many bytes.
func long(n int) string {
	return strings.Repeat("k", n)
}

// told is anything in a few words.
func told(x any) string {
	return fmt.Sprintf("%.400q", fmt.Sprint(x))
}

// sameReply takes no rows and nil rows for the same.
func sameReply(x, y api.Reply) bool {
	return x.E == y.E && x.Yes == y.Yes && slices.Equal(x.Rows, y.Rows)
}

func sameSaid(x, y api.Said) bool {
	return x.Client == y.Client && x.Num == y.Num && sameReply(x.Reply, y.Reply)
}

func made(t *testing.T, l []api.Row, last ...api.Said) *models.State {
	t.Helper()
	s, e := models.Make(l, last)
	if s == nil || e != api.OK {
		t.Fatalf("Make(%s, %s) = %v, %d", told(l), told(last), s, e)
	}
	return s
}

func wantNotMade(t *testing.T, what string, l []api.Row, last ...api.Said) {
	t.Helper()
	if s, e := models.Make(l, last); s != nil || e != api.ErrArg {
		t.Errorf("%s: Make(%s, %s) = %v, %d; want nil, ErrArg", what, told(l), told(last), s, e)
	}
}

func wantDo(t *testing.T, s *models.State, client uint8, num uint32, a api.Ask, want api.Reply, wantE api.Errno) {
	t.Helper()
	if got, e := s.Do(client, num, a); !sameReply(got, want) || e != wantE {
		t.Errorf("Do(%d, %d, %s) = %s, %d; want %s, %d", client, num, told(a), told(got), e, told(want), wantE)
	}
}

func wantRows(t *testing.T, s *models.State, want ...api.Row) {
	t.Helper()
	if got := s.Rows(); !slices.Equal(got, want) {
		t.Errorf("Rows() = %s; want %s", told(got), told(want))
	}
}

func wantSaid(t *testing.T, s *models.State, want ...api.Said) {
	t.Helper()
	if got := s.Said(); !slices.EqualFunc(got, want, sameSaid) {
		t.Errorf("Said() = %s; want %s", told(got), told(want))
	}
}

func wantChanges(t *testing.T, s *models.State, a api.Ask, want ...api.Change) {
	t.Helper()
	if got := s.Changes(a); !slices.Equal(got, want) {
		t.Errorf("Changes(%s) = %s; want %s", told(a), told(got), told(want))
	}
}

// wantValid holds a request against Check, and against Do and Changes of a new state.
func wantValid(t *testing.T, a api.Ask, want bool) {
	t.Helper()
	if got := models.Check(a); got != want {
		t.Errorf("Check(%s) = %t", told(a), got)
	}
	s := models.New()
	if changes := s.Changes(a); !want && len(changes) != 0 {
		t.Errorf("Changes(%s) = %s; want none", told(a), told(changes))
	}
	if reply, e := s.Do(1, 1, a); (e == api.OK) != want || !want && (e != api.ErrArg || !sameReply(reply, no())) {
		t.Errorf("Do(1, 1, %s) = %s, %d; valid: %t", told(a), told(reply), e, want)
	}
	if !want && len(s.Rows())+len(s.Said()) != 0 {
		t.Errorf("Do(1, 1, %s) has done something", told(a))
	}
}

func TestExamples(t *testing.T) {
	s := models.New()
	wantDo(t, s, 1, 1, put("a", "x"), yes(), api.OK)
	wantDo(t, s, 1, 1, put("a", "y"), yes(), api.ErrSame)
	wantDo(t, s, 1, 2, get("a"), yes(row("a", "x")), api.OK)
	wantDo(t, s, 1, 1, get("a"), no(), api.ErrSame)

	wantDo(t, s, 2, 5, casOld("a", "x", "z"), yes(), api.OK)
	wantDo(t, s, 2, 6, casNew("a", "q"), no(), api.OK)
	wantDo(t, s, 2, 7, del("b"), no(), api.OK)
	wantDo(t, s, 2, 8, batch(gives("b", "1"), removes("a")), yes(), api.OK)
	wantRows(t, s, row("b", "1"))

	wantChanges(t, s, del("q"), removes("q"))
	wantChanges(t, s, casOld("a", "z", "w"))
	wantSaid(t, s, said(1, 1, yes()), said(2, 8, yes()))

	wantDo(t, s, 0, 1, get("a"), no(), api.ErrArg)
	wantDo(t, s, 9, 1, get("a"), no(), api.ErrArg)
	wantDo(t, s, 1, 0, get("a"), no(), api.ErrArg)
	wantDo(t, s, 1, 9, put("", "x"), no(), api.ErrArg)
}

// P13.1

func TestNewIsEmpty(t *testing.T) {
	s := models.New()
	if s == nil {
		t.Fatal("New() = nil")
	}
	wantRows(t, s)
	wantSaid(t, s)
	for client := uint8(1); client <= api.MaxClients; client++ {
		wantDo(t, s, client, 1, get("a"), no(), api.OK)
		wantDo(t, s, client, 1, del("a"), no(), api.OK)
	}
}

func TestNewStatesShareNothing(t *testing.T) {
	x, y := models.New(), models.New()
	wantDo(t, x, 1, 1, put("a", "x"), yes(), api.OK)
	wantRows(t, y)
	wantSaid(t, y)
	wantDo(t, y, 1, 1, casNew("a", "y"), yes(), api.OK)
	wantRows(t, x, row("a", "x"))
	wantRows(t, y, row("a", "y"))
}

// P13.2

func TestCheckKeys(t *testing.T) {
	with := map[string]func(key string) api.Ask{
		"put":          func(key string) api.Ask { return put(key, "v") },
		"del":          del,
		"cas old":      func(key string) api.Ask { return casOld(key, "o", "v") },
		"cas new":      func(key string) api.Ask { return casNew(key, "v") },
		"get":          get,
		"scan from":    func(key string) api.Ask { return scan(key, "b", 3) },
		"scan to":      func(key string) api.Ask { return scan("a", key, 3) },
		"batch":        func(key string) api.Ask { return batch(gives(key, "v")) },
		"batch, gone":  func(key string) api.Ask { return batch(removes(key)) },
		"batch, later": func(key string) api.Ask { return batch(gives("a", "v"), removes("b"), gives(key, "v")) },
	}
	for _, request := range with {
		for _, key := range []string{"k", "\x00", "\xff", "é", long(api.MaxUser - 1), long(api.MaxUser), strings.Repeat("\xff", api.MaxUser)} {
			wantValid(t, request(key), true)
		}
		for _, key := range []string{"", long(api.MaxUser + 1), long(api.MaxKey), long(api.MaxKey + 1), long(1000)} {
			wantValid(t, request(key), false)
		}
	}
}

func TestCheckValues(t *testing.T) {
	with := []func(value string) api.Ask{
		func(value string) api.Ask { return put("a", value) },
		func(value string) api.Ask { return casOld("a", value, "v") },
		func(value string) api.Ask { return casOld("a", "o", value) },
		func(value string) api.Ask { return casNew("a", value) },
		func(value string) api.Ask { return batch(gives("a", value)) },
		func(value string) api.Ask { return batch(removes("b"), gives("a", "v"), gives("a", value)) },
	}
	for _, request := range with {
		for _, value := range []string{"", "v", "\x00", "\xff", long(api.MaxValue - 1), long(api.MaxValue)} {
			wantValid(t, request(value), true)
		}
		for _, value := range []string{long(api.MaxValue + 1), long(5000)} {
			wantValid(t, request(value), false)
		}
	}
}

func TestCheckConditions(t *testing.T) {
	a := casNew("a", "v")
	a.Old = "o"
	wantValid(t, a, false)
	a.Old = ""
	wantValid(t, a, true)
	a.New = false
	wantValid(t, a, true)
}

func TestCheckBatches(t *testing.T) {
	wantValid(t, batch(), false)
	wantValid(t, api.Ask{Kind: api.KiBatch, L: []api.Change{}}, false)
	for many := 1; many <= api.MaxBatch; many++ {
		wantValid(t, batch(slices.Repeat([]api.Change{gives("a", "v")}, many)...), true)
		wantValid(t, batch(slices.Repeat([]api.Change{removes("a")}, many)...), true)
	}
	wantValid(t, batch(slices.Repeat([]api.Change{gives("a", "v")}, api.MaxBatch+1)...), false)
	wantValid(t, batch(slices.Repeat([]api.Change{gives("a", "v")}, 10000)...), false)
	for at := range api.MaxBatch {
		l := slices.Repeat([]api.Change{gives("a", "v")}, api.MaxBatch)
		l[at] = api.Change{Key: "a", Value: "v", Gone: true}
		wantValid(t, batch(l...), false)
		l[at] = api.Change{Key: "", Value: "v"}
		wantValid(t, batch(l...), false)
	}
}

func TestCheckScans(t *testing.T) {
	for _, many := range []int{0, 1, api.MaxScan - 1, api.MaxScan} {
		wantValid(t, scan("a", "b", many), true)
		wantValid(t, scan("b", "a", many), true)
		wantValid(t, scan("a", "a", many), true)
	}
	for _, many := range []int{-1, api.MaxScan + 1, math.MinInt, math.MaxInt} {
		wantValid(t, scan("a", "b", many), false)
	}
}

func TestCheckKinds(t *testing.T) {
	fields := []api.Ask{{}, {Key: "a"}, {Key: "a", Value: "v"}, {L: []api.Change{gives("a", "v")}}, {Key: "a", To: "b", Many: 1}}
	for _, a := range fields {
		for kind := range 256 {
			if kind < int(api.KiPut) || kind > int(api.KiScan) {
				a.Kind = api.Kind(kind)
				wantValid(t, a, false)
			}
		}
	}
	for kind := range 256 {
		wantValid(t, api.Ask{Kind: api.Kind(kind)}, false)
	}
}

// fillings fill one field each.
func fillings() map[string]func(a *api.Ask) {
	return map[string]func(a *api.Ask){
		"Key":   func(a *api.Ask) { a.Key = "q" },
		"Value": func(a *api.Ask) { a.Value = "q" },
		"Old":   func(a *api.Ask) { a.Old = "q" },
		"New":   func(a *api.Ask) { a.New = true },
		"To":    func(a *api.Ask) { a.To = "q" },
		"Many":  func(a *api.Ask) { a.Many = 1 },
		"L":     func(a *api.Ask) { a.L = []api.Change{gives("q", "q")} },
	}
}

func TestCheckFieldsThatAreNotNamed(t *testing.T) {
	for _, c := range []struct {
		a     api.Ask
		named string
	}{
		{put("a", "v"), "Key Value"},
		{del("a"), "Key"},
		{casOld("a", "", "v"), "Key Value Old New"},
		{casNew("a", "v"), "Key Value New"},
		{batch(gives("a", "v")), "L"},
		{get("a"), "Key"},
		{scan("a", "b", 5), "Key To Many"},
	} {
		for field, fill := range fillings() {
			a := c.a
			fill(&a)
			wantValid(t, a, slices.Contains(strings.Fields(c.named), field))
		}
	}
}

func TestCheckNumbersThatAreNotNamed(t *testing.T) {
	for _, a := range []api.Ask{put("a", "v"), del("a"), casOld("a", "o", "v"), batch(gives("a", "v")), get("a")} {
		for _, many := range []int{-1, 1, api.MaxScan, math.MinInt, math.MaxInt} {
			a.Many = many
			wantValid(t, a, false)
		}
	}
}

// P13.3

func TestPut(t *testing.T) {
	s := models.New()
	wantDo(t, s, 1, 1, put("b", "1"), yes(), api.OK)
	wantDo(t, s, 1, 2, put("a", ""), yes(), api.OK)
	wantRows(t, s, row("a", ""), row("b", "1"))
	wantDo(t, s, 1, 3, put("b", "2"), yes(), api.OK)
	wantDo(t, s, 1, 4, put("aa", "3"), yes(), api.OK)
	wantRows(t, s, row("a", ""), row("aa", "3"), row("b", "2"))
	wantDo(t, s, 1, 5, put("b", ""), yes(), api.OK)
	wantRows(t, s, row("a", ""), row("aa", "3"), row("b", ""))
}

func TestDel(t *testing.T) {
	s := made(t, rows(row("a", "x"), row("b", ""), row("c", "z")))
	wantDo(t, s, 1, 1, del("b"), yes(), api.OK)
	wantRows(t, s, row("a", "x"), row("c", "z"))
	wantDo(t, s, 1, 2, del("b"), no(), api.OK)
	wantDo(t, s, 1, 3, del("aa"), no(), api.OK)
	wantDo(t, s, 1, 4, del("c"), yes(), api.OK)
	wantDo(t, s, 1, 5, del("a"), yes(), api.OK)
	wantDo(t, s, 1, 6, del("a"), no(), api.OK)
	wantRows(t, s)
}

func TestCasOld(t *testing.T) {
	s := made(t, rows(row("a", "x"), row("b", "")))
	wantDo(t, s, 1, 1, casOld("a", "y", "z"), no(), api.OK)
	wantDo(t, s, 1, 2, casOld("a", "", "z"), no(), api.OK)
	wantRows(t, s, row("a", "x"), row("b", ""))
	wantDo(t, s, 1, 3, casOld("a", "x", "y"), yes(), api.OK)
	wantDo(t, s, 1, 4, casOld("a", "x", "z"), no(), api.OK)
	wantDo(t, s, 1, 5, casOld("b", "", "1"), yes(), api.OK)
	wantDo(t, s, 1, 6, casOld("c", "", "1"), no(), api.OK)
	wantDo(t, s, 1, 7, casOld("c", "x", "1"), no(), api.OK)
	wantRows(t, s, row("a", "y"), row("b", "1"))
	wantSaid(t, s, said(1, 7, no()))
	wantDo(t, s, 1, 8, casOld("a", "y", "y"), yes(), api.OK)
	wantDo(t, s, 1, 9, casOld("a", "y", ""), yes(), api.OK)
	wantRows(t, s, row("a", ""), row("b", "1"))
}

func TestCasNew(t *testing.T) {
	s := made(t, rows(row("b", ""), row("d", "x")))
	wantDo(t, s, 1, 1, casNew("b", "1"), no(), api.OK)
	wantDo(t, s, 1, 2, casNew("d", "1"), no(), api.OK)
	wantDo(t, s, 1, 3, casNew("c", "1"), yes(), api.OK)
	wantDo(t, s, 1, 4, casNew("c", "1"), no(), api.OK)
	wantDo(t, s, 1, 5, casNew("a", ""), yes(), api.OK)
	wantDo(t, s, 1, 6, casNew("a", "x"), no(), api.OK)
	wantRows(t, s, row("a", ""), row("b", ""), row("c", "1"), row("d", "x"))
	wantDo(t, s, 1, 7, del("d"), yes(), api.OK)
	wantDo(t, s, 1, 8, casNew("d", "y"), yes(), api.OK)
	wantRows(t, s, row("a", ""), row("b", ""), row("c", "1"), row("d", "y"))
}

func TestBatch(t *testing.T) {
	s := made(t, rows(row("a", "x"), row("b", "y")))
	wantDo(t, s, 1, 1, batch(removes("none")), yes(), api.OK)
	wantRows(t, s, row("a", "x"), row("b", "y"))
	wantDo(t, s, 1, 2, batch(gives("c", "1"), gives("c", "2"), removes("a"), gives("b", "")), yes(), api.OK)
	wantRows(t, s, row("b", ""), row("c", "2"))
	wantDo(t, s, 1, 3, batch(gives("d", "1"), removes("d"), removes("c"), gives("c", "3")), yes(), api.OK)
	wantRows(t, s, row("b", ""), row("c", "3"))
	wantDo(t, s, 1, 4, batch(removes("b"), removes("b"), removes("c"), gives("c", "4"), removes("c")), yes(), api.OK)
	wantRows(t, s)

	var all []api.Change
	var want []api.Row
	for i := range api.MaxBatch {
		all = append(all, gives(string(rune('p'-i)), "v"))
		want = append(want, row(string(rune('a'+i)), "v"))
	}
	wantDo(t, s, 1, 5, batch(all...), yes(), api.OK)
	wantRows(t, s, want...)
}

func TestBatchIsAllOrNone(t *testing.T) {
	s := made(t, rows(row("a", "x")))
	wantDo(t, s, 1, 1, batch(gives("a", "y"), removes("a"), gives("b", "1"), gives(long(api.MaxUser+1), "2")), no(), api.ErrArg)
	wantRows(t, s, row("a", "x"))
	wantSaid(t, s)
	wantDo(t, s, 1, 1, batch(gives("b", "1")), yes(), api.OK)
}

func TestGet(t *testing.T) {
	s := made(t, rows(row("a", "x"), row("b", "")))
	wantDo(t, s, 1, 1, get("a"), yes(row("a", "x")), api.OK)
	wantDo(t, s, 1, 1, get("b"), yes(row("b", "")), api.OK)
	wantDo(t, s, 1, 1, get("c"), no(), api.OK)
	wantDo(t, s, 1, 1, get("A"), no(), api.OK)
	wantDo(t, s, 1, 1, get("aa"), no(), api.OK)
	wantRows(t, s, row("a", "x"), row("b", ""))
	wantSaid(t, s)
}

func TestScan(t *testing.T) {
	a, b, c := row("a", "x"), row("b", ""), row("c", "z")
	s := made(t, rows(c, a, b))
	for _, x := range []struct {
		from, to string
		many     int
		want     []api.Row
	}{
		{"a", "c", api.MaxScan, rows(a, b, c)},
		{"a", "c", 3, rows(a, b, c)},
		{"a", "c", 2, rows(a, b)},
		{"a", "c", 1, rows(a)},
		{"a", "c", 0, nil},
		{"b", "b", 9, rows(b)},
		{"b", "b", 1, rows(b)},
		{"b", "b", 0, nil},
		{"a", "b\x00", 9, rows(a, b)},
		{"a\x00", "c", 9, rows(b, c)},
		{"a\x00", "c", 1, rows(b)},
		{"a\x00", "b", 9, rows(b)},
		{"a\x00", "aa", 9, nil},
		{"A", "a", 9, rows(a)},
		{"A", "Z", 9, nil},
		{"d", "e", 9, nil},
		{"\x00", "\xff", 9, rows(a, b, c)},
		{"c", "a", 9, nil},
		{"c", "b", 9, nil},
		{"d", "a", 9, nil},
		{"c", "A", 1, nil},
		{"b\x00", "b", 9, nil},
		{"b\x00", "a", 9, nil},
	} {
		wantDo(t, s, 1, 1, scan(x.from, x.to, x.many), no(x.want...), api.OK)
	}
	wantDo(t, models.New(), 1, 1, scan("a", "c", 9), no(), api.OK)
	wantRows(t, s, a, b, c)
	wantSaid(t, s)
}

func TestScanOfManyRows(t *testing.T) {
	var all []api.Row
	for i := range 3 * api.MaxScan {
		all = append(all, row(fmt.Sprintf("k%03d", i), fmt.Sprint(i)))
	}
	s := made(t, all)
	wantDo(t, s, 1, 1, scan("k", "l", api.MaxScan), no(all[:api.MaxScan]...), api.OK)
	wantDo(t, s, 1, 1, scan("k", "l", api.MaxScan-1), no(all[:api.MaxScan-1]...), api.OK)
	wantDo(t, s, 1, 1, scan("k100", "l", api.MaxScan), no(all[100:100+api.MaxScan]...), api.OK)
	wantDo(t, s, 1, 1, scan("k180", "l", api.MaxScan), no(all[180:]...), api.OK)
	wantDo(t, s, 1, 1, scan("k100", "k150", api.MaxScan), no(all[100:151]...), api.OK)
}

func TestKeysAreOrderedByBytes(t *testing.T) {
	s := models.New()
	keys := []string{"b", "\xff", "a\x00", "é", "aa", "\x00", "a", "\x80", "B", "\x7f", "a\xff", "\x00\x00"}
	for i, key := range keys {
		wantDo(t, s, 1, uint32(i+1), put(key, "v"), yes(), api.OK)
	}
	want := rows(row("\x00", "v"), row("\x00\x00", "v"), row("B", "v"), row("a", "v"), row("a\x00", "v"), row("aa", "v"), row("a\xff", "v"), row("b", "v"), row("\x7f", "v"), row("\x80", "v"), row("é", "v"), row("\xff", "v"))
	wantRows(t, s, want...)
	wantDo(t, s, 1, 99, scan("a", "\x80", 64), no(want[3:10]...), api.OK)
}

func TestNumbers(t *testing.T) {
	s := models.New()
	wantDo(t, s, 1, 10, put("a", "x"), yes(), api.OK)
	wantDo(t, s, 1, 20, casOld("a", "y", "z"), no(), api.OK)
	for _, num := range []uint32{1, 9, 10, 11, 19} {
		wantDo(t, s, 1, num, put("a", "q"), no(), api.ErrSame)
		wantDo(t, s, 1, num, get("a"), no(), api.ErrSame)
		wantDo(t, s, 1, num, scan("a", "b", 9), no(), api.ErrSame)
	}
	wantDo(t, s, 1, 20, put("a", "q"), no(), api.ErrSame)
	wantDo(t, s, 1, 20, get("a"), no(), api.ErrSame)
	wantDo(t, s, 1, 20, scan("a", "b", 9), no(), api.ErrSame)
	wantDo(t, s, 1, 21, scan("a", "b", 9), no(row("a", "x")), api.OK)
	wantDo(t, s, 1, 21, put("a", "q"), yes(), api.OK)
	wantDo(t, s, 1, 21, put("a", "r"), yes(), api.ErrSame)
	wantDo(t, s, 1, 20, put("a", "r"), no(), api.ErrSame)
	wantRows(t, s, row("a", "q"))
	wantSaid(t, s, said(1, 21, yes()))
	wantDo(t, s, 1, math.MaxUint32, put("a", "s"), yes(), api.OK)
	wantDo(t, s, 1, math.MaxUint32, del("a"), yes(), api.ErrSame)
	wantDo(t, s, 1, math.MaxUint32-1, del("a"), no(), api.ErrSame)
	wantDo(t, s, 1, 1, del("a"), no(), api.ErrSame)
	wantRows(t, s, row("a", "s"))
	wantSaid(t, s, said(1, math.MaxUint32, yes()))
}

func TestEachKindOfChangeIsKept(t *testing.T) {
	for _, a := range []api.Ask{put("a", "1"), del("a"), casOld("a", "x", "1"), casNew("b", "1"), batch(removes("a"), gives("b", "1"))} {
		s := made(t, rows(row("a", "x")))
		wantDo(t, s, 3, 7, a, yes(), api.OK)
		wantSaid(t, s, said(3, 7, yes()))
		after := s.Rows()
		wantDo(t, s, 3, 7, a, yes(), api.ErrSame)
		wantDo(t, s, 3, 7, put("z", "z"), yes(), api.ErrSame)
		wantDo(t, s, 3, 6, a, no(), api.ErrSame)
		wantRows(t, s, after...)
		wantSaid(t, s, said(3, 7, yes()))
	}
	for _, a := range []api.Ask{del("b"), casOld("a", "y", "1"), casOld("b", "", "1"), casNew("a", "1")} {
		s := made(t, rows(row("a", "x")))
		wantDo(t, s, 3, 7, a, no(), api.OK)
		wantSaid(t, s, said(3, 7, no()))
		wantDo(t, s, 3, 7, put("z", "z"), no(), api.ErrSame)
		wantRows(t, s, row("a", "x"))
	}
}

func TestReadsComeAgain(t *testing.T) {
	s := made(t, rows(row("a", "x")), said(1, 3, yes()))
	for range 3 {
		wantDo(t, s, 1, 5, get("a"), yes(row("a", "x")), api.OK)
		wantDo(t, s, 1, 5, scan("a", "b", 1), no(row("a", "x")), api.OK)
		wantDo(t, s, 1, 4, get("a"), yes(row("a", "x")), api.OK)
	}
	wantSaid(t, s, said(1, 3, yes()))
	wantDo(t, s, 2, 1, put("a", "y"), yes(), api.OK)
	wantDo(t, s, 1, 5, get("a"), yes(row("a", "y")), api.OK)
	wantDo(t, s, 1, 4, del("a"), yes(), api.OK)
	wantDo(t, s, 1, 5, get("a"), no(), api.OK)
	wantDo(t, s, 1, 4, get("a"), no(), api.ErrSame)
}

func TestClientsHaveNumbersOfTheirOwn(t *testing.T) {
	s := models.New()
	var want []api.Said
	for client := uint8(api.MaxClients); client >= 1; client-- {
		wantDo(t, s, client, 5, put("a", fmt.Sprint(client)), yes(), api.OK)
		wantDo(t, s, client, 5, del("a"), yes(), api.ErrSame)
		wantRows(t, s, row("a", fmt.Sprint(client)))
		want = slices.Insert(want, 0, said(client, 5, yes()))
		wantSaid(t, s, want...)
	}
	for client := uint8(1); client <= api.MaxClients; client++ {
		wantDo(t, s, client, 4, del("a"), no(), api.ErrSame)
		wantDo(t, s, client, 5+uint32(client), casNew("a", "q"), no(), api.OK)
		want[client-1] = said(client, 5+uint32(client), no())
		wantSaid(t, s, want...)
	}
	wantRows(t, s, row("a", "1"))
}

func TestDoOfWrongArguments(t *testing.T) {
	s := made(t, rows(row("a", "x")), said(1, 5, yes()))
	for client := range 256 {
		if client < 1 || client > api.MaxClients {
			for _, num := range []uint32{0, 1, 5, 6, math.MaxUint32} {
				wantDo(t, s, uint8(client), num, put("a", "y"), no(), api.ErrArg)
				wantDo(t, s, uint8(client), num, get("a"), no(), api.ErrArg)
			}
		}
	}
	for client := uint8(1); client <= api.MaxClients; client++ {
		wantDo(t, s, client, 0, put("a", "y"), no(), api.ErrArg)
		wantDo(t, s, client, 0, get("a"), no(), api.ErrArg)
		wantDo(t, s, client, 0, put("", "y"), no(), api.ErrArg)
		// An invalid request is told of ahead of a number that was there.
		for _, num := range []uint32{1, 4, 5, 6} {
			wantDo(t, s, client, num, put("", "y"), no(), api.ErrArg)
			wantDo(t, s, client, num, api.Ask{}, no(), api.ErrArg)
			wantDo(t, s, client, num, get(long(api.MaxUser+1)), no(), api.ErrArg)
		}
	}
	wantRows(t, s, row("a", "x"))
	wantSaid(t, s, said(1, 5, yes()))
}

// P13.4

func TestRowsAndSaidChangeNothing(t *testing.T) {
	s := made(t, rows(row("b", "y"), row("a", "x")), said(4, 2, no()), said(1, 9, yes()))
	for range 3 {
		wantRows(t, s, row("a", "x"), row("b", "y"))
		wantSaid(t, s, said(1, 9, yes()), said(4, 2, no()))
	}
}

// P13.5

func TestMake(t *testing.T) {
	s := made(t, nil)
	wantRows(t, s)
	wantSaid(t, s)
	s = made(t, []api.Row{}, []api.Said{}...)
	wantRows(t, s)
	wantSaid(t, s)

	full := row(long(api.MaxUser), long(api.MaxValue))
	s = made(t, rows(full, row("\xff", ""), row("\x00", "v")))
	wantRows(t, s, row("\x00", "v"), full, row("\xff", ""))
	wantSaid(t, s)
}

func TestMakeWithAnyReply(t *testing.T) {
	for _, reply := range []api.Reply{
		{}, yes(), {E: api.ErrLost}, {E: -1, Yes: true}, {E: math.MaxInt},
		no(api.Row{}), yes(row("b", "y"), row("a", "x"), row("b", "y")), {E: api.ErrArg, Rows: rows(row(long(99), long(999)))},
	} {
		s := made(t, rows(row("a", "x")), said(2, 3, reply))
		wantSaid(t, s, said(2, 3, reply))
		wantDo(t, s, 2, 3, put("a", "y"), reply, api.ErrSame)
		wantDo(t, s, 2, 3, del("q"), reply, api.ErrSame)
		wantDo(t, s, 2, 3, get("a"), no(), api.ErrSame)
		wantDo(t, s, 2, 3, scan("a", "b", 2), no(), api.ErrSame)
		wantDo(t, s, 2, 2, put("a", "y"), no(), api.ErrSame)
		wantDo(t, s, 1, 3, get("a"), yes(row("a", "x")), api.OK)
		wantDo(t, s, 2, 4, put("a", "y"), yes(), api.OK)
		wantSaid(t, s, said(2, 4, yes()))
	}
}

func TestMakeWithAllClients(t *testing.T) {
	var last, want []api.Said
	for client := uint8(1); client <= api.MaxClients; client++ {
		x := said(client, uint32(client)*1000, api.Reply{E: api.Errno(client)})
		last = slices.Insert(last, 0, x)
		want = append(want, x)
	}
	wantSaid(t, made(t, nil, last...), want...)
	last[0].Num = math.MaxUint32
	want[api.MaxClients-1].Num = math.MaxUint32
	wantSaid(t, made(t, nil, last...), want...)
}

func TestMakeOfWrongRows(t *testing.T) {
	a, b := row("a", "x"), row("b", "y")
	wantNotMade(t, "no key", rows(row("", "v")))
	wantNotMade(t, "no key, later", rows(b, row("", "v"), a))
	wantNotMade(t, "key too long", rows(a, row(long(api.MaxUser+1), "v")))
	wantNotMade(t, "key too long", rows(row(long(api.MaxKey), "v")))
	wantNotMade(t, "key too long", rows(row(long(api.MaxKey+1), "v"), a))
	wantNotMade(t, "value too long", rows(row("v", long(api.MaxValue+1))))
	wantNotMade(t, "value too long", rows(b, row("v", long(9999)), a))
	wantNotMade(t, "the same row twice", rows(a, a))
	wantNotMade(t, "a key twice", rows(a, row("a", "other")))
	wantNotMade(t, "a key twice, apart", rows(a, b, row("c", ""), row("a", "other")))
	wantNotMade(t, "a key twice, at the end", rows(a, row("c", ""), b, row("c", "")))
	wantNotMade(t, "a key twice, and what was said", rows(a, a), said(1, 1, yes()))
}

func TestMakeOfWrongSaid(t *testing.T) {
	x := said(1, 5, yes())
	wantNotMade(t, "client 0", nil, said(0, 1, yes()))
	wantNotMade(t, "client 9", nil, said(api.MaxClients+1, 1, yes()))
	wantNotMade(t, "client 255", nil, x, said(255, 1, yes()))
	wantNotMade(t, "client 16 more", nil, said(17, 1, yes()))
	wantNotMade(t, "number 0", nil, said(1, 0, yes()))
	wantNotMade(t, "number 0, later", nil, x, said(2, 0, yes()))
	wantNotMade(t, "number 0, and then another", nil, said(1, 0, yes()), x)
	wantNotMade(t, "the same twice", nil, x, x)
	wantNotMade(t, "a client twice", nil, x, said(1, 6, no()))
	wantNotMade(t, "a client twice, apart", nil, said(8, 6, no()), x, said(2, 1, no()), said(8, 7, no()))
	wantNotMade(t, "a client twice, and rows", rows(row("a", "x")), x, x)
	for client := range 256 {
		if client < 1 || client > api.MaxClients {
			wantNotMade(t, "client", nil, said(uint8(client), 1, yes()))
		}
	}
}

// P13.6

func TestChanges(t *testing.T) {
	s := made(t, rows(row("a", "x"), row("b", "")), said(1, 5, yes()))
	wantChanges(t, s, put("a", "x"), gives("a", "x"))
	wantChanges(t, s, put("c", ""), gives("c", ""))
	wantChanges(t, s, del("a"), removes("a"))
	wantChanges(t, s, del("c"), removes("c"))
	wantChanges(t, s, casOld("a", "x", "y"), gives("a", "y"))
	wantChanges(t, s, casOld("a", "x", "x"), gives("a", "x"))
	wantChanges(t, s, casOld("a", "y", "z"))
	wantChanges(t, s, casOld("b", "", "z"), gives("b", "z"))
	wantChanges(t, s, casOld("c", "", "z"))
	wantChanges(t, s, casNew("a", "z"))
	wantChanges(t, s, casNew("b", "z"))
	wantChanges(t, s, casNew("c", "z"), gives("c", "z"))
	wantChanges(t, s, get("a"))
	wantChanges(t, s, scan("a", "b", 9))
	l := []api.Change{gives("c", "1"), removes("c"), gives("c", "1"), removes("none"), gives("a", "x"), removes("c")}
	wantChanges(t, s, batch(l...), l...)
	l = slices.Repeat([]api.Change{gives("a", "1")}, api.MaxBatch)
	wantChanges(t, s, batch(l...), l...)

	wantRows(t, s, row("a", "x"), row("b", ""))
	wantSaid(t, s, said(1, 5, yes()))
}

func TestChangesOfInvalidRequests(t *testing.T) {
	s := made(t, rows(row("a", "x")))
	for _, a := range []api.Ask{
		{}, {Kind: 7, Key: "a"}, {Kind: 255}, put("", "v"), put(long(api.MaxUser+1), "v"), put("a", long(api.MaxValue+1)),
		del(""), del(long(api.MaxUser + 1)), casOld("", "x", "y"), casOld("a", "x", long(api.MaxValue+1)), casNew("", "v"),
		{Kind: api.KiCas, Key: "b", New: true, Old: "o"}, {Kind: api.KiDel, Key: "a", Value: "v"}, {Kind: api.KiPut, Key: "a", Many: 1},
		batch(), batch(gives("a", "v"), gives("", "v")), batch(slices.Repeat([]api.Change{gives("a", "1")}, api.MaxBatch+1)...),
	} {
		wantChanges(t, s, a)
	}
}

// P13.7

func TestRepeatedRequestsChangeNothing(t *testing.T) {
	s := made(t, rows(row("a", "x"), row("b", "y")))
	wantDo(t, s, 2, 9, del("a"), yes(), api.OK)
	for num := uint32(1); num <= 9; num++ {
		for _, a := range []api.Ask{put("a", "z"), del("b"), casOld("b", "y", "z"), casNew("a", "z"), batch(removes("b")), get("a"), scan("a", "b", 1)} {
			if _, e := s.Do(2, num, a); e != api.ErrSame {
				t.Errorf("Do(2, %d, %s) = %d", num, told(a), e)
			}
		}
	}
	wantRows(t, s, row("b", "y"))
	wantSaid(t, s, said(2, 9, yes()))
}

// R3

func TestStatesThatDoNotExist(t *testing.T) {
	for _, s := range []*models.State{nil, {}} {
		wantDo(t, s, 1, 1, put("a", "x"), no(), api.ErrNil)
		wantDo(t, s, 1, 1, get("a"), no(), api.ErrNil)
		wantDo(t, s, 0, 0, api.Ask{}, no(), api.ErrNil)
		wantRows(t, s)
		wantSaid(t, s)
		for _, a := range []api.Ask{put("a", "x"), del("a"), casNew("a", "x"), batch(gives("a", "x")), get("a"), {}} {
			wantChanges(t, s, a)
		}
	}
}

// R4

// clearAll overwrites a list, and what it has room for.
func clearAll[T any](l []T) {
	clear(l[:cap(l)])
}

func TestArgumentsAreLeftAsTheyAre(t *testing.T) {
	l := rows(row("b", "y"), row("a", "x"), row("spare", "s"))
	inner := rows(row("z", "1"), row("y", "2"), row("spare", "s"))
	last := []api.Said{said(2, 3, yes(inner[:2]...)), said(1, 4, no()), said(7, 7, no())}
	s := made(t, l[:2], last[:2]...)
	changes := []api.Change{gives("d", "1"), removes("b"), gives("spare", "s")}
	wantDo(t, s, 3, 1, batch(changes[:2]...), yes(), api.OK)
	wantChanges(t, s, batch(changes[:2]...), changes[:2]...)

	if want := rows(row("b", "y"), row("a", "x"), row("spare", "s")); !slices.Equal(l, want) {
		t.Errorf("the rows are %s", told(l))
	}
	if want := rows(row("z", "1"), row("y", "2"), row("spare", "s")); !slices.Equal(inner, want) {
		t.Errorf("the rows of the reply are %s", told(inner))
	}
	if want := []api.Said{said(2, 3, yes(inner[:2]...)), said(1, 4, no()), said(7, 7, no())}; !reflect.DeepEqual(last, want) {
		t.Errorf("what was said is %s", told(last))
	}
	if want := []api.Change{gives("d", "1"), removes("b"), gives("spare", "s")}; !slices.Equal(changes, want) {
		t.Errorf("the changes are %s", told(changes))
	}
}

func TestStateSharesNothingWithArguments(t *testing.T) {
	l := rows(row("a", "x"), row("b", "y"))
	inner := rows(row("z", "1"))
	last := []api.Said{said(2, 3, yes(inner...))}
	s := made(t, l, last...)
	clearAll(l)
	clearAll(inner)
	clearAll(last)
	wantRows(t, s, row("a", "x"), row("b", "y"))
	wantSaid(t, s, said(2, 3, yes(row("z", "1"))))

	changes := []api.Change{gives("c", "1"), gives("d", "2")}
	wantDo(t, s, 1, 1, batch(changes...), yes(), api.OK)
	clearAll(changes)
	wantRows(t, s, row("a", "x"), row("b", "y"), row("c", "1"), row("d", "2"))
}

func TestResultsAreNewMemory(t *testing.T) {
	s := made(t, rows(row("a", "x"), row("b", "y"), row("c", "z")), said(2, 3, yes(row("z", "1"))), said(4, 4, no(row("z", "2"))))
	check := func(what string) {
		t.Helper()
		wantRows(t, s, row("a", "x"), row("b", "y"), row("c", "z"))
		wantSaid(t, s, said(2, 3, yes(row("z", "1"))), said(4, 4, no(row("z", "2"))))
		if t.Failed() {
			t.Fatalf("behind %s", what)
		}
	}
	kept := s.Rows()
	clearAll(s.Rows())
	check("Rows")
	for _, x := range s.Said() {
		clearAll(x.Reply.Rows)
	}
	check("the rows of Said")
	clearAll(s.Said())
	check("Said")
	reply, _ := s.Do(2, 3, del("a"))
	clearAll(reply.Rows)
	check("a reply that comes again")
	reply, _ = s.Do(1, 1, get("b"))
	clearAll(reply.Rows)
	check("a get")
	reply, _ = s.Do(1, 1, scan("a", "b", 2))
	clearAll(reply.Rows)
	check("a scan")
	reply, _ = s.Do(1, 1, scan("d", "e", 2))
	clearAll(reply.Rows)
	check("a scan of nothing")

	wantDo(t, s, 1, 1, batch(removes("a"), gives("b", "other"), gives("aa", "1")), yes(), api.OK)
	if !slices.Equal(kept, rows(row("a", "x"), row("b", "y"), row("c", "z"))) {
		t.Errorf("rows of before are %s", told(kept))
	}
}

func TestRowsHaveSpareCapacityOfTheirOwn(t *testing.T) {
	s := models.New()
	for i := range 100 {
		wantDo(t, s, 1, uint32(i+1), put(fmt.Sprintf("k%03d", i), "v"), yes(), api.OK)
		clearAll(s.Rows())
		reply, _ := s.Do(1, 1000, scan("k", "l", 64))
		clearAll(reply.Rows)
		if got := s.Rows(); len(got) != i+1 || got[i] != row(fmt.Sprintf("k%03d", i), "v") {
			t.Fatalf("%d: %s", i, told(got))
		}
	}
}

func TestChangesAreNewMemory(t *testing.T) {
	s := models.New()
	l := []api.Change{gives("a", "x"), removes("b")}
	a := batch(l...)
	for _, x := range []api.Ask{a, put("a", "x"), del("a"), casNew("a", "x")} {
		clearAll(s.Changes(x))
	}
	if !slices.Equal(l, []api.Change{gives("a", "x"), removes("b")}) {
		t.Errorf("the changes are %s", told(l))
	}
	wantRows(t, s)
	wantChanges(t, s, a, l...)
}

func TestListsOfSaidAreApart(t *testing.T) {
	shared := rows(row("a", "x"), row("b", "y"), row("c", "z"))
	s := made(t, nil, said(1, 1, yes(shared[:1]...)), said(2, 1, yes(shared...)), said(3, 1, no(shared[1:]...)))
	got := s.Said()
	clearAll(got[0].Reply.Rows)
	clearAll(got[2].Reply.Rows)
	if !slices.Equal(got[1].Reply.Rows, shared) {
		t.Errorf("rows of client 2 are %s", told(got[1].Reply.Rows))
	}
}

// R5

func TestStatesThatAreMadeShareNothing(t *testing.T) {
	l, last := rows(row("a", "x")), said(1, 1, yes())
	x, y := made(t, l, last), made(t, l, last)
	wantDo(t, x, 1, 2, put("a", "y"), yes(), api.OK)
	wantDo(t, x, 2, 1, put("b", "y"), yes(), api.OK)
	wantRows(t, y, row("a", "x"))
	wantSaid(t, y, last)
	z := made(t, x.Rows(), x.Said()...)
	wantDo(t, z, 2, 2, batch(removes("a"), removes("b")), yes(), api.OK)
	wantRows(t, x, row("a", "y"), row("b", "y"))
	wantSaid(t, x, said(1, 2, yes()), said(2, 1, yes()))
}
