package models_test

import (
	"math"
	"slices"
	"strings"
	"testing"

	"bucketline/api"
	"bucketline/models"
)

// plain follows the chapter word by word, with maps.
type plain struct {
	rows map[string]string
	last map[uint8]api.Said
}

func newPlain() *plain {
	return &plain{rows: map[string]string{}, last: map[uint8]api.Said{}}
}

func plainKey(key string) bool {
	return len(key) > 0 && len(key) < 25
}

func plainValue(value string) bool {
	return len(value) < 257
}

func plainCheck(a api.Ask) bool {
	fields := map[string]bool{"Key": a.Key != "", "Value": a.Value != "", "Old": a.Old != "", "New": a.New, "To": a.To != "", "Many": a.Many != 0, "L": len(a.L) > 0}
	named := map[api.Kind]string{api.KiPut: "Key Value", api.KiDel: "Key", api.KiCas: "Key Value Old New", api.KiBatch: "L", api.KiGet: "Key", api.KiScan: "Key To Many"}[a.Kind]
	if named == "" {
		return false
	}
	for field, filled := range fields {
		if filled && !slices.Contains(strings.Fields(named), field) {
			return false
		}
	}
	for _, c := range a.L {
		if !plainKey(c.Key) || !plainValue(c.Value) || c.Gone && len(c.Value) > 0 {
			return false
		}
	}
	if a.Kind == api.KiBatch {
		return len(a.L) > 0 && len(a.L) < 17
	}
	if a.Kind == api.KiScan {
		return plainKey(a.Key) && plainKey(a.To) && a.Many > -1 && a.Many < 65
	}
	return plainKey(a.Key) && plainValue(a.Value) && plainValue(a.Old) && !(a.New && a.Old != "")
}

func (p *plain) change(c api.Change) {
	if c.Gone {
		delete(p.rows, c.Key)
	} else {
		p.rows[c.Key] = c.Value
	}
}

func (p *plain) allRows() []api.Row {
	var l []api.Row
	for key, value := range p.rows {
		l = append(l, row(key, value))
	}
	slices.SortFunc(l, func(x, y api.Row) int { return slices.Compare([]byte(x.Key), []byte(y.Key)) })
	return l
}

func (p *plain) allSaid() []api.Said {
	var l []api.Said
	for client := range uint8(255) {
		if x, ok := p.last[client]; ok {
			l = append(l, x)
		}
	}
	return l
}

func (p *plain) do(client uint8, num uint32, a api.Ask) (api.Reply, api.Errno) {
	if client == 0 || client > 8 || num == 0 || !plainCheck(a) {
		return api.Reply{}, api.ErrArg
	}
	isRead := a.Kind == api.KiGet || a.Kind == api.KiScan
	if x, ok := p.last[client]; ok && num <= x.Num {
		if num == x.Num && !isRead {
			return x.Reply, api.ErrSame
		}
		return api.Reply{}, api.ErrSame
	}
	reply := p.execute(a)
	if !isRead {
		p.last[client] = said(client, num, reply)
	}
	return reply, api.OK
}

func (p *plain) execute(a api.Ask) api.Reply {
	value, there := p.rows[a.Key]
	switch a.Kind {
	case api.KiPut:
		p.rows[a.Key] = a.Value
		return yes()
	case api.KiDel:
		delete(p.rows, a.Key)
		return api.Reply{Yes: there}
	case api.KiCas:
		made := a.New && !there || !a.New && there && value == a.Old
		if made {
			p.rows[a.Key] = a.Value
		}
		return api.Reply{Yes: made}
	case api.KiBatch:
		for _, c := range a.L {
			p.change(c)
		}
		return yes()
	case api.KiGet:
		if there {
			return yes(row(a.Key, value))
		}
		return no()
	}
	var found []api.Row
	for _, x := range p.allRows() {
		if x.Key >= a.Key && x.Key <= a.To && len(found) < a.Many {
			found = append(found, x)
		}
	}
	return no(found...)
}

// changes are told by the kinds, apart from execute.
func (p *plain) changes(a api.Ask) []api.Change {
	if !plainCheck(a) {
		return nil
	}
	value, there := p.rows[a.Key]
	switch a.Kind {
	case api.KiPut:
		return []api.Change{gives(a.Key, a.Value)}
	case api.KiDel:
		return []api.Change{removes(a.Key)}
	case api.KiCas:
		if a.New == there || !a.New && value != a.Old {
			return nil
		}
		return []api.Change{gives(a.Key, a.Value)}
	case api.KiBatch:
		return a.L
	}
	return nil
}

// dice gives the same numbers at each run.
type dice uint64

func (s *dice) upTo(n int) int {
	*s = *s*6364136223846793005 + 1442695040888963407
	return int(uint64(*s>>33) % uint64(n))
}

func pick[T any](s *dice, l ...T) T {
	return l[s.upTo(len(l))]
}

func (s *dice) key() string {
	if s.upTo(60) == 0 {
		return pick(s, "", long(api.MaxUser+1))
	}
	return pick(s, "a", "a\x00", "aa", "b", "c", "\x00", "\xff", "é", long(api.MaxUser))
}

func (s *dice) value() string {
	if s.upTo(60) == 0 {
		return pick(s, long(api.MaxValue), long(api.MaxValue+1))
	}
	return pick(s, "", "x", "y")
}

func (s *dice) changes() []api.Change {
	many := 1 + s.upTo(5)
	if s.upTo(20) == 0 {
		many = pick(s, 0, api.MaxBatch, api.MaxBatch+1)
	}
	var l []api.Change
	for range many {
		c := gives(s.key(), s.value())
		if s.upTo(3) == 0 {
			c = removes(c.Key)
		}
		l = append(l, c)
	}
	return l
}

func (s *dice) ask() api.Ask {
	var a api.Ask
	switch s.upTo(8) {
	case 0, 1:
		a = put(s.key(), s.value())
	case 2:
		a = del(s.key())
	case 3:
		a = casOld(s.key(), s.value(), s.value())
	case 4:
		a = casNew(s.key(), s.value())
	case 5:
		a = batch(s.changes()...)
	case 6:
		a = get(s.key())
	case 7:
		a = scan(s.key(), s.key(), pick(s, 0, 1, 2, 3, 5, 9, api.MaxScan))
	}
	if s.upTo(12) == 0 {
		s.spoil(&a)
	}
	return a
}

// spoil changes one field of a request, which may stay valid.
func (s *dice) spoil(a *api.Ask) {
	switch s.upTo(7) {
	case 0:
		a.Key = s.key()
	case 1:
		a.Value = s.value()
	case 2:
		a.Old = s.value()
	case 3:
		a.New = !a.New
	case 4:
		a.To = s.key()
	case 5:
		a.Many = pick(s, -1, 1, api.MaxScan, api.MaxScan+1, math.MinInt, math.MaxInt)
	case 6:
		a.Kind = api.Kind(s.upTo(9))
	}
}

func wantAsPlain(t *testing.T, s *models.State, p *plain) {
	t.Helper()
	wantRows(t, s, p.allRows()...)
	wantSaid(t, s, p.allSaid()...)
}

func wantDoAsPlain(t *testing.T, s *models.State, p *plain, client uint8, num uint32, a api.Ask) api.Errno {
	t.Helper()
	if got, want := models.Check(a), plainCheck(a); got != want {
		t.Errorf("Check(%s) = %t; want %t", told(a), got, want)
	}
	wantChanges(t, s, a, p.changes(a)...)
	want, e := p.do(client, num, a)
	wantDo(t, s, client, num, a, want, e)
	return e
}

// nextNum is mostly the next number of a client, and else one near it.
func (s *dice) nextNum(last api.Said) uint32 {
	if s.upTo(4) > 0 {
		return last.Num + 1
	}
	return pick(s, 0, 1, last.Num-1, last.Num, last.Num+2, last.Num+5)
}

func TestAgainstPlain(t *testing.T) {
	seen := map[api.Errno]int{}
	for seed := range 300 {
		s := dice(seed)
		got, want := models.New(), newPlain()
		for range 200 {
			client := uint8(1 + s.upTo(api.MaxClients))
			if s.upTo(50) == 0 {
				client = pick[uint8](&s, 0, api.MaxClients+1, 17, 255)
			}
			seen[wantDoAsPlain(t, got, want, client, s.nextNum(want.last[client]), s.ask())]++
			wantAsPlain(t, got, want)
			if s.upTo(10) == 0 {
				got = made(t, shuffled(&s, got.Rows()), shuffled(&s, got.Said())...)
			}
			if t.Failed() {
				t.Fatalf("seed %d", seed)
			}
		}
	}
	for _, e := range []api.Errno{api.OK, api.ErrArg, api.ErrSame} {
		if seen[e] < 1000 {
			t.Errorf("%d came %d times only", e, seen[e])
		}
	}
}

func shuffled[T any](s *dice, l []T) []T {
	for i := range l {
		k := s.upTo(i + 1)
		l[i], l[k] = l[k], l[i]
	}
	return l
}

// A state that is made of what another one has behaves as that one does, whatever comes.
func TestMadeOfAnotherBehavesAsThatOne(t *testing.T) {
	for seed := range 200 {
		s := dice(1000 + seed)
		x := models.New()
		for num := range uint32(s.upTo(40)) {
			x.Do(uint8(1+s.upTo(api.MaxClients)), num+1, s.ask())
		}
		y := made(t, x.Rows(), x.Said()...)
		for range 100 {
			client, num, a := uint8(s.upTo(api.MaxClients+2)), uint32(s.upTo(100)), s.ask()
			wantChanges(t, y, a, x.Changes(a)...)
			want, e := x.Do(client, num, a)
			wantDo(t, y, client, num, a, want, e)
			wantRows(t, y, x.Rows()...)
			wantSaid(t, y, x.Said()...)
		}
	}
}

// What Changes tells is what Do of a new request changes.
func TestChangesAreWhatDoChanges(t *testing.T) {
	for seed := range 200 {
		s := dice(2000 + seed)
		x := models.New()
		for num := range uint32(100) {
			a := s.ask()
			told := newPlain()
			for _, r := range x.Rows() {
				told.rows[r.Key] = r.Value
			}
			for _, c := range x.Changes(a) {
				told.change(c)
			}
			x.Do(1, num+1, a)
			wantRows(t, x, told.allRows()...)
		}
	}
}

func TestMakeAgainstPlain(t *testing.T) {
	many := [2]int{}
	for seed := range 20000 {
		s := dice(seed)
		var l []api.Row
		var last []api.Said
		for range s.upTo(5) {
			l = append(l, row(s.key(), s.value()))
		}
		for range s.upTo(4) {
			last = append(last, said(uint8(s.upTo(api.MaxClients+2)), pick[uint32](&s, 0, 1, 2, 3, 4, 5, math.MaxUint32), pick(&s, no(), yes(), yes(row("q", "1")))))
		}
		want, ok := plainMade(l, last)
		if !ok {
			many[0]++
			wantNotMade(t, "plainly not", l, last...)
			continue
		}
		many[1]++
		wantAsPlain(t, made(t, l, last...), want)
	}
	if min(many[0], many[1]) < 2000 {
		t.Errorf("%v", many)
	}
}

func plainMade(l []api.Row, last []api.Said) (*plain, bool) {
	p := newPlain()
	for _, r := range l {
		if _, there := p.rows[r.Key]; there || !plainKey(r.Key) || !plainValue(r.Value) {
			return nil, false
		}
		p.rows[r.Key] = r.Value
	}
	for _, x := range last {
		if _, there := p.last[x.Client]; there || x.Client < 1 || x.Client > 8 || x.Num == 0 {
			return nil, false
		}
		p.last[x.Client] = x
	}
	return p, true
}

// Every request with these fields, at states of all sets of three rows.
func TestSmallRequestsAtSmallStates(t *testing.T) {
	keys, values := []string{"", "a", "b", "c"}, []string{"", "x"}
	for set := range 27 {
		for kind := range api.Kind(8) {
			for i := range 4 * 2 * 2 * 2 * 4 * 3 {
				a := api.Ask{Kind: kind, Key: keys[i%4], Value: values[i/4%2], Old: values[i/8%2], New: i/16%2 == 1, To: keys[i/32%4], Many: i / 128}
				wantDoAsPlain(t, stateOf(t, set), plainOf(set), 1, 1, a)
			}
		}
	}
}

// rowsOf has for each of three keys no row, or one of two values.
func rowsOf(set int) []api.Row {
	var l []api.Row
	for _, key := range []string{"a", "b", "c"} {
		if set%3 > 0 {
			l = append(l, row(key, []string{"", "x"}[set%3-1]))
		}
		set /= 3
	}
	return l
}

func stateOf(t *testing.T, set int) *models.State {
	t.Helper()
	return made(t, rowsOf(set))
}

func plainOf(set int) *plain {
	p := newPlain()
	for _, r := range rowsOf(set) {
		p.rows[r.Key] = r.Value
	}
	return p
}
