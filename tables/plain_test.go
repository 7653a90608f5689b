package tables_test

import (
	"cmp"
	"math"
	"slices"
	"testing"

	"bucketline/api"
	"bucketline/tables"
)

// plainTable follows the definitions in another way: its entries are a list, which each answer sorts or searches as a whole.
type plainTable []api.Entry

// plainCmp orders marks by the library's means.
func plainCmp(a, b api.Mark) int {
	return cmp.Or(cmp.Compare(a.Key, b.Key), cmp.Compare(b.Seq, a.Seq), cmp.Compare(living(a), living(b)))
}

func living(m api.Mark) int {
	if m.Gone {
		return 0
	}
	return 1
}

func (p *plainTable) put(x api.Entry, tall int) api.Errno {
	switch {
	case len(x.Key) == 0, len(x.Key) > 32, len(x.Value) > 256, x.Gone && x.Value != "", tall < 1, tall > 8:
		return api.ErrArg
	case slices.ContainsFunc(*p, func(y api.Entry) bool { return y.Mark == x.Mark }):
		return api.ErrThere
	case len(*p) == 4096:
		return api.ErrFull
	}
	*p = append(*p, x)
	return api.OK
}

// from sorts those that are asked for.
func (p *plainTable) from(m api.Mark, most int) []api.Entry {
	var l []api.Entry
	for _, x := range *p {
		if plainCmp(x.Mark, m) >= 0 {
			l = append(l, x)
		}
	}
	slices.SortFunc(l, func(a, b api.Entry) int { return plainCmp(a.Mark, b.Mark) })
	return l[:max(0, min(most, len(l)))]
}

// get looks for the greatest number, without regard to the order of the list.
func (p *plainTable) get(key string, seq uint64) (best api.Entry, ok bool) {
	for _, x := range *p {
		if x.Key != key || x.Seq > seq {
			continue
		}
		if !ok || x.Seq > best.Seq || x.Seq == best.Seq && x.Gone {
			best, ok = x, true
		}
	}
	return best, ok
}

func (p *plainTable) bytes() int {
	n := 0
	for _, x := range *p {
		n += len(x.Key + x.Value)
	}
	return n
}

// dice gives the same numbers at each run.
type dice uint64

func (s *dice) upTo(n int) int {
	*s = *s*6364136223846793005 + 1442695040888963407
	return int(uint64(*s>>33) % uint64(n))
}

// mark is one of a few, so that many are there twice; some are never valid.
func (s *dice) mark() api.Mark {
	keys := []string{"a", "a\x00", "aa", "ab", "b", "\xff", "k", "", of(32, 'k'), of(33, 'k')}
	seqs := []uint64{0, 1, 2, 3, 4, 300, math.MaxInt64, math.MaxUint64}
	return api.Mark{Key: keys[s.upTo(len(keys))], Seq: seqs[s.upTo(len(seqs))], Gone: s.upTo(2) == 0}
}

// entry is valid most times.
func (s *dice) entry() api.Entry {
	values := []string{"", "v", "wx", of(256, 'v'), of(257, 'v')}
	x := api.Entry{Mark: s.mark()}
	if !x.Gone || s.upTo(8) == 0 {
		x.Value = values[s.upTo(len(values))]
	}
	return x
}

func (s *dice) tall() int {
	if s.upTo(16) == 0 {
		return []int{-1, 0, 9}[s.upTo(3)]
	}
	return 1 + s.upTo(8)
}

// wantAsPlain asks both for everything, and for something that the dice choose.
func wantAsPlain(t *testing.T, s *dice, x *tables.Table, p *plainTable) {
	t.Helper()
	wantCounts(t, x, len(*p), p.bytes())
	wantFrom(t, x, api.Mark{}, math.MaxInt, p.from(api.Mark{}, math.MaxInt))
	m, most := s.mark(), s.upTo(12)-1
	wantFrom(t, x, m, most, p.from(m, most))
	if y, ok := p.get(m.Key, m.Seq); ok {
		wantGet(t, x, m.Key, m.Seq, y)
	} else {
		wantNone(t, x, m.Key, m.Seq)
	}
}

func TestAgainstPlainTable(t *testing.T) {
	for seed := range 300 {
		s := dice(seed)
		x, p := tables.New(), &plainTable{}
		for range 100 {
			y, tall := s.entry(), s.tall()
			want(t, "Put", x.Put(y, tall), p.put(y, tall))
			wantAsPlain(t, &s, x, p)
		}
		if t.Failed() {
			t.Fatalf("seed %d", seed)
		}
	}
}
