package models

import (
	"cmp"
	"slices"

	"bucketline/api"
)

// deed tells what a valid request is replied and what it changes, and changes nothing itself: so Do and Changes can't differ.
type deed func(s *State, a api.Ask) (api.Reply, []api.Change)

// deeds are what is done, by kinds.
func deeds() map[api.Kind]deed {
	return map[api.Kind]deed{
		api.KiPut:   (*State).put,
		api.KiDel:   (*State).del,
		api.KiCas:   (*State).cas,
		api.KiBatch: (*State).batch,
		api.KiGet:   (*State).get,
		api.KiScan:  (*State).scan,
	}
}

func (s *State) put(a api.Ask) (api.Reply, []api.Change) {
	return api.Reply{Yes: true}, []api.Change{{Key: a.Key, Value: a.Value}}
}

func (s *State) del(a api.Ask) (api.Reply, []api.Change) {
	_, found := s.find(a.Key)
	return api.Reply{Yes: found}, []api.Change{{Key: a.Key, Gone: true}}
}

func (s *State) cas(a api.Ask) (api.Reply, []api.Change) {
	if !s.meets(a) {
		return api.Reply{}, nil
	}
	return s.put(a)
}

func (s *State) batch(a api.Ask) (api.Reply, []api.Change) {
	return api.Reply{Yes: true}, slices.Clone(a.L)
}

func (s *State) get(a api.Ask) (api.Reply, []api.Change) {
	at, found := s.find(a.Key)
	if !found {
		return api.Reply{}, nil
	}
	return api.Reply{Yes: true, Rows: []api.Row{s.rows[at]}}, nil
}

func (s *State) scan(a api.Ask) (api.Reply, []api.Change) {
	from, _ := s.find(a.Key)
	end, found := s.find(a.To)
	if found {
		end++
	}
	// From a key to a lesser one there are no rows.
	many := max(0, min(end-from, a.Many))
	return api.Reply{Rows: slices.Clone(s.rows[from : from+many])}, nil
}

// meets reports whether the condition of a KiCas holds.
func (s *State) meets(a api.Ask) bool {
	at, found := s.find(a.Key)
	if a.New || !found {
		return a.New && !found
	}
	return s.rows[at].Value == a.Old
}

// change makes the changes one by one, in order.
func (s *State) change(changes []api.Change) {
	for _, c := range changes {
		at, found := s.find(c.Key)
		switch {
		case found && c.Gone:
			s.rows = slices.Delete(s.rows, at, at+1)
		case found:
			s.rows[at].Value = c.Value
		case !c.Gone:
			s.rows = slices.Insert(s.rows, at, api.Row{Key: c.Key, Value: c.Value})
		}
	}
}

// find returns the place of a key among the rows, and whether there is a row of it.
func (s *State) find(key string) (int, bool) {
	return slices.BinarySearchFunc(s.rows, api.Row{Key: key}, cmpRows)
}

func cmpRows(x, y api.Row) int {
	return cmp.Compare(x.Key, y.Key)
}
