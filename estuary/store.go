package estuary

import "slices"

const (
	maxValue  = 999
	maxBy     = 9
	maxCount  = 99
	maxTuples = 12 // rows of a relation
)

// store is what has come so far. Nothing in it is there 0 times.
type store struct {
	rows    []map[tuple]int    // by relation: its rows
	indexes []index            // by link
	worth   map[assignment]int // of the head's vars: what the query is worth
}

// index is the rows of the atom that a link leads to, as what its vars are
// worth, by what the shared ones of them are.
type index map[assignment]map[assignment]int

func makeStore(relations, links int) store {
	s := store{worth: map[assignment]int{}}
	for range relations {
		s.rows = append(s.rows, map[tuple]int{})
	}
	for range links {
		s.indexes = append(s.indexes, index{})
	}
	return s
}

// refusal is why a row may not be there by times oftener, or OK.
func (s *store) refusal(relation int, row tuple, by int) Errno {
	rows := s.rows[relation]
	before := rows[row]
	if isBeyond(before+by, maxCount) {
		return ErrRange
	}
	if before == 0 && by != 0 && len(rows) == maxTuples {
		return ErrMany
	}
	return OK
}

// isBeyond tells whether n is farther from 0 than limit.
func isBeyond(n, limit int) bool { return n < -limit || n > limit }

func (x index) add(key, vars assignment, by int) {
	if x[key] == nil {
		x[key] = map[assignment]int{}
	}
	add(x[key], vars, by)
	if len(x[key]) == 0 {
		delete(x, key)
	}
}

// add lets a key be there by times oftener; if that is 0 times, it goes.
func add[K comparable](counts map[K]int, key K, by int) {
	counts[key] += by
	if counts[key] == 0 {
		delete(counts, key)
	}
}

// tell makes rows, rising, of how often each key is there.
func tell[K comparable](counts map[K]int, values func(K) []int) []Row {
	var rows []Row
	for key, by := range counts {
		rows = append(rows, Row{Values: values(key), By: by})
	}
	slices.SortFunc(rows, func(a, b Row) int { return slices.Compare(a.Values, b.Values) })
	return rows
}
