package estuary

import (
	"slices"
	"sync"
)

// View is what a query is worth. Make it by Start. Any goroutines may use it.
type View struct {
	lock sync.Mutex // held for the whole of a call: so calls come one after the other
	plan
	store
}

// Start makes a view without rows (P4).
func Start(query string) (*View, Errno, int) {
	q, f := parse(query)
	if f.err != OK {
		return nil, f.err, f.at
	}
	p := makePlan(q)
	return &View{plan: p, store: makeStore(len(p.relations), len(p.links))}, OK, 0
}

// Update lets a row come or go; it tells what is other now (P6).
func (v *View) Update(rel string, by int, values ...int) ([]Row, Errno) {
	v.lock.Lock()
	defer v.lock.Unlock()
	relation := v.relationNumber(rel)
	if relation < 0 {
		return nil, ErrName
	}
	if len(values) != v.relations[relation].terms {
		return nil, ErrShape
	}
	if isBeyond(by, maxBy) || !areValues(values) {
		return nil, ErrRange
	}
	var row tuple
	copy(row[:], values)
	if err := v.refusal(relation, row, by); err != OK {
		return nil, err
	}
	other := map[assignment]int{}
	v.change(relation, row, by, func(vars assignment, by int) {
		add(other, vars, by)
		add(v.worth, vars, by)
	})
	return tell(other, v.headValues), OK
}

func areValues(values []int) bool {
	for _, n := range values {
		if n < 0 || n > maxValue {
			return false
		}
	}
	return true
}

// Rows tells what the query is worth (P5).
func (v *View) Rows() []Row {
	v.lock.Lock()
	defer v.lock.Unlock()
	return tell(v.worth, v.headValues)
}

// Total tells how often rows are there that begin so (P7).
func (v *View) Total(values ...int) (int, Errno) {
	v.lock.Lock()
	defer v.lock.Unlock()
	if len(values) > len(v.head) {
		return 0, ErrShape
	}
	total := 0
	for vars, by := range v.worth {
		if v.headBegins(vars, values) {
			total += by
		}
	}
	return total, OK
}

// Relation tells a relation's rows (P8).
func (v *View) Relation(rel string) ([]Row, Errno) {
	v.lock.Lock()
	defer v.lock.Unlock()
	relation := v.relationNumber(rel)
	if relation < 0 {
		return nil, ErrName
	}
	return tell(v.rows[relation], func(row tuple) []int {
		return slices.Clone(row[:v.relations[relation].terms])
	}), OK
}

// Clear empties relations; it tells what is other now (P8). Every way has a row
// of each relation: so where any of them is emptied, no way is left, and all
// that the query was worth goes.
func (v *View) Clear(rels ...string) ([]Row, Errno) {
	v.lock.Lock()
	defer v.lock.Unlock()
	for _, rel := range rels {
		if v.relationNumber(rel) < 0 {
			return nil, ErrName
		}
	}
	for i, r := range v.relations {
		if len(rels) == 0 || slices.Contains(rels, r.name) {
			v.empty(i)
		}
	}
	other := tell(v.worth, v.headValues)
	for i := range other {
		other[i].By = -other[i].By
	}
	clear(v.worth)
	return other, OK
}

// change lets a row be there by times oftener, and hands on what the head's vars
// are worth in every way that has it. An atom's indexes learn of the row only
// behind the atom's own ways: so where a way has the row at several atoms, those
// ahead have it as it is now and those behind as it was, and the ways add up to
// the difference.
func (v *View) change(relation int, row tuple, by int, handOn func(assignment, int)) {
	add(v.rows[relation], row, by)
	for _, atom := range v.relations[relation].atoms {
		vars, ok := v.atoms[atom].match(row)
		if !ok {
			continue
		}
		v.join(v.walks[atom], vars, by, func(vars assignment, by int) {
			handOn(vars.only(v.headVars), by)
		})
		v.addToIndexes(atom, vars, by)
	}
}

// join hands on every way to go along a walk's links from what vars are worth
// so far.
func (v *View) join(walk []int, vars assignment, by int, handOn func(assignment, int)) {
	if len(walk) == 0 {
		handOn(vars, by)
		return
	}
	l := v.links[walk[0]]
	for next, times := range v.indexes[walk[0]][vars.only(l.shared)] {
		v.join(walk[1:], vars.with(l.fresh, next), by*times, handOn)
	}
}

func (v *View) addToIndexes(atom int, vars assignment, by int) {
	for i, l := range v.links {
		if l.to == atom {
			v.indexes[i].add(vars.only(l.shared), vars, by)
		}
	}
}

// empty takes a relation's rows away, and all that the indexes have of them.
func (v *View) empty(relation int) {
	clear(v.rows[relation])
	for i, l := range v.links {
		if slices.Contains(v.relations[relation].atoms, l.to) {
			clear(v.indexes[i])
		}
	}
}
