package estuary

import "slices"

const (
	maxText  = 200 // bytes of a query
	maxAtoms = 4
	maxTerms = 3 // of an atom
	maxVars  = 6 // of the head, and of the atoms
)

// query is what a text says. Its head keeps the places of its vars, because
// only behind the last atom it is known which of them no atom has.
type query struct {
	head  []piece
	vars  []string // of the atoms, each once; a var's number is its place here
	atoms []atom
	edges []edge // of the tree that the atoms make
}

type atom struct {
	rel   string
	terms pattern
	vars  varSet
}

// fault is an error and its place. The zero fault is none.
type fault struct {
	err Errno
	at  int
}

// parse reads a query, or tells the fault that P3 asks for.
func parse(text string) (query, fault) {
	if len(text) > maxText {
		return query{}, fault{err: ErrLong}
	}
	r := reader{text: text, now: nextPiece(text, 0)}
	if !r.readQuery() {
		return query{}, r.fault
	}
	q := r.query
	if f := q.headFault(); f.err != OK {
		return query{}, f
	}
	edges, ok := makeTree(q.varSets())
	if !ok {
		return query{}, fault{err: ErrCyclic}
	}
	q.edges = edges
	return q, fault{}
}

// headFault is the fault that the head shows only once all atoms are read.
func (q *query) headFault() fault {
	for _, v := range q.head {
		if q.varNumber(v.text) < 0 {
			return fault{err: ErrName, at: v.at}
		}
	}
	return fault{}
}

// varNumber is below 0, if no atom has the var.
func (q *query) varNumber(name string) int {
	return slices.Index(q.vars, name)
}

func (q *query) varSets() []varSet {
	var sets []varSet
	for _, a := range q.atoms {
		sets = append(sets, a.vars)
	}
	return sets
}

func (q *query) headHas(name string) bool {
	return slices.ContainsFunc(q.head, func(v piece) bool { return v.text == name })
}

// hasOtherShape tells whether an atom of q has a's rel with another number of terms.
func (q *query) hasOtherShape(a atom) bool {
	return slices.ContainsFunc(q.atoms, func(b atom) bool { return b.rel == a.rel && len(b.terms) != len(a.terms) })
}
