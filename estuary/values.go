package estuary

// tuple is the values of a relation's row; behind its last one stand zeros.
type tuple [maxTerms]int

// assignment is what vars are worth, by their numbers. Those that it is not
// about are 0, so that assignments of the same vars are the same key.
type assignment [maxVars]int

// with is a, but the vars of set are worth what they are in other.
func (a assignment) with(set varSet, other assignment) assignment {
	for i := range a {
		if set.has(i) {
			a[i] = other[i]
		}
	}
	return a
}

func (a assignment) only(set varSet) assignment {
	return assignment{}.with(set, a)
}

// pattern is the terms of an atom.
type pattern []term

// term is the var of this number, or else the number itself.
type term struct {
	isVar  bool
	number int
}

func (t term) worth(vars assignment) int {
	if t.isVar {
		return vars[t.number]
	}
	return t.number
}

// match tells what the vars must be worth for the terms to have a row's values,
// unless they never can.
func (p pattern) match(row tuple) (assignment, bool) {
	var vars assignment
	for i, t := range p {
		if t.isVar {
			vars[t.number] = row[i]
		}
	}
	for i, t := range p {
		if t.worth(vars) != row[i] {
			return assignment{}, false
		}
	}
	return vars, true
}
