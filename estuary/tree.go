package estuary

import "slices"

// varSet has bit i set, if it has var i of a query's atoms.
type varSet uint8

func (s varSet) has(i int) bool { return s>>i&1 == 1 }

// edge joins an atom that is taken away to another, still there, that has all
// vars which the first one shares.
type edge struct{ gone, keeper int }

// makeTree takes away atoms with these vars till one is left, and tells whether
// that can be done. Which atom goes first does not matter, so it never tries
// another order: another atom that could go still can, unless each of the two
// was the only one that let the other go; then they share the same vars, and
// either may stay for both.
func makeTree(sets []varSet) ([]edge, bool) {
	var edges []edge
	left := numbersBelow(len(sets))
	for len(left) > 1 {
		e, ok := firstToGo(sets, left)
		if !ok {
			return nil, false
		}
		edges = append(edges, e)
		left = slices.DeleteFunc(left, func(i int) bool { return i == e.gone })
	}
	return edges, true
}

func numbersBelow(n int) []int {
	var numbers []int
	for i := range n {
		numbers = append(numbers, i)
	}
	return numbers
}

func firstToGo(sets []varSet, left []int) (edge, bool) {
	for _, i := range left {
		for _, j := range left {
			if j != i && sharedVars(sets, left, i)&^sets[j] == 0 {
				return edge{gone: i, keeper: j}, true
			}
		}
	}
	return edge{}, false
}

// sharedVars is those vars of atom i that any other one still there has.
func sharedVars(sets []varSet, left []int, i int) varSet {
	var others varSet
	for _, j := range left {
		if j != i {
			others |= sets[j]
		}
	}
	return sets[i] & others
}
