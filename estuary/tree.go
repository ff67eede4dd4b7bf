package estuary

import "slices"

// varSet has bit i set, if it has var i of a query's atoms.
type varSet uint8

// makeTree tells whether atoms with these vars make a tree. Which atom goes
// first does not matter, so it never tries another order: another atom that
// could go still can, unless each of the two was the only one that let the
// other go; then they share the same vars, and either may stay for both.
func makeTree(sets []varSet) bool {
	left := slices.Clone(sets)
	for len(left) > 1 {
		i := firstToGo(left)
		if i < 0 {
			return false
		}
		left = slices.Delete(left, i, i+1)
	}
	return true
}

func firstToGo(sets []varSet) int {
	for i := range sets {
		if canGo(sets, i) {
			return i
		}
	}
	return -1
}

// canGo tells whether another atom has all vars that atom i shares.
func canGo(sets []varSet, i int) bool {
	shared := sets[i] & allBut(sets, i)
	for j, set := range sets {
		if j != i && shared&^set == 0 {
			return true
		}
	}
	return false
}

// allBut is the vars of all atoms but atom i.
func allBut(sets []varSet, i int) varSet {
	var all varSet
	for j, set := range sets {
		if j != i {
			all |= set
		}
	}
	return all
}
