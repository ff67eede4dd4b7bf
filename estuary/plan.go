package estuary

import (
	"slices"
	"strings"
)

// plan is what a query asks for. It never changes.
type plan struct {
	head      []int // the numbers of its vars
	headVars  varSet
	relations []relation
	atoms     []pattern
	links     []link
	walks     [][]int // by atom: the links that lead to all the others
}

// relation is a rel of the query, with those of its atoms that have it.
type relation struct {
	name  string
	terms int
	atoms []int
}

// link leads from an atom to one next to it in the tree. Of the vars of the
// second one, all that any atom on the near side has are shared with the first:
// so it is enough to look up rows by these. The others are fresh.
type link struct {
	from, to      int
	shared, fresh varSet
}

func makePlan(q query) plan {
	p := plan{links: makeLinks(q.edges, q.varSets())}
	for _, v := range q.head {
		number := q.varNumber(v.text)
		p.head = append(p.head, number)
		p.headVars |= 1 << number
	}
	for i, a := range q.atoms {
		p.atoms = append(p.atoms, a.terms)
		p.addToRelation(a, i)
		p.walks = append(p.walks, walkFrom(p.links, i, -1))
	}
	return p
}

func makeLinks(edges []edge, sets []varSet) []link {
	var links []link
	for _, e := range edges {
		links = append(links, makeLink(e.gone, e.keeper, sets), makeLink(e.keeper, e.gone, sets))
	}
	return links
}

func makeLink(from, to int, sets []varSet) link {
	return link{from: from, to: to, shared: sets[to] & sets[from], fresh: sets[to] &^ sets[from]}
}

// addToRelation copies the name, because a piece of the query's text would keep
// all of it.
func (p *plan) addToRelation(a atom, number int) {
	i := p.relationNumber(a.rel)
	if i < 0 {
		i = len(p.relations)
		p.relations = append(p.relations, relation{name: strings.Clone(a.rel), terms: len(a.terms)})
	}
	p.relations[i].atoms = append(p.relations[i].atoms, number)
}

// relationNumber is below 0, if there is no such relation.
func (p *plan) relationNumber(name string) int {
	return slices.IndexFunc(p.relations, func(r relation) bool { return r.name == name })
}

// walkFrom goes through the tree away from an atom and from the one it came
// from: each link starts where an earlier one has led to.
func walkFrom(links []link, atom, cameFrom int) []int {
	var walk []int
	for i, l := range links {
		if l.from == atom && l.to != cameFrom {
			walk = append(walk, i)
			walk = append(walk, walkFrom(links, l.to, atom)...)
		}
	}
	return walk
}

func (p *plan) headValues(vars assignment) []int {
	values := make([]int, len(p.head))
	for i, number := range p.head {
		values[i] = vars[number]
	}
	return values
}

// headBegins tells whether the head's first vars are worth these values.
func (p *plan) headBegins(vars assignment, values []int) bool {
	for i, n := range values {
		if vars[p.head[i]] != n {
			return false
		}
	}
	return true
}
