package estuary_test

import (
	"regexp"
	"strings"

	"estuary/estuary"
)

// The oracle is P3 told a second time and in another way: a table of what may
// follow what, patterns for the words, and every order of taking atoms away.

type answer struct {
	err estuary.Errno
	at  int
}

var (
	pieces  = regexp.MustCompile(`[A-Za-z0-9]+|[^ \n]`)
	vars    = regexp.MustCompile(`^[a-z][a-z0-9]{0,3}$`)
	rels    = regexp.MustCompile(`^[A-Z][a-z0-9]{0,3}$`)
	numbers = regexp.MustCompile(`^(0|[1-9][0-9]{0,2})$`)
)

// follows names, for each state, the class of a piece and the state behind it.
var follows = map[string]map[string]string{
	"start":     {"(": "headFirst"},
	"headFirst": {"var": "headNext", ")": "colon"},
	"headVar":   {"var": "headNext"},
	"headNext":  {",": "headVar", ")": "colon"},
	"colon":     {":": "rel"},
	"rel":       {"rel": "open"},
	"open":      {"(": "term"},
	"term":      {"var": "termNext", "number": "termNext"},
	"termNext":  {",": "term", ")": "atomNext"},
	"atomNext":  {",": "rel", ".": "end"},
	"end":       {"": "done"},
}

func class(piece string) string {
	switch {
	case vars.MatchString(piece):
		return "var"
	case rels.MatchString(piece):
		return "rel"
	case numbers.MatchString(piece):
		return "number"
	case strings.Contains("(),:.", piece):
		return piece
	}
	return "none"
}

type oracleAtom struct {
	rel   string
	at    int
	terms []string
}

type oracle struct {
	head   []string
	headAt []int
	atoms  []oracleAtom
}

// bytewise makes each byte a rune of its own, so that the patterns see bytes
// and not runes; it answers the places of the bytes too.
func bytewise(text string) (string, []int) {
	var b strings.Builder
	var places []int
	for i := range len(text) {
		before := b.Len()
		b.WriteRune(rune(text[i]))
		for range b.Len() - before {
			places = append(places, i)
		}
	}
	return b.String(), append(places, len(text))
}

func oracleCheck(text string) answer {
	if len(text) > 200 {
		return answer{estuary.ErrLong, 0}
	}
	wide, places := bytewise(text)
	spans := append(pieces.FindAllStringIndex(wide, -1), []int{len(wide), len(wide)})
	o := oracle{}
	state := "start"
	for _, span := range spans {
		piece, at := wide[span[0]:span[1]], places[span[0]]
		if state == "term" && len(o.last().terms) == 3 {
			return answer{estuary.ErrMany, at}
		}
		next, ok := follows[state][class(piece)]
		if !ok {
			return answer{estuary.ErrForm, at}
		}
		if a := o.see(state, piece, at); a.err != estuary.OK {
			return a
		}
		state = next
	}
	return o.whole()
}

func (o *oracle) last() *oracleAtom { return &o.atoms[len(o.atoms)-1] }

// see notes a piece that may stand there, and tells what else is wrong with it.
func (o *oracle) see(state, piece string, at int) answer {
	switch {
	case (state == "headFirst" || state == "headVar") && piece != ")":
		return o.seeHeadVar(piece, at)
	case state == "rel":
		o.atoms = append(o.atoms, oracleAtom{rel: piece, at: at})
		if len(o.atoms) == 5 {
			return answer{estuary.ErrMany, at}
		}
	case state == "term":
		o.last().terms = append(o.last().terms, piece)
		if len(o.atomVars()) == 7 {
			return answer{estuary.ErrMany, at}
		}
	case state == "termNext" && piece == ")":
		for _, a := range o.atoms {
			if a.rel == o.last().rel && len(a.terms) != len(o.last().terms) {
				return answer{estuary.ErrShape, o.last().at}
			}
		}
	}
	return answer{}
}

func (o *oracle) seeHeadVar(piece string, at int) answer {
	for _, v := range o.head {
		if v == piece {
			return answer{estuary.ErrTwice, at}
		}
	}
	o.head, o.headAt = append(o.head, piece), append(o.headAt, at)
	if len(o.head) == 7 {
		return answer{estuary.ErrMany, at}
	}
	return answer{}
}

func (o *oracle) atomVars() map[string]bool {
	all := map[string]bool{}
	for _, a := range o.atoms {
		for v := range termVars(a.terms) {
			all[v] = true
		}
	}
	return all
}

func termVars(terms []string) map[string]bool {
	set := map[string]bool{}
	for _, t := range terms {
		if vars.MatchString(t) {
			set[t] = true
		}
	}
	return set
}

func (o *oracle) whole() answer {
	known := o.atomVars()
	for i, v := range o.head {
		if !known[v] {
			return answer{estuary.ErrName, o.headAt[i]}
		}
	}
	var sets []map[string]bool
	for _, a := range o.atoms {
		sets = append(sets, termVars(a.terms))
	}
	if !anyOrderEnds(sets) {
		return answer{estuary.ErrCyclic, 0}
	}
	return answer{}
}

// anyOrderEnds tries every order in which atoms can be taken away.
func anyOrderEnds(sets []map[string]bool) bool {
	if len(sets) == 1 {
		return true
	}
	for i, set := range sets {
		others := append(append([]map[string]bool{}, sets[:i]...), sets[i+1:]...)
		if mayGo(set, others) && anyOrderEnds(others) {
			return true
		}
	}
	return false
}

func mayGo(set map[string]bool, others []map[string]bool) bool {
	for _, keeper := range others {
		if hasAllShared(keeper, set, others) {
			return true
		}
	}
	return false
}

func hasAllShared(keeper, set map[string]bool, others []map[string]bool) bool {
	for v := range set {
		for _, other := range others {
			if other[v] && !keeper[v] {
				return false
			}
		}
	}
	return true
}
