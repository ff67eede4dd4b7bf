package estuary_test

import (
	"fmt"
	"maps"
	"regexp"
	"slices"
	"strconv"
	"strings"

	"estuary/estuary"
)

// The model is P4 to P8 told a second time and in another way: it lays every
// row beside every row, and works out all of it anew at each call.
type model struct {
	head  []string
	atoms []modelAtom
	rows  map[string][]estuary.Row
}

type modelAtom struct {
	rel   string
	terms []string
}

var (
	headPattern = regexp.MustCompile(`[a-z][a-z0-9]*`)
	relPattern  = regexp.MustCompile(`[A-Z][a-z0-9]*`)
	atomPattern = regexp.MustCompile(`([A-Z][a-z0-9]*)\s*\(([^)]*)\)`)
)

// newModel takes a text that is a query.
func newModel(query string) *model {
	head, body, _ := strings.Cut(query, ":")
	m := &model{head: headPattern.FindAllString(head, -1), rows: map[string][]estuary.Row{}}
	for _, found := range atomPattern.FindAllStringSubmatch(body, -1) {
		a := modelAtom{rel: found[1]}
		for _, term := range strings.Split(found[2], ",") {
			a.terms = append(a.terms, strings.TrimSpace(term))
		}
		m.atoms = append(m.atoms, a)
		m.rows[a.rel] = nil
	}
	return m
}

// terms is the number of terms of a rel's atoms, or 0 if there are none.
func (m *model) terms(rel string) int {
	for _, a := range m.atoms {
		if a.rel == rel {
			return len(a.terms)
		}
	}
	return 0
}

func (m *model) Rows() []estuary.Row {
	var sums []estuary.Row
	m.ways(m.atoms, map[string]int{}, 1, func(values []int, by int) {
		sums = addRow(sums, values, by)
	})
	return sums
}

// ways gives a row to the first of the atoms, in all ways, then to the others.
func (m *model) ways(atoms []modelAtom, worth map[string]int, by int, found func([]int, int)) {
	if len(atoms) == 0 {
		values := []int{}
		for _, v := range m.head {
			values = append(values, worth[v])
		}
		found(values, by)
		return
	}
	for _, row := range m.rows[atoms[0].rel] {
		if more, ok := fit(atoms[0].terms, row.Values, worth); ok {
			m.ways(atoms[1:], more, by*row.By, found)
		}
	}
}

func fit(terms []string, values []int, worth map[string]int) (map[string]int, bool) {
	more := map[string]int{}
	for v, n := range worth {
		more[v] = n
	}
	for i, term := range terms {
		n, known := more[term]
		if fixed, err := strconv.Atoi(term); err == nil {
			n, known = fixed, true
		}
		if known && n != values[i] {
			return nil, false
		}
		more[term] = values[i]
	}
	return more, true
}

// addRow keeps rows rising and without any that is there 0 times.
func addRow(rows []estuary.Row, values []int, by int) []estuary.Row {
	i, there := slices.BinarySearchFunc(rows, values, func(r estuary.Row, values []int) int {
		return slices.Compare(r.Values, values)
	})
	if !there {
		rows = slices.Insert(rows, i, estuary.Row{Values: slices.Clone(values)})
	}
	rows[i].By += by
	if rows[i].By == 0 {
		rows = slices.Delete(rows, i, i+1)
	}
	return rows
}

func (m *model) Update(rel string, by int, values ...int) ([]estuary.Row, estuary.Errno) {
	old, there := m.rows[rel]
	switch {
	case !there:
		return nil, estuary.ErrName
	case len(values) != m.terms(rel):
		return nil, estuary.ErrShape
	case by < -9 || by > 9 || slices.ContainsFunc(values, func(n int) bool { return n < 0 || n > 999 }):
		return nil, estuary.ErrRange
	}
	rows := addRow(slices.Clone(old), values, by)
	if slices.ContainsFunc(rows, func(r estuary.Row) bool { return r.By < -99 || r.By > 99 }) {
		return nil, estuary.ErrRange
	}
	if len(rows) > 12 {
		return nil, estuary.ErrMany
	}
	return m.otherBy(func() { m.rows[rel] = rows }), estuary.OK
}

// otherBy tells what is other behind a change.
func (m *model) otherBy(change func()) []estuary.Row {
	other := m.Rows()
	for i := range other {
		other[i].By = -other[i].By
	}
	change()
	for _, row := range m.Rows() {
		other = addRow(other, row.Values, row.By)
	}
	return other
}

func (m *model) Total(values ...int) (int, estuary.Errno) {
	if len(values) > len(m.head) {
		return 0, estuary.ErrShape
	}
	total := 0
	for _, row := range m.Rows() {
		if slices.Equal(row.Values[:len(values)], values) {
			total += row.By
		}
	}
	return total, estuary.OK
}

func (m *model) Relation(rel string) ([]estuary.Row, estuary.Errno) {
	rows, there := m.rows[rel]
	if !there {
		return nil, estuary.ErrName
	}
	return rows, estuary.OK
}

func (m *model) Clear(rels ...string) ([]estuary.Row, estuary.Errno) {
	if len(rels) == 0 {
		rels = slices.Collect(maps.Keys(m.rows))
	}
	for _, rel := range rels {
		if _, there := m.rows[rel]; !there {
			return nil, estuary.ErrName
		}
	}
	return m.otherBy(func() {
		for _, rel := range rels {
			m.rows[rel] = nil
		}
	}), estuary.OK
}

// copied is a model that goes on by itself. Lists of rows are never changed in
// place, so the two may share them.
func (m *model) copied() *model {
	return &model{head: m.head, atoms: m.atoms, rows: maps.Clone(m.rows)}
}

func told(rows []estuary.Row, err estuary.Errno) string {
	return fmt.Sprint(rows, " ", int(err))
}
