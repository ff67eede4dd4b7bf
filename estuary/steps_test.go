package estuary_test

import (
	"fmt"
	"math"
	"math/rand/v2"
	"slices"
	"strings"
	"testing"

	"estuary/estuary"
)

// keeper is what a view and the model have in common.
type keeper interface {
	Update(rel string, by int, values ...int) ([]estuary.Row, estuary.Errno)
	Rows() []estuary.Row
	Total(values ...int) (int, estuary.Errno)
	Relation(rel string) ([]estuary.Row, estuary.Errno)
	Clear(rels ...string) ([]estuary.Row, estuary.Errno)
}

// step is one call of a keeper.
type step struct {
	call   string
	rels   []string // of Update and Relation: the only one
	by     int
	values []int
}

func update(rel string, by int, values ...int) step { return step{"Update", []string{rel}, by, values} }
func allRows() step                                 { return step{"Rows", nil, 0, nil} }
func total(values ...int) step                      { return step{"Total", nil, 0, values} }
func relation(rel string) step                      { return step{"Relation", []string{rel}, 0, nil} }
func clearing(rels ...string) step                  { return step{"Clear", rels, 0, nil} }

func (s step) String() string {
	return fmt.Sprintf("%s(%.99q, %d, %v)", s.call, s.rels, s.by, s.values)
}

// reply is what a step is answered.
type reply struct {
	rows  []estuary.Row
	total int
	err   estuary.Errno
}

func (r reply) String() string { return fmt.Sprint(r.rows, " ", r.total, " ", int(r.err)) }

func (s step) ask(k keeper) (r reply) {
	switch s.call {
	case "Update":
		r.rows, r.err = k.Update(s.rels[0], s.by, s.values...)
	case "Rows":
		r.rows = k.Rows()
	case "Total":
		r.total, r.err = k.Total(s.values...)
	case "Relation":
		r.rows, r.err = k.Relation(s.rels[0])
	case "Clear":
		r.rows, r.err = k.Clear(s.rels...)
	default:
		panic("no call: " + s.call)
	}
	return r
}

// expected is a step with the rows, the total and the error that it must have.
type expected struct {
	step
	rows  string
	total int
	err   estuary.Errno
}

// runSteps holds a view and the model against a table.
func runSteps(t *testing.T, query string, steps []expected) {
	t.Helper()
	v, m := start(t, query), newModel(query)
	for i, s := range steps {
		want := fmt.Sprint(s.rows, " ", s.total, " ", int(s.err))
		if got := s.ask(v).String(); got != want {
			t.Errorf("%q: step %d: %v = %s, want %s", query, i, s.step, got, want)
		}
		if got := s.ask(m).String(); got != want {
			t.Errorf("%q: step %d: %v: the model says %s, want %s", query, i, s.step, got, want)
		}
	}
}

// randomStep is a call of some query: most often a good one, on few values so
// that rows meet, now and then a wrong one.
func randomStep(random *rand.Rand, m *model) step {
	switch random.IntN(30) {
	case 0, 1, 2:
		return allRows()
	case 3, 4, 5:
		return total(randomBeginning(random, m)...)
	case 6, 7, 8:
		return relation(randomRel(random, m))
	case 9:
		return randomClear(random, m)
	}
	return randomUpdate(random, m)
}

func randomUpdate(random *rand.Rand, m *model) step {
	rel := m.atoms[random.IntN(len(m.atoms))].rel
	values := fewValues(random, m.terms(rel))
	by := random.IntN(19) - 9
	switch random.IntN(40) {
	case 0:
		rel = randomRel(random, m)
	case 1:
		values = make([]int, random.IntN(5))
	case 2:
		by = []int{10, -10, math.MinInt, math.MaxInt}[random.IntN(4)]
	case 3:
		values[random.IntN(len(values))] = wrongValue(random)
	}
	return update(rel, by, values...)
}

// randomBeginning is values for Total: as a row of the query begins, or others,
// and too many.
func randomBeginning(random *rand.Rand, m *model) []int {
	values := fewValues(random, random.IntN(len(m.head)+1))
	if rows := m.Rows(); len(rows) > 0 && random.IntN(3) > 0 {
		values = slices.Clone(rows[random.IntN(len(rows))].Values[:len(values)])
	}
	switch random.IntN(12) {
	case 0:
		values = fewValues(random, len(m.head)+1+random.IntN(3))
	case 1:
		if len(values) > 0 {
			values[random.IntN(len(values))] = wrongValue(random)
		}
	}
	return values
}

func randomClear(random *rand.Rand, m *model) step {
	var rels []string
	for range random.IntN(4) {
		rels = append(rels, m.atoms[random.IntN(len(m.atoms))].rel)
	}
	if random.IntN(4) == 0 {
		rels = append(rels, randomRel(random, m))
	}
	return clearing(rels...)
}

func randomRel(random *rand.Rand, m *model) string {
	if random.IntN(3) > 0 {
		return m.atoms[random.IntN(len(m.atoms))].rel
	}
	return []string{"", "Q", "R", "S", "x", "\xff"}[random.IntN(6)]
}

func fewValues(random *rand.Rand, n int) []int {
	values := make([]int, n)
	for i := range values {
		values[i] = []int{0, 1, 2, 7, 999}[random.IntN(5)]
	}
	return values
}

func wrongValue(random *rand.Rand) int {
	return []int{-1, 1000, math.MinInt, math.MaxInt}[random.IntN(4)]
}

// Views of random queries, two of each query, against the model at each call.
func TestP5ToP8AnyCalls(t *testing.T) {
	random := rand.New(rand.NewPCG(9, 10))
	seen := map[string]int{}
	for range 1500 {
		query := randomGoodQuery(random)
		views := []*estuary.View{start(t, query), start(t, query)}
		models := []*model{newModel(query), newModel(query)}
		for range 60 {
			one := random.IntN(2)
			s := randomStep(random, models[one])
			seen[fmt.Sprint(s.call, " ", int(tryStep(t, query, s, views[one], models[one])))]++
			if t.Failed() {
				return
			}
		}
		for i, v := range views {
			tryStep(t, query, allRows(), v, models[i])
		}
	}
	for _, kind := range []string{"Update 0", "Update 5", "Update 6", "Update 8", "Update 3", "Rows 0", "Total 0", "Total 6",
		"Relation 0", "Relation 5", "Clear 0", "Clear 5"} {
		if seen[kind] < 100 {
			t.Errorf("only %d of the calls are %s", seen[kind], kind)
		}
	}
}

// tryStep also does to the answer and to the lists that were handed in what a
// caller may do: a view that shares them goes wrong later.
func tryStep(t *testing.T, query string, s step, v *estuary.View, m *model) estuary.Errno {
	t.Helper()
	handed := step{s.call, slices.Clone(s.rels), s.by, slices.Clone(s.values)}
	r, want := handed.ask(v), s.ask(m)
	if r.String() != want.String() {
		t.Errorf("%q: %v = %v, want %v", query, s, r, want)
	}
	if !slices.Equal(handed.rels, s.rels) || !slices.Equal(handed.values, s.values) {
		t.Errorf("%q: %v changed its list: %v", query, s, handed)
	}
	if !ownLists(r.rows) {
		t.Errorf("%q: %v: the lists of the answer share memory", query, s)
	}
	spoil(r.rows, handed)
	return r.err
}

func spoil(rows []estuary.Row, handed step) {
	for i := range handed.values {
		handed.values[i] = -5
	}
	for i := range handed.rels {
		handed.rels[i] = "?"
	}
	for i, row := range rows {
		for j := range row.Values {
			row.Values[j] = -6
		}
		rows[i] = estuary.Row{By: -7}
	}
}

// ownLists tells whether the lists of an answer share no memory with each other.
func ownLists(rows []estuary.Row) bool {
	before := fmt.Sprint(rows)
	for _, row := range rows {
		_ = append(row.Values, -8)
	}
	return fmt.Sprint(rows) == before
}

func randomGoodQuery(random *rand.Rand) string {
	for {
		if query := randomQuery(random); check(query).err == estuary.OK {
			return withAnyHead(random, query)
		}
	}
}

// withAnyHead puts any of the atoms' vars into a query's head, in any order.
func withAnyHead(random *rand.Rand, query string) string {
	_, body, _ := strings.Cut(query, ":")
	names := headPattern.FindAllString(relPattern.ReplaceAllString(body, ""), -1)
	slices.Sort(names)
	names = slices.Compact(names)
	random.Shuffle(len(names), func(i, j int) { names[i], names[j] = names[j], names[i] })
	return "(" + strings.Join(names[:random.IntN(len(names)+1)], ", ") + ") :" + body
}
