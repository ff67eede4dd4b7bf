package estuary_test

import (
	"fmt"
	"math"
	"math/rand/v2"
	"runtime"
	"sync"
	"sync/atomic"
	"testing"

	"estuary/estuary"
)

// done is a step of some goroutine, and how it was answered there.
type done struct {
	step
	reply string
}

// together lets each list of steps go in a goroutine of its own, all at the same
// time.
func together(v *estuary.View, lists [][]step) [][]done {
	logs := make([][]done, len(lists))
	var arrived atomic.Int64
	var group sync.WaitGroup
	for i, list := range lists {
		group.Go(func() {
			arrived.Add(1)
			for arrived.Load() < int64(len(lists)) {
				runtime.Gosched()
			}
			for _, s := range list {
				logs[i] = append(logs[i], done{s, s.ask(v).String()})
			}
		})
	}
	group.Wait()
	return logs
}

// asIfOneByOne tells whether there is an order, of all that the goroutines did,
// in which the model answers the same.
func asIfOneByOne(m *model, logs [][]done) bool {
	left := false
	for i, log := range logs {
		if len(log) == 0 {
			continue
		}
		left = true
		next := m.copied()
		if log[0].ask(next).String() != log[0].reply {
			continue
		}
		logs[i] = log[1:]
		found := asIfOneByOne(next, logs)
		logs[i] = log
		if found {
			return true
		}
	}
	return !left
}

// A few goroutines with a few calls each, so that all orders can be tried.
func TestP2AsIfOneByOne(t *testing.T) {
	random := rand.New(rand.NewPCG(11, 12))
	queries := []string{"(x, y) : R(x), R(y).", pathQuery, "(x) : R(x, y), S(y).", "() : R(x), S(x), R(1).", "(a, d) : E(a, b), E(b, c), E(c, d)."}
	for range 1000 {
		query := queries[random.IntN(len(queries))]
		v, m := start(t, query), newModel(query)
		for range 12 {
			s := randomUpdate(random, m)
			s.ask(v)
			s.ask(m)
		}
		lists := make([][]step, 3)
		for i := range lists {
			for range 3 {
				lists[i] = append(lists[i], busyStep(random, m))
			}
		}
		if logs := together(v, lists); !asIfOneByOne(m, logs) {
			t.Fatalf("%q, relations %v: no order answers so: %v", query, m.rows, logs)
		}
	}
}

// busyStep is more often than randomStep a call that the others can disturb.
func busyStep(random *rand.Rand, m *model) step {
	switch random.IntN(6) {
	case 0:
		return randomClear(random, m)
	case 1:
		return allRows()
	case 2:
		return total(randomBeginning(random, m)...)
	case 3:
		return relation(randomRel(random, m))
	}
	return randomUpdate(random, m)
}

// Of a relation joined with itself alone the total is a square at each moment,
// and what all the changes told adds up to what is there in the end.
func TestP2ManyGoroutines(t *testing.T) {
	v := start(t, "(x, y) : R(x), R(y).")
	var lock sync.Mutex
	var sums []estuary.Row
	gather := func(rows []estuary.Row, _ estuary.Errno) {
		lock.Lock()
		defer lock.Unlock()
		for _, row := range rows {
			sums = addRow(sums, row.Values, row.By)
		}
	}
	var group sync.WaitGroup
	for i := range 8 {
		group.Go(func() {
			for n := range 300 {
				gather(v.Update("R", n%5-2, i))
				mustBeSquare(t, v)
				gather(v.Update("R", 1, n%20))
				if n%30 == i {
					gather(v.Clear([]string{"R", "R"}[:n%3]...))
				}
			}
		})
	}
	group.Wait()
	if got, want := fmt.Sprint(v.Rows()), fmt.Sprint(sums); got != want {
		t.Errorf("Rows() = %s, but the answers add up to %s", got, want)
	}
}

func mustBeSquare(t *testing.T, v *estuary.View) {
	total, _ := v.Total()
	sum := 0
	for _, row := range v.Rows() {
		sum += row.By
	}
	for _, n := range []int{total, sum} {
		if root := int(math.Round(math.Sqrt(float64(n)))); n < 0 || root*root != n {
			t.Errorf("a total of %d is no square", n)
		}
	}
	if rows, err := v.Relation("R"); len(rows) > 12 || err != estuary.OK {
		t.Errorf("Relation(R) = %v, %d", rows, err)
	}
}

// Goroutines that start and use views of their own have nothing to do with each
// other.
func TestP2ManyViews(t *testing.T) {
	var group sync.WaitGroup
	for i := range 8 {
		group.Go(func() {
			for range 50 {
				v, _, _ := estuary.Start(pathQuery)
				v.Update("R", i+1, 1, 5)
				v.Update("S", 1, 5, 7)
				if got, want := told(v.Clear()), fmt.Sprintf("[{[1 7] %d}] 0", -i-1); got != want {
					t.Errorf("Clear() = %s, want %s", got, want)
				}
			}
		})
	}
	group.Wait()
}
