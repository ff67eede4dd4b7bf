package estuary_test

import (
	"fmt"
	"math"
	"slices"
	"strings"
	"testing"

	"estuary/estuary"
)

const pathQuery = "(x, z) : R(x, y), S(y, z)."

func TestExample(t *testing.T) {
	runSteps(t, pathQuery, []expected{
		{update("R", 2, 1, 5), "[]", 0, 0},
		{update("S", 3, 5, 7), "[{[1 7] 6}]", 0, 0},
		{update("R", 1, 4, 5), "[{[4 7] 3}]", 0, 0},
		{total(), "[]", 9, 0},
		{total(1), "[]", 6, 0},
		{update("S", -1, 5, 7), "[{[1 7] -2} {[4 7] -1}]", 0, 0},
		{allRows(), "[{[1 7] 4} {[4 7] 2}]", 0, 0},
		{clearing("R"), "[{[1 7] -4} {[4 7] -2}]", 0, 0},
		{allRows(), "[]", 0, 0},
	})
}

func TestP7FirstValues(t *testing.T) {
	runSteps(t, "(z, x, y) : R(x, y), S(y, z).", []expected{
		{total(), "[]", 0, 0},
		{update("R", 2, 1, 5), "[]", 0, 0},
		{update("R", 1, 4, 5), "[]", 0, 0},
		{update("R", -3, 1, 0), "[]", 0, 0},
		{update("S", 3, 5, 7), "[{[7 1 5] 6} {[7 4 5] 3}]", 0, 0},
		{update("S", 1, 0, 7), "[{[7 1 0] -3}]", 0, 0},
		{update("S", 1, 5, 1), "[{[1 1 5] 2} {[1 4 5] 1}]", 0, 0},
		{total(), "[]", 9, 0},
		{total(7), "[]", 6, 0},
		{total(1), "[]", 3, 0},
		{total(4), "[]", 0, 0},
		{total(5), "[]", 0, 0},
		{total(7, 1), "[]", 3, 0},
		{total(1, 7), "[]", 0, 0},
		{total(1, 1), "[]", 2, 0},
		{total(7, 1, 0), "[]", -3, 0},
		{total(7, 1, 5), "[]", 6, 0},
		{total(7, 1, 4), "[]", 0, 0},
		{total(7, 1, 5, 0), "[]", 0, estuary.ErrShape},
		{total(7, 1, 5, 7), "[]", 0, estuary.ErrShape},
	})
}

// Values that no row can have are no error.
func TestP7AnyValues(t *testing.T) {
	v := start(t, pathQuery)
	v.Update("R", 1, 0, 0)
	v.Update("S", 1, 0, 999)
	for _, n := range []int{-1, 1, 999, 1000, math.MinInt, math.MaxInt} {
		for _, values := range [][]int{{n}, {n, 999}, {0, n}} {
			want := 0
			if slices.Equal(values, []int{0, 999}) {
				want = 1
			}
			if total, err := v.Total(values...); total != want || err != estuary.OK {
				t.Errorf("Total(%v) = %d, %d, want %d, 0", values, total, err, want)
			}
		}
		for _, values := range [][]int{{0, 999, n}, {n, n, n}, {n, n, n, n}, make([]int, 1000)} {
			if total, err := v.Total(values...); total != 0 || err != estuary.ErrShape {
				t.Errorf("Total of %d values = %d, %d, want 0, ErrShape", len(values), total, err)
			}
		}
	}
}

func TestP7EmptyHead(t *testing.T) {
	runSteps(t, "() : R(x, y), S(y).", []expected{
		{total(), "[]", 0, 0},
		{update("R", 2, 1, 5), "[]", 0, 0},
		{update("S", -3, 5), "[{[] -6}]", 0, 0},
		{total(), "[]", -6, 0},
		{total(0), "[]", 0, estuary.ErrShape},
		{total(1), "[]", 0, estuary.ErrShape},
	})
}

// Rows may make up for each other, and a var that the head drops is not asked.
func TestP7DroppedVars(t *testing.T) {
	runSteps(t, "(y) : R(x, y, z).", []expected{
		{update("R", 5, 1, 5, 1), "[{[5] 5}]", 0, 0},
		{update("R", 2, 2, 5, 1), "[{[5] 2}]", 0, 0},
		{update("R", -7, 0, 4, 1), "[{[4] -7}]", 0, 0},
		{total(), "[]", 0, 0},
		{total(5), "[]", 7, 0},
		{total(4), "[]", -7, 0},
		{total(1), "[]", 0, 0},
		{total(0), "[]", 0, 0},
		{total(5, 1), "[]", 0, estuary.ErrShape},
	})
}

func TestP7JoinedWithItself(t *testing.T) {
	runSteps(t, "(x, z) : R(x, y), R(y, z).", []expected{
		{update("R", 2, 1, 1), "[{[1 1] 4}]", 0, 0},
		{update("R", 1, 1, 2), "[{[1 2] 2}]", 0, 0},
		{update("R", -1, 2, 1), "[{[1 1] -1} {[2 1] -2} {[2 2] -1}]", 0, 0},
		{total(), "[]", 2, 0},
		{total(1), "[]", 5, 0},
		{total(1, 1), "[]", 3, 0},
		{total(2), "[]", -3, 0},
	})
}

// The most that all rows together can be worth.
func TestP7GreatTotal(t *testing.T) {
	v := start(t, "(a, b, c, d) : R(a), R(b), R(c), R(d).")
	for i := range 12 {
		for range 11 {
			v.Update("R", 9, i)
		}
	}
	each := 12 * 99 * 12 * 99 * 12 * 99
	if total, err := v.Total(); total != 12*99*each || err != estuary.OK {
		t.Errorf("Total() = %d, %d, want %d", total, err, 12*99*each)
	}
	if total, err := v.Total(11); total != 99*each || err != estuary.OK {
		t.Errorf("Total(11) = %d, %d, want %d", total, err, 99*each)
	}
}

func TestP8Relation(t *testing.T) {
	runSteps(t, "(x) : Rel(x, y, 3), S(y), T(10, y).", []expected{
		{relation("Rel"), "[]", 0, 0},
		{relation("S"), "[]", 0, 0},
		{update("Rel", 2, 10, 5, 3), "[]", 0, 0},
		{update("Rel", -9, 9, 999, 0), "[]", 0, 0},
		{update("Rel", 1, 9, 0, 3), "[]", 0, 0},
		{update("Rel", 1, 9, 0, 0), "[]", 0, 0},
		{update("Rel", -2, 100, 0, 0), "[]", 0, 0},
		{update("T", 4, 0, 0), "[]", 0, 0},
		{update("S", -1, 0), "[]", 0, 0},
		{relation("Rel"), "[{[9 0 0] 1} {[9 0 3] 1} {[9 999 0] -9} {[10 5 3] 2} {[100 0 0] -2}]", 0, 0},
		{relation("S"), "[{[0] -1}]", 0, 0},
		{relation("T"), "[{[0 0] 4}]", 0, 0},
		{update("Rel", -1, 9, 0, 0), "[]", 0, 0},
		{update("S", 1, 0), "[]", 0, 0},
		{update("T", 0, 1, 1), "[]", 0, 0},
		{update("T", 10, 0, 0), "[]", 0, estuary.ErrRange},
		{relation("Rel"), "[{[9 0 3] 1} {[9 999 0] -9} {[10 5 3] 2} {[100 0 0] -2}]", 0, 0},
		{relation("S"), "[]", 0, 0},
		{relation("T"), "[{[0 0] 4}]", 0, 0},
	})
}

// A relation of several atoms has its rows once.
func TestP8RelationJoinedWithItself(t *testing.T) {
	runSteps(t, "() : R(x, 1), R(1, x), R(x, x).", []expected{
		{update("R", 3, 1, 1), "[{[] 27}]", 0, 0},
		{update("R", 2, 0, 5), "[]", 0, 0},
		{relation("R"), "[{[0 5] 2} {[1 1] 3}]", 0, 0},
	})
}

func TestP8WrongNames(t *testing.T) {
	v := start(t, "(x) : R(x, y), Sab(y).")
	v.Update("R", 2, 1, 5)
	v.Update("Sab", 3, 5)
	for _, name := range []string{"", "T", "r", "x", "Rr", "R ", " R", "Sa", "Sabc", "sab", "R,Sab", "\x00", "\xff", strings.Repeat("R", 1<<20)} {
		if rows, err := v.Relation(name); len(rows) != 0 || err != estuary.ErrName {
			t.Errorf("Relation(%.20q) = %v, %d", name, rows, err)
		}
		for _, names := range [][]string{{name}, {"R", name}, {name, "R"}, {"R", "Sab", name}, {"R", name, "R"}, {name, name}} {
			if rows, err := v.Clear(names...); len(rows) != 0 || err != estuary.ErrName {
				t.Errorf("Clear(%.20q) = %v, %d", names, rows, err)
			}
		}
	}
	for _, s := range []struct {
		step
		want string
	}{{allRows(), "[{[1] 6}] 0 0"}, {relation("R"), "[{[1 5] 2}] 0 0"}, {relation("Sab"), "[{[5] 3}] 0 0"},
		{update("R", 1, 1, 5), "[{[1] 3}] 0 0"}} {
		if got := s.ask(v).String(); got != s.want {
			t.Errorf("behind refused calls: %v = %s, want %s", s.step, got, s.want)
		}
	}
}

func TestP8ClearSome(t *testing.T) {
	runSteps(t, "(x, z) : R(x, y), S(y, z), T(z).", []expected{
		{update("R", 2, 1, 5), "[]", 0, 0},
		{update("S", -3, 5, 7), "[]", 0, 0},
		{update("T", 1, 7), "[{[1 7] -6}]", 0, 0},
		{update("R", 1, 4, 5), "[{[4 7] -3}]", 0, 0},
		{clearing("S"), "[{[1 7] 6} {[4 7] 3}]", 0, 0},
		{allRows(), "[]", 0, 0},
		{total(), "[]", 0, 0},
		{relation("S"), "[]", 0, 0},
		{relation("R"), "[{[1 5] 2} {[4 5] 1}]", 0, 0},
		{relation("T"), "[{[7] 1}]", 0, 0},
		{clearing("S"), "[]", 0, 0},
		{update("S", 1, 5, 7), "[{[1 7] 2} {[4 7] 1}]", 0, 0},
		{clearing("T", "R"), "[{[1 7] -2} {[4 7] -1}]", 0, 0},
		{update("R", 1, 0, 5), "[]", 0, 0},
		{update("T", 9, 7), "[{[0 7] 9}]", 0, 0},
		{clearing("R", "R", "R"), "[{[0 7] -9}]", 0, 0},
		{relation("S"), "[{[5 7] 1}]", 0, 0},
		{update("R", 1, 8, 5), "[{[8 7] 9}]", 0, 0},
	})
}

func TestP8ClearAll(t *testing.T) {
	runSteps(t, pathQuery, []expected{
		{clearing(), "[]", 0, 0},
		{update("R", 2, 1, 5), "[]", 0, 0},
		{update("S", 3, 5, 7), "[{[1 7] 6}]", 0, 0},
		{update("S", -3, 5, 6), "[{[1 6] -6}]", 0, 0},
		{clearing(), "[{[1 6] 6} {[1 7] -6}]", 0, 0},
		{relation("R"), "[]", 0, 0},
		{relation("S"), "[]", 0, 0},
		{allRows(), "[]", 0, 0},
		{clearing(), "[]", 0, 0},
		{update("R", 1, 1, 5), "[]", 0, 0},
		{update("S", 1, 5, 7), "[{[1 7] 1}]", 0, 0},
		{clearing("R", "S"), "[{[1 7] -1}]", 0, 0},
		{update("S", 2, 5, 7), "[]", 0, 0},
		{update("R", 2, 1, 5), "[{[1 7] 4}]", 0, 0},
	})
}

func TestP8ClearJoinedWithItself(t *testing.T) {
	runSteps(t, "(x, z) : R(x, y), R(y, z), R(y, 0).", []expected{
		{update("R", 2, 1, 0), "[]", 0, 0},
		{update("R", -3, 0, 0), "[{[0 0] -27} {[1 0] 18}]", 0, 0},
		{clearing("R"), "[{[0 0] 27} {[1 0] -18}]", 0, 0},
		{relation("R"), "[]", 0, 0},
		{update("R", 1, 0, 0), "[{[0 0] 1}]", 0, 0},
		{update("R", 1, 1, 0), "[{[1 0] 1}]", 0, 0},
		{clearing(), "[{[0 0] -1} {[1 0] -1}]", 0, 0},
		{update("R", 1, 1, 0), "[]", 0, 0},
	})
}

// An emptied relation tells nothing where the query was worth nothing.
func TestP8ClearOfNothing(t *testing.T) {
	runSteps(t, "() : R(x), S(x), T(1).", []expected{
		{update("R", 2, 1), "[]", 0, 0},
		{update("S", 3, 1), "[]", 0, 0},
		{clearing("T"), "[]", 0, 0},
		{clearing("R"), "[]", 0, 0},
		{update("T", 1, 1), "[]", 0, 0},
		{relation("S"), "[{[1] 3}]", 0, 0},
		{update("R", 1, 1), "[{[] 3}]", 0, 0},
		{clearing("T", "R", "S"), "[{[] -3}]", 0, 0},
	})
}

// Behind a Clear, a relation has all of its places again, and its rows begin at
// 0 times.
func TestP8ClearGivesPlaces(t *testing.T) {
	for _, names := range [][]string{nil, {}, {"R"}, {"R", "S", "R"}} {
		v := start(t, "(x) : R(x), S(x).")
		for range 3 {
			for x := range 12 {
				for range 11 {
					if got := told(v.Update("R", -9, x)); got != "[] 0" {
						t.Errorf("Update(R, -9, %d) = %s", x, got)
					}
				}
			}
			if _, err := v.Update("R", 1, 12); err != estuary.ErrMany {
				t.Errorf("a row too many: %d", err)
			}
			if got := told(v.Clear(names...)); got != "[] 0" {
				t.Errorf("Clear(%q) = %s", names, got)
			}
		}
		for x := range 12 {
			v.Update("S", 1, x)
		}
		if rows := v.Rows(); len(rows) != 0 {
			t.Errorf("behind Clear(%q): Rows() = %v", names, rows)
		}
	}
}

// What Clear is told of one view does nothing to another one.
func TestP2ClearOfOneView(t *testing.T) {
	one, other := start(t, pathQuery), start(t, pathQuery)
	for _, v := range []*estuary.View{one, other} {
		v.Update("R", 2, 1, 5)
		v.Update("S", 3, 5, 7)
	}
	one.Clear()
	if got := fmt.Sprint(other.Rows(), len(one.Rows())); got != "[{[1 7] 6}] 0" {
		t.Errorf("Rows of both views: %s", got)
	}
	if got := told(other.Update("R", 1, 1, 5)); got != "[{[1 7] 3}] 0" {
		t.Errorf("Update of the other view = %s", got)
	}
}
