package estuary_test

import (
	"math"
	"slices"
	"strings"
	"testing"

	"estuary/estuary"
)

// The calls have the signatures that the document lists.
var (
	_ func(string) (estuary.Errno, int)                                       = estuary.Check
	_ func(string) (*estuary.View, estuary.Errno, int)                        = estuary.Start
	_ func(*estuary.View, string, int, ...int) ([]estuary.Row, estuary.Errno) = (*estuary.View).Update
	_ func(*estuary.View) []estuary.Row                                       = (*estuary.View).Rows
	_ func(*estuary.View, ...int) (int, estuary.Errno)                        = (*estuary.View).Total
	_ func(*estuary.View, string) ([]estuary.Row, estuary.Errno)              = (*estuary.View).Relation
	_ func(*estuary.View, ...string) ([]estuary.Row, estuary.Errno)           = (*estuary.View).Clear

	_ = estuary.Row{Values: []int{1}, By: 1}
)

func TestErrnoNumbers(t *testing.T) {
	names := []estuary.Errno{estuary.OK, estuary.ErrLong, estuary.ErrForm, estuary.ErrMany, estuary.ErrTwice,
		estuary.ErrName, estuary.ErrShape, estuary.ErrCyclic, estuary.ErrRange}
	for number, name := range names {
		if int(name) != number {
			t.Errorf("constant %d is %d", number, name)
		}
	}
}

// No call panics, and none changes what it is handed.
func TestP1ViewCalls(t *testing.T) {
	values := [][]int{nil, {}, {0}, {1, 2}, {-1}, {999}, {1000}, {math.MinInt, math.MaxInt, 0, 1}, make([]int, 1000)}
	names := []string{"", "R", "S", "x", "\xff", strings.Repeat("R", 1000)}
	v, _, _ := estuary.Start("(x) : R(x).")
	for _, name := range names {
		for _, by := range []int{0, 1, -9, 10, math.MinInt, math.MaxInt} {
			for _, list := range values {
				before := slices.Clone(list)
				v.Update(name, by, list...)
				v.Total(list...)
				if !slices.Equal(list, before) {
					t.Fatalf("the list %v is %v now", before, list)
				}
			}
		}
		v.Relation(name)
		v.Clear(name)
	}
	before := slices.Clone(names)
	v.Clear(names...)
	v.Clear()
	v.Rows()
	if !slices.Equal(names, before) {
		t.Errorf("the list %q is %q now", before, names)
	}
}

func TestP1StartEnds(t *testing.T) {
	for _, text := range []string{"", "(", "\xff", "() : R(x).", strings.Repeat("(", 1<<20)} {
		estuary.Start(text)
	}
}
