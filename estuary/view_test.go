package estuary_test

import (
	"fmt"
	"math"
	"math/rand/v2"
	"strings"
	"testing"
	"unsafe"

	"estuary/estuary"
)

// call is an Update, and what it must tell.
type call struct {
	rel    string
	by     int
	values []int
	want   string
	err    estuary.Errno
}

func start(t *testing.T, query string) *estuary.View {
	t.Helper()
	v, err, at := estuary.Start(query)
	if v == nil || err != estuary.OK || at != 0 {
		t.Fatalf("Start(%q) = %v, %d, %d", query, v, err, at)
	}
	return v
}

// runCalls makes the calls one after the other, then asks for Rows.
func runCalls(t *testing.T, query string, calls []call, rows string) {
	t.Helper()
	var steps []expected
	for _, c := range calls {
		steps = append(steps, expected{update(c.rel, c.by, c.values...), c.want, 0, c.err})
	}
	runSteps(t, query, append(steps, expected{allRows(), rows, 0, estuary.OK}))
}

func TestP4Errors(t *testing.T) {
	texts := []string{"", "(", "(x", "(x, x) : R(x).", "(y) : R(x).", "() : R(1000).", "() : R(x), R(x, y).",
		"() : R(1, 2, 3, 4).", "() : A(1), B(1), C(1), D(1), E(1).", "(a, b, c, d, e, f, g) : R(a).",
		"(x) : R(x, y), S(y, z), T(z, x).", "() : R(x). ?", "\xff", strings.Repeat(" ", 201), strings.Repeat("(", 1<<20)}
	for _, text := range texts {
		want := check(text)
		if want.err == estuary.OK {
			t.Fatalf("%q is a query", text)
		}
		v, err, at := estuary.Start(text)
		if v != nil || (answer{err, at}) != want {
			t.Errorf("Start(%q) = %v, %d, %d, want %v", text, v, err, at, want)
		}
	}
}

func TestP4AnyText(t *testing.T) {
	random := rand.New(rand.NewPCG(7, 8))
	for range 5000 {
		text := randomQuery(random)
		want := check(text)
		v, err, at := estuary.Start(text)
		if (v != nil) != (want.err == estuary.OK) || (answer{err, at}) != want {
			t.Fatalf("Start(%q) = %v, %d, %d, want %v", text, v, err, at, want)
		}
	}
}

// A view begins without rows, and its relations are the rels of its atoms.
func TestP4WithoutRows(t *testing.T) {
	for _, q := range goodQueries {
		v, m := start(t, q), newModel(q)
		if rows := v.Rows(); len(rows) != 0 {
			t.Errorf("%q begins with %v", q, rows)
		}
		for _, rel := range strings.Fields("R S T U A B C D E H Ra1b Ra1 r x") {
			values := make([]int, m.terms(rel))
			want := estuary.OK
			if len(values) == 0 {
				want = estuary.ErrName
			}
			if rows, err := v.Update(rel, 0, values...); len(rows) != 0 || err != want {
				t.Errorf("%q: Update(%q, 0, %v) = %v, %d, want %d", q, rel, values, rows, err, want)
			}
		}
	}
}

func TestP5Join(t *testing.T) {
	runCalls(t, "(z, x) : R(x, y), S(y, z), T(z).", []call{
		{"R", 1, []int{1, 2}, "[]", 0},
		{"T", 2, []int{3}, "[]", 0},
		{"S", 3, []int{2, 3}, "[{[3 1] 6}]", 0},
		{"S", 1, []int{1, 3}, "[]", 0},
		{"R", 1, []int{2, 2}, "[{[3 2] 6}]", 0},
		{"T", -1, []int{0}, "[]", 0},
		{"S", 1, []int{2, 0}, "[{[0 1] -1} {[0 2] -1}]", 0},
		{"R", -1, []int{1, 2}, "[{[0 1] 1} {[3 1] -6}]", 0},
	}, "[{[0 2] -1} {[3 2] 6}]")
}

func TestP5JoinedWithItself(t *testing.T) {
	runCalls(t, "(x, z) : R(x, y), R(y, z).", []call{
		{"R", 2, []int{1, 2}, "[]", 0},
		{"R", 3, []int{2, 1}, "[{[1 1] 6} {[2 2] 6}]", 0},
		{"R", -1, []int{1, 1}, "[{[1 1] 1} {[1 2] -2} {[2 1] -3}]", 0},
		{"R", 2, []int{1, 1}, "[{[1 2] 4} {[2 1] 6}]", 0},
		{"R", -1, []int{1, 1}, "[{[1 1] -1} {[1 2] -2} {[2 1] -3}]", 0},
	}, "[{[1 1] 6} {[2 2] 6}]")
	runCalls(t, "() : R(x), R(x), R(x), R(x).", []call{
		{"R", 1, []int{7}, "[{[] 1}]", 0},
		{"R", 1, []int{7}, "[{[] 15}]", 0},
		{"R", -4, []int{7}, "[]", 0},
		{"R", -1, []int{7}, "[{[] 65}]", 0},
		{"R", 3, []int{7}, "[{[] -81}]", 0},
	}, "[]")
	runCalls(t, "(x, y) : R(x), R(y).", []call{
		{"R", 1, []int{0}, "[{[0 0] 1}]", 0},
		{"R", 2, []int{999}, "[{[0 999] 2} {[999 0] 2} {[999 999] 4}]", 0},
		{"R", -1, []int{0}, "[{[0 0] -1} {[0 999] -2} {[999 0] -2}]", 0},
	}, "[{[999 999] 4}]")
}

func TestP5VarTwiceInAnAtom(t *testing.T) {
	runCalls(t, "(x, y) : R(x, x, y), S(y, y).", []call{
		{"S", 1, []int{3, 3}, "[]", 0},
		{"S", 1, []int{3, 4}, "[]", 0},
		{"R", 1, []int{1, 2, 3}, "[]", 0},
		{"R", 1, []int{2, 1, 3}, "[]", 0},
		{"R", 1, []int{0, 1, 3}, "[]", 0},
		{"R", 5, []int{2, 2, 3}, "[{[2 3] 5}]", 0},
		{"R", 5, []int{0, 0, 3}, "[{[0 3] 5}]", 0},
		{"R", 5, []int{0, 0, 4}, "[]", 0},
		{"S", -1, []int{4, 4}, "[{[0 4] -5}]", 0},
	}, "[{[0 3] 5} {[0 4] -5} {[2 3] 5}]")
	runCalls(t, "(x) : R(x, x, x).", []call{
		{"R", 1, []int{1, 1, 2}, "[]", 0},
		{"R", 1, []int{2, 1, 1}, "[]", 0},
		{"R", 1, []int{1, 2, 1}, "[]", 0},
		{"R", 1, []int{1, 1, 1}, "[{[1] 1}]", 0},
	}, "[{[1] 1}]")
}

func TestP5Numbers(t *testing.T) {
	runCalls(t, "(x) : R(0, x, 999), S(10, x).", []call{
		{"R", 1, []int{0, 5, 999}, "[]", 0},
		{"R", 1, []int{1, 5, 999}, "[]", 0},
		{"R", 1, []int{0, 5, 99}, "[]", 0},
		{"R", 1, []int{999, 5, 0}, "[]", 0},
		{"S", 1, []int{1, 5}, "[]", 0},
		{"S", 1, []int{100, 5}, "[]", 0},
		{"S", 1, []int{5, 10}, "[]", 0},
		{"S", 2, []int{10, 5}, "[{[5] 2}]", 0},
	}, "[{[5] 2}]")
	runCalls(t, "() : R(123), R(x), R(45).", []call{
		{"R", 2, []int{123}, "[]", 0},
		{"R", 3, []int{45}, "[{[] 30}]", 0},
		{"R", 1, []int{6}, "[{[] 6}]", 0},
		{"R", -2, []int{123}, "[{[] -36}]", 0},
	}, "[]")
}

func TestP5DroppedVars(t *testing.T) {
	runCalls(t, "(y) : R(x, y, z).", []call{
		{"R", 1, []int{1, 5, 1}, "[{[5] 1}]", 0},
		{"R", 2, []int{2, 5, 1}, "[{[5] 2}]", 0},
		{"R", -3, []int{1, 5, 2}, "[{[5] -3}]", 0},
		{"R", -1, []int{1, 4, 2}, "[{[4] -1}]", 0},
	}, "[{[4] -1}]")
}

func TestP5EmptyHead(t *testing.T) {
	runCalls(t, "() : R(x, y), S(y).", []call{
		{"R", 2, []int{1, 5}, "[]", 0},
		{"S", 3, []int{5}, "[{[] 6}]", 0},
		{"R", -2, []int{2, 5}, "[{[] -6}]", 0},
	}, "[]")
}

func TestP5NoSharedVars(t *testing.T) {
	runCalls(t, "(b, a) : R(a), S(b), T(1), U(c, c).", []call{
		{"R", 1, []int{1}, "[]", 0},
		{"R", 2, []int{2}, "[]", 0},
		{"S", 1, []int{3}, "[]", 0},
		{"T", 1, []int{2}, "[]", 0},
		{"T", 1, []int{1}, "[]", 0},
		{"U", 1, []int{7, 8}, "[]", 0},
		{"U", 1, []int{7, 7}, "[{[3 1] 1} {[3 2] 2}]", 0},
		{"U", 4, []int{0, 0}, "[{[3 1] 4} {[3 2] 8}]", 0},
		{"S", 1, []int{0}, "[{[0 1] 5} {[0 2] 10}]", 0},
	}, "[{[0 1] 5} {[0 2] 10} {[3 1] 5} {[3 2] 10}]")
}

// Values are numbers, and rise as such; the first ones count most.
func TestP5Rising(t *testing.T) {
	v := start(t, "(y, x) : R(x, y).")
	for _, values := range [][]int{{100, 9}, {2, 10}, {10, 10}, {0, 999}, {9, 9}, {999, 0}} {
		v.Update("R", 1, values...)
	}
	want := "[{[0 999] 1} {[9 9] 1} {[9 100] 1} {[10 2] 1} {[10 10] 1} {[999 0] 1}]"
	if got := fmt.Sprint(v.Rows()); got != want {
		t.Errorf("Rows() = %s, want %s", got, want)
	}
}

func TestP6WhichError(t *testing.T) {
	v, m := start(t, "(x) : R(x, y), S(x)."), newModel("(x) : R(x, y), S(x).")
	both := func(rel string, by int, values []int, want estuary.Errno) {
		t.Helper()
		rows, err := v.Update(rel, by, values...)
		if len(rows) != 0 || err != want {
			t.Errorf("Update(%q, %d, %v) = %v, %d, want %d", rel, by, values, rows, err, want)
		}
		if got := told(m.Update(rel, by, values...)); got != told(rows, err) {
			t.Errorf("Update(%q, %d, %v): the model says %s", rel, by, values, got)
		}
	}
	for i := range 12 {
		both("R", 9, []int{i, 0}, estuary.OK)
	}
	for range 10 {
		both("R", 9, []int{0, 0}, estuary.OK)
	}
	for _, rel := range []string{"", "T", "r", "x", "Rr", "R ", "\xff", strings.Repeat("R", 1<<20)} {
		both(rel, 1, []int{1, 2}, estuary.ErrName)
		both(rel, 100, nil, estuary.ErrName)
	}
	for _, values := range [][]int{nil, {}, {1}, {1000}, {1, 2, 3}, {-1, -1, -1}, make([]int, 1000)} {
		both("R", 1, values, estuary.ErrShape)
		both("R", 10, values, estuary.ErrShape)
	}
	both("S", 1, []int{1, 2}, estuary.ErrShape)
	for _, by := range []int{10, -10, 99, math.MaxInt, math.MinInt} {
		both("R", by, []int{0, 0}, estuary.ErrRange)
		both("R", by, []int{50, 50}, estuary.ErrRange)
	}
	for _, n := range []int{-1, 1000, math.MaxInt, math.MinInt} {
		both("R", 0, []int{0, n}, estuary.ErrRange)
		both("R", 1, []int{n, 0}, estuary.ErrRange)
	}
	both("R", 1, []int{0, 0}, estuary.ErrRange)
	both("R", 9, []int{0, 0}, estuary.ErrRange)
	both("R", 1, []int{12, 0}, estuary.ErrMany)
	both("R", -9, []int{999, 999}, estuary.ErrMany)
	both("R", 0, []int{12, 0}, estuary.OK)
	both("S", 1, []int{12}, estuary.OK)
	if rows, err := v.Update("S", 1, 0); fmt.Sprint(rows) != "[{[0] 99}]" || err != estuary.OK {
		t.Errorf("a refused Update has changed a row: %v, %d", rows, err)
	}
}

func TestP6MostAndLeast(t *testing.T) {
	for _, sign := range []int{1, -1} {
		v := start(t, "(x) : R(x).")
		want := func(by int, rows string, err estuary.Errno) {
			t.Helper()
			if got := told(v.Update("R", sign*by, 999)); got != fmt.Sprint(rows, " ", int(err)) {
				t.Errorf("Update(R, %d, 999) = %s, want %s %d", sign*by, got, rows, err)
			}
		}
		for range 10 {
			want(9, fmt.Sprintf("[{[999] %d}]", sign*9), estuary.OK)
		}
		want(9, fmt.Sprintf("[{[999] %d}]", sign*9), estuary.OK)
		want(1, "[]", estuary.ErrRange)
		want(0, "[]", estuary.OK)
		want(-1, fmt.Sprintf("[{[999] %d}]", -sign), estuary.OK)
		want(2, "[]", estuary.ErrRange)
		want(1, fmt.Sprintf("[{[999] %d}]", sign), estuary.OK)
		if got := fmt.Sprint(v.Rows()); got != fmt.Sprintf("[{[999] %d}]", sign*99) {
			t.Errorf("Rows() = %s", got)
		}
	}
}

// The most that rows can be worth.
func TestP6GreatProducts(t *testing.T) {
	v := start(t, "() : R(a), R(b), R(c), R(d).")
	for i := range 12 {
		for range 11 {
			v.Update("R", 9, i)
		}
	}
	all := 12 * 99 * 12 * 99 * 12 * 99 * 12 * 99
	if got := fmt.Sprint(v.Rows()); got != fmt.Sprintf("[{[] %d}]", all) {
		t.Errorf("Rows() = %s, want %d", got, all)
	}
}

// A row that is there 0 times is none: it takes no place, and by 0 makes none.
func TestP6NoRow(t *testing.T) {
	v := start(t, "(x) : R(x, y).")
	want := func(by, x int, rows string, err estuary.Errno) {
		t.Helper()
		if got := told(v.Update("R", by, x, 1)); got != fmt.Sprint(rows, " ", int(err)) {
			t.Errorf("Update(R, %d, %d, 1) = %s, want %s %d", by, x, got, rows, err)
		}
	}
	for x := range 30 {
		want(0, x, "[]", estuary.OK)
	}
	for x := range 12 {
		want(-2, x, fmt.Sprintf("[{[%d] -2}]", x), estuary.OK)
	}
	want(1, 12, "[]", estuary.ErrMany)
	want(1, 5, "[{[5] 1}]", estuary.OK)
	want(1, 12, "[]", estuary.ErrMany)
	want(1, 5, "[{[5] 1}]", estuary.OK)
	want(1, 12, "[{[12] 1}]", estuary.OK)
	want(1, 5, "[]", estuary.ErrMany)
	for x := range 12 {
		if x != 5 {
			want(2, x, fmt.Sprintf("[{[%d] 2}]", x), estuary.OK)
		}
	}
	want(-1, 12, "[{[12] -1}]", estuary.OK)
	if rows := v.Rows(); len(rows) != 0 {
		t.Errorf("Rows() = %v", rows)
	}
	for x := range 12 {
		want(1, x+20, fmt.Sprintf("[{[%d] 1}]", x+20), estuary.OK)
	}
}

// Each relation has its own rows.
func TestP6PlacesOfEachRelation(t *testing.T) {
	v := start(t, "() : R(x), S(x).")
	for x := range 12 {
		for _, rel := range []string{"R", "S"} {
			if _, err := v.Update(rel, 1, x); err != estuary.OK {
				t.Errorf("row %d of %s: %d", x, rel, err)
			}
		}
	}
}

// A caller may make a string of bytes that it changes later: a view that kept
// the text would not know its relations any more.
func TestP1TextNotKept(t *testing.T) {
	text := []byte("(x) : Rel(x, y), Sum(y).")
	v := start(t, unsafe.String(&text[0], len(text)))
	for i := range text {
		text[i] = '?'
	}
	name := []byte("Rel")
	v.Update(unsafe.String(&name[0], len(name)), 2, 1, 5)
	name[0] = '?'
	if got := told(v.Update("Sum", 3, 5)); got != "[{[1] 6}] 0" {
		t.Errorf("Update(Sum, 3, 5) = %s", got)
	}
	if got := told(v.Update("Rel", 1, 1, 5)); got != "[{[1] 3}] 0" {
		t.Errorf("Update(Rel, 1, 1, 5) = %s", got)
	}
}
