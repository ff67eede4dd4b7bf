package estuary_test

import (
	"math/rand/v2"
	"strings"
	"sync"
	"testing"

	"estuary/estuary"
)

type checkCase struct {
	query string
	err   estuary.Errno
	at    int
}

func check(query string) answer {
	err, at := estuary.Check(query)
	return answer{err, at}
}

func runCases(t *testing.T, cases []checkCase) {
	t.Helper()
	for _, c := range cases {
		want := answer{c.err, c.at}
		if got := check(c.query); got != want {
			t.Errorf("Check(%q) = %v, want %v", c.query, got, want)
		}
		if got := oracleCheck(c.query); got != want {
			t.Errorf("the oracle at %q says %v, want %v", c.query, got, want)
		}
	}
}

// goodQueries is what the tests below cut, bend and mix.
var goodQueries = []string{
	"() : R(0).",
	"(x) : R(x).",
	" \n(\nx , z ) : R ( x,y ) ,S(y, z)\n.\n ",
	"(x,y):R(x,y,5),S(y,1).",
	"(a, d) : E(a, b), E(b, c), E(c, d).",
	"(x, a, b, c) : H(x, a), H(x, b), H(x, c).",
	"(p, q, r, s, t, u) : R(p, q, r), S(s, t, u).",
	"(x1y2) : Ra1b(x1y2, 10, 999), S(0).",
	"(x) : A(x, y, z), B(x, y), C(y, z), D(x, z).",
}

func TestP3Ordinary(t *testing.T) {
	for _, q := range goodQueries {
		runCases(t, []checkCase{{q, estuary.OK, 0}})
	}
}

func TestP3Words(t *testing.T) {
	runCases(t, []checkCase{
		{"(abcd) : R(abcd).", estuary.OK, 0},
		{"(abcde) : R(abcde).", estuary.ErrForm, 1},
		{"(x) : R(x, abcde).", estuary.ErrForm, 11},
		{"(x) : Rabc(x).", estuary.OK, 0},
		{"(x) : Rabcd(x).", estuary.ErrForm, 6},
		{"(a999) : R999(a999).", estuary.OK, 0},
		{"(xY) : R(x).", estuary.ErrForm, 1},
		{"(xyzW) : R(x).", estuary.ErrForm, 1},
		{"(x) : RS(x).", estuary.ErrForm, 6},
		{"(x) : RsT(x).", estuary.ErrForm, 6},
		{"(x) : 1(x).", estuary.ErrForm, 6},
		{"(x) : 1R(x).", estuary.ErrForm, 6},
		{"(x) : R(1x).", estuary.ErrForm, 8},
		{"(x) : R(x y).", estuary.ErrForm, 10},
		{"(x) : R S(x).", estuary.ErrForm, 8},
		{"(x_) : R(x).", estuary.ErrForm, 2},
		{"(_x) : R(x).", estuary.ErrForm, 1},
		{"(az, a0, a9) : RzZ(az).", estuary.ErrForm, 15},
		{"(az, a0, a9) : Rz0(az, a0, a9), Z9(z), A(a).", estuary.OK, 0},
	})
}

func TestP3Numbers(t *testing.T) {
	runCases(t, []checkCase{
		{"() : R(0, 9, 10).", estuary.OK, 0},
		{"() : R(100, 999).", estuary.OK, 0},
		{"() : R(1000).", estuary.ErrForm, 7},
		{"() : R(9999999999999999999999999).", estuary.ErrForm, 7},
		{"() : R(00).", estuary.ErrForm, 7},
		{"() : R(01).", estuary.ErrForm, 7},
		{"() : R(012).", estuary.ErrForm, 7},
		{"() : R(0x).", estuary.ErrForm, 7},
		{"() : R(1 2).", estuary.ErrForm, 9},
		{"() : R(-1).", estuary.ErrForm, 7},
		{"() : R(1.5).", estuary.ErrForm, 8},
		{"(7) : R(7).", estuary.ErrForm, 1},
		{"(x, 7) : R(x, 7).", estuary.ErrForm, 4},
	})
}

func TestP3Blanks(t *testing.T) {
	runCases(t, []checkCase{
		{"\n(\n)\n:\nR\n(\n1\n)\n.\n", estuary.OK, 0},
		{"\t() : R(1).", estuary.ErrForm, 0},
		{"()\r\n: R(1).", estuary.ErrForm, 2},
		{"() : R(1).\t", estuary.ErrForm, 10},
		{"() : R(1).\x00", estuary.ErrForm, 10},
		{"() : R(1). \n .", estuary.ErrForm, 13},
		{"()\u00a0: R(1).", estuary.ErrForm, 2},
		{"(\u00e9) : R(1).", estuary.ErrForm, 1},
		{"(x\u00e9) : R(1).", estuary.ErrForm, 2},
		{"(\xff) : R(1).", estuary.ErrForm, 1},
	})
}

func TestP3Signs(t *testing.T) {
	runCases(t, []checkCase{
		{") : R(x).", estuary.ErrForm, 0},
		{"(, x) : R(x).", estuary.ErrForm, 1},
		{"(x,, y) : R(x).", estuary.ErrForm, 3},
		{"(x, ) : R(x).", estuary.ErrForm, 4},
		{"(x)) : R(x).", estuary.ErrForm, 3},
		{"(x) : : R(x).", estuary.ErrForm, 6},
		{"(x) : , R(x).", estuary.ErrForm, 6},
		{"(x) : .", estuary.ErrForm, 6},
		{"(x) : x.", estuary.ErrForm, 6},
		{"(x) : R.", estuary.ErrForm, 7},
		{"(x) : R().", estuary.ErrForm, 8},
		{"(x) : R(x,).", estuary.ErrForm, 10},
		{"(x) : R(R).", estuary.ErrForm, 8},
		{"(x) : R((x)).", estuary.ErrForm, 8},
		{"(x) : R(x) S(x).", estuary.ErrForm, 11},
		{"(x) : R(x), .", estuary.ErrForm, 12},
		{"(x) : R(x). S(x).", estuary.ErrForm, 12},
	})
}

func TestP3EndsTooEarly(t *testing.T) {
	runCases(t, []checkCase{{"", estuary.ErrForm, 0}, {" \n ", estuary.ErrForm, 3}})
	for _, q := range goodQueries {
		stop := strings.IndexByte(q, '.')
		for n := range stop {
			runCases(t, []checkCase{{q[:n], estuary.ErrForm, n}})
		}
	}
}

func TestP3Limits(t *testing.T) {
	base := "() : R(x)."
	fill := func(n int) string { return base + strings.Repeat("\n", n-len(base)) }
	runCases(t, []checkCase{
		{fill(199), estuary.OK, 0},
		{fill(200), estuary.OK, 0},
		{fill(201), estuary.ErrLong, 0},
		{strings.Repeat("?", 200), estuary.ErrForm, 0},
		{strings.Repeat("?", 201), estuary.ErrLong, 0},
		{strings.Repeat("é", 101), estuary.ErrLong, 0},
		{strings.Repeat(" ", 200), estuary.ErrForm, 200},

		{"(a, b, c, d, e, f) : R(a, b, c), S(d, e, f).", estuary.OK, 0},
		{"(a, b, c, d, e, f, g) : R(a, b, c), S(d, e, f).", estuary.ErrMany, 19},
		{"() : R(a, b, c), S(d, e, f), T(a, f).", estuary.OK, 0},
		{"() : R(a, b, c), S(d, e, f), T(a, g).", estuary.ErrMany, 34},
		{"() : R(a, b, c), S(d, e, f), T(a, 7).", estuary.OK, 0},
		{"(u, v, w) : R(a, b, c), S(d, e, f).", estuary.ErrName, 1},

		{"() : A(1), A(2), A(3), A(4).", estuary.OK, 0},
		{"() : A(1), A(2), A(3), A(4), A(5).", estuary.ErrMany, 29},

		{"() : R(1, x, 3).", estuary.OK, 0},
		{"() : R(1, x, 3, 4).", estuary.ErrMany, 16},
		{"() : R(x, x, x, x).", estuary.ErrMany, 16},
		{"() : R(1), S(1, 2, 3, 4).", estuary.ErrMany, 22},
	})
}

// Whatever stands in the place of a fourth term is one too many, even what
// may not stand there; behind a third term without a comma that does not hold.
func TestP3FourthTerm(t *testing.T) {
	begin := "() : R(1, 2, 3,"
	for _, rest := range []string{"", "4", ")", ",", ".", "(", ":", "?", "R", "01", "abcde", "\t", "\xff"} {
		runCases(t, []checkCase{
			{begin + rest, estuary.ErrMany, 15},
			{begin + " \n" + rest, estuary.ErrMany, 17},
		})
	}
	runCases(t, []checkCase{
		{"() : R(1, 2, 3 4).", estuary.ErrForm, 15},
		{"() : R(1, 2, 3", estuary.ErrForm, 14},
	})
}

func TestP3Twice(t *testing.T) {
	runCases(t, []checkCase{
		{"(x, x) : R(x).", estuary.ErrTwice, 4},
		{"(x, y, z, y, x) : R(x, y, z).", estuary.ErrTwice, 10},
		{"(x, x1) : R(x, x1).", estuary.OK, 0},
		{"(x) : R(x, x), S(x).", estuary.OK, 0},
	})
}

func TestP3Shape(t *testing.T) {
	runCases(t, []checkCase{
		{"() : R(x), R(x, y).", estuary.ErrShape, 11},
		{"() : R(x, y), R(x).", estuary.ErrShape, 14},
		{"() : R(x), S(x), T(x), R(x, 1, 2).", estuary.ErrShape, 23},
		{"() : R(x), R1(x, y), Ra(x, y, z).", estuary.OK, 0},
		{"() : R(x, x), R(y, 1), R(1, 2).", estuary.OK, 0},
		{"() : R(x), R(x, x)", estuary.ErrShape, 11},
		{"() : R(x), R(x, x)?", estuary.ErrShape, 11},
		{"() : R(x), R(x, x), S(", estuary.ErrShape, 11},
		{"() : R(x), R(x, x", estuary.ErrForm, 17},
		{"() : R(x), R(x, x.", estuary.ErrForm, 17},
	})
}

func TestP3Name(t *testing.T) {
	runCases(t, []checkCase{
		{"(x) : R(1).", estuary.ErrName, 1},
		{"(x, y) : R(x).", estuary.ErrName, 4},
		{"(y, x, z) : R(x).", estuary.ErrName, 1},
		{"(x, zz, z) : R(x, z).", estuary.ErrName, 4},
		{" ( x,\ny) : R(x).", estuary.ErrName, 6},
	})
}

func TestP3FirstFromTheLeft(t *testing.T) {
	runCases(t, []checkCase{
		// The same place: the one that is named first.
		{"(a, b, c, d, e, f, a) : R(a).", estuary.ErrTwice, 19},
		{"(a, b, c, d, e, f, 1) : R(a).", estuary.ErrForm, 19},
		{"(a, b, c, d, e, f, abcde) : R(a).", estuary.ErrForm, 19},
		{"() : A(1), B(1), C(1), D(1), e(1).", estuary.ErrForm, 29},
		{"() : A(1), B(1), C(1), D(1), ", estuary.ErrForm, 29},
		{"() : R(a, b, c), S(d, e, f), T(Ggg).", estuary.ErrForm, 31},
		{"() : R(a, b, c), S(d, e, f, g).", estuary.ErrMany, 28},
		// Another place: the one farther to the left.
		{"(x, x, ?", estuary.ErrTwice, 4},
		{"(x, ?, x) : R(x).", estuary.ErrForm, 4},
		{"(a, b, c, d, e, f, g, a", estuary.ErrMany, 19},
		{"(a, a, b, c, d, e, f, g)", estuary.ErrTwice, 4},
		{"() : A(1), A(2), A(3), A(4), A(5, 6).", estuary.ErrMany, 29},
		{"() : A(1), A(2), A(3), A(4, 4), A(5).", estuary.ErrShape, 23},
		{"() : A(1), B(1), C(1), D(1), E?", estuary.ErrMany, 29},
		{"() : R(x), R(1, 2, 3, 4).", estuary.ErrMany, 22},
		{"() : R(a, b, c), S(d, e, f), R(g).", estuary.ErrMany, 31},
		// What only the whole query shows comes last.
		{"(u) : R(x, y), S(y, z), T(z, x)", estuary.ErrForm, 31},
		{"(u) : R(x, y), S(y, z), T(z, x)..", estuary.ErrForm, 32},
		{"(u) : R(x), R(x, y).", estuary.ErrShape, 12},
		{"(u) : R(x, y), S(y, z), T(z, x).", estuary.ErrName, 1},
		{"(x) : R(x, y), S(y, z), T(z, x).", estuary.ErrCyclic, 0},
	})
}

func TestP3Tree(t *testing.T) {
	runCases(t, []checkCase{
		{"() : R(x, y), S(y, z), T(z, x), U(x, y, z).", estuary.OK, 0},
		{"() : R(x, y), S(y, z), T(z, x), U(x, y).", estuary.ErrCyclic, 0},
		{"() : R(x, y), R(y, z), R(z, x).", estuary.ErrCyclic, 0},
		{"() : R(x, y), S(y, z), T(z, w), U(w, x).", estuary.ErrCyclic, 0},
		{"() : R(x, y), S(y, z), T(z, x), U(w).", estuary.ErrCyclic, 0},
		{"() : R(x, y, 1), S(y, z, 1), T(z, w, 1).", estuary.OK, 0},
		{"() : R(x), S(y), T(z), U(1).", estuary.OK, 0},
		{"() : R(x, y), S(x, y), T(x, y), U(x, y).", estuary.OK, 0},
		{"() : R(x, y, z), S(z, u, v), T(v, w, x).", estuary.ErrCyclic, 0},
	})
}

// Every four atoms with up to three of five vars, and the same four backwards.
func TestP3EveryTree(t *testing.T) {
	var sets [][]string
	for bits := range 32 {
		var set []string
		for i := range 5 {
			if bits>>i&1 == 1 {
				set = append(set, string(rune('a'+i)))
			}
		}
		if len(set) <= 3 {
			sets = append(sets, set)
		}
	}
	for i := range sets {
		for j := i; j < len(sets); j++ {
			for k := j; k < len(sets); k++ {
				for l := k; l < len(sets); l++ {
					compare(t, atomsText(sets[i], sets[j], sets[k], sets[l]))
					compare(t, atomsText(sets[l], sets[k], sets[j], sets[i]))
				}
			}
		}
	}
}

func atomsText(sets ...[]string) string {
	var atoms []string
	for i, set := range sets {
		terms := strings.Join(set, ",")
		if terms == "" {
			terms = "0"
		}
		atoms = append(atoms, string(rune('A'+i))+"("+terms+")")
	}
	return "():" + strings.Join(atoms, ",") + "."
}

func compare(t *testing.T, query string) {
	t.Helper()
	if got, want := check(query), oracleCheck(query); got != want {
		t.Fatalf("Check(%q) = %v, want %v", query, got, want)
	}
}

// Each good query with each byte at each place, in a byte's stead and between.
func TestP1AnyByte(t *testing.T) {
	for _, q := range goodQueries {
		for at := range len(q) + 1 {
			for b := range 256 {
				one := string([]byte{byte(b)})
				compare(t, q[:at]+one+q[at:])
				if at < len(q) {
					compare(t, q[:at]+one+q[at+1:])
				}
			}
		}
	}
}

func TestP1AnyText(t *testing.T) {
	random := rand.New(rand.NewPCG(1, 2))
	parts := []string{"(", ")", ",", ":", ".", " ", "\n", "x", "y", "z", "u", "v", "w", "ab", "R", "S", "T", "0", "12", "999",
		"1000", "01", "abcde", "Rabcd", "xY", "?", "\t", "\x00", "\xff", "é"}
	for range 20000 {
		var b strings.Builder
		for range random.IntN(30) {
			b.WriteString(parts[random.IntN(len(parts))])
		}
		compare(t, b.String())
	}
	for range 20000 {
		text := make([]byte, random.IntN(260))
		for i := range text {
			text[i] = byte(random.IntN(256))
		}
		compare(t, string(text))
	}
}

// Texts of the right form, with too much of this or that now and then.
func TestP3AnyQuery(t *testing.T) {
	random := rand.New(rand.NewPCG(3, 4))
	seen := map[estuary.Errno]int{}
	for range 60000 {
		q := randomQuery(random)
		compare(t, q)
		seen[check(q).err]++
	}
	for _, err := range []estuary.Errno{estuary.OK, estuary.ErrForm, estuary.ErrMany, estuary.ErrTwice,
		estuary.ErrName, estuary.ErrShape, estuary.ErrCyclic} {
		if seen[err] < 100 {
			t.Errorf("only %d of the texts have error %d", seen[err], err)
		}
	}
}

func randomQuery(random *rand.Rand) string {
	names := strings.Fields("a b c d e f g")[:2+random.IntN(6)]
	pick := func(from []string) string { return from[random.IntN(len(from))] }
	list := func(n int, one func() string) string {
		var all []string
		for range n {
			all = append(all, one())
		}
		return strings.Join(all, pick([]string{",", ", ", " ,\n"}))
	}
	term := func() string {
		if random.IntN(8) == 0 {
			return pick([]string{"0", "7", "999"})
		}
		return pick(names)
	}
	shapes := map[string]int{}
	atom := func() string {
		rel := pick([]string{"R", "S", "T", "U"})
		if shapes[rel] == 0 || random.IntN(20) == 0 {
			shapes[rel] = 1 + random.IntN(3)
			if random.IntN(20) == 0 {
				shapes[rel] = 4
			}
		}
		return rel + "(" + list(shapes[rel], term) + ")"
	}
	q := "(" + list(random.IntN(3), func() string { return pick(names) }) + ") : " + list(1+random.IntN(5), atom) + "."
	if random.IntN(10) == 0 {
		at := random.IntN(len(q))
		q = q[:at] + q[at+1:]
	}
	return q
}

// A long text is refused whatever it holds, and however long it is.
func TestP1LongText(t *testing.T) {
	for _, part := range []string{" ", "(", "x", "9", "\xff", "() : R(x). "} {
		for _, n := range []int{201, 202, 1000, 1 << 24} {
			text := strings.Repeat(part, n/len(part)+1)
			if got := check(text); got != (answer{estuary.ErrLong, 0}) {
				t.Errorf("Check of %d bytes = %v", len(text), got)
			}
		}
	}
}

// A text cut out of a longer one is judged by its own bytes.
func TestP2PieceOfALongerText(t *testing.T) {
	long := "((x) : R(x).) : R(x, y), S(y, z), T(z, x)."
	if got := check(long[1:12]); got != (answer{}) {
		t.Errorf("Check(%q) = %v, want OK", long[1:12], got)
	}
}

func TestP2ArgumentAlone(t *testing.T) {
	texts := append([]string{"", "(x, x)", "(y) : R(x).", "() : R(x), R(1, 2).", "() : R(1, 2, 3, 4).",
		"() : R(x, y), S(y, z), T(z, x).", strings.Repeat("x", 201)}, goodQueries...)
	first := map[string]answer{}
	for _, text := range texts {
		first[text] = oracleCheck(text)
	}
	var group sync.WaitGroup
	for g := range 8 {
		group.Go(func() {
			random := rand.New(rand.NewPCG(5, uint64(g)))
			for range 2000 {
				text := texts[random.IntN(len(texts))]
				if got := check(text); got != first[text] {
					t.Errorf("Check(%q) = %v, want %v", text, got, first[text])
					return
				}
			}
		})
	}
	group.Wait()
}

func FuzzP3(f *testing.F) {
	for _, q := range goodQueries {
		f.Add(q)
	}
	f.Fuzz(func(t *testing.T, query string) { compare(t, query) })
}
