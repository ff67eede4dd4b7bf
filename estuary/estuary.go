// Package estuary keeps what queries are worth while rows come and go: see DOC.md.
package estuary

// Errno is what a call answers: OK or the reason for a refusal.
type Errno int

const (
	OK        Errno = 0
	ErrLong   Errno = 1 // above a bound
	ErrForm   Errno = 2 // no query
	ErrMany   Errno = 3 // too many atoms, terms, variables or rows
	ErrTwice  Errno = 4 // a variable twice in the head
	ErrName   Errno = 5 // a variable or relation that is nowhere
	ErrShape  Errno = 6 // another number of values
	ErrCyclic Errno = 7 // atoms that go round
	ErrRange  Errno = 8 // a value or number that may not be
)

// Row is values, and how often they are there.
type Row struct {
	Values []int
	By     int
}

// Check tells whether a text is a query, and if not, why and at which byte (P3).
func Check(query string) (Errno, int) {
	_, f := parse(query)
	return f.err, f.at
}
