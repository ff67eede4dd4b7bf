package estuary

const (
	maxName   = 4 // letters and digits of a var or a rel
	maxDigits = 3 // of a number
)

// kind is what a piece of a query's text can stand for.
type kind int

const (
	kindNone kind = iota // a word or a byte that no query has
	kindEnd
	kindVar
	kindRel
	kindNumber
	kindOpen
	kindClose
	kindComma
	kindColon
	kindStop
)

// piece is a word, a sign or the end of a text, and where it begins.
type piece struct {
	kind kind
	text string
	at   int
}

// nextPiece is the first piece of text at or behind from. The end is a piece
// too, at the text's length, so that a text that ends too early has its place.
func nextPiece(text string, from int) piece {
	at := skipBlanks(text, from)
	if at == len(text) {
		return piece{kind: kindEnd, at: at}
	}
	end := wordEnd(text, at)
	if end > at {
		word := text[at:end]
		return piece{kind: wordKind(word), text: word, at: at}
	}
	return piece{kind: signKind(text[at]), text: text[at : at+1], at: at}
}

func skipBlanks(text string, at int) int {
	for at < len(text) && (text[at] == ' ' || text[at] == '\n') {
		at++
	}
	return at
}

func wordEnd(text string, at int) int {
	for at < len(text) && (isLower(text[at]) || isUpper(text[at]) || isDigit(text[at])) {
		at++
	}
	return at
}

func signKind(sign byte) kind {
	switch sign {
	case '(':
		return kindOpen
	case ')':
		return kindClose
	case ',':
		return kindComma
	case ':':
		return kindColon
	case '.':
		return kindStop
	}
	return kindNone
}

// wordKind takes a word of at least one byte.
func wordKind(word string) kind {
	switch {
	case isNumber(word):
		return kindNumber
	case !isName(word):
		return kindNone
	case isLower(word[0]):
		return kindVar
	}
	return kindRel
}

func isNumber(word string) bool {
	if len(word) > maxDigits || (word[0] == '0' && len(word) > 1) {
		return false
	}
	for i := range len(word) {
		if !isDigit(word[i]) {
			return false
		}
	}
	return true
}

// smallNumber takes a word that isNumber: it has too few digits to be too great.
func smallNumber(word string) int {
	n := 0
	for i := range len(word) {
		n = 10*n + int(word[i]-'0')
	}
	return n
}

// isName tells whether a word is a var or a rel; which, its first letter tells.
func isName(word string) bool {
	if len(word) > maxName || isDigit(word[0]) {
		return false
	}
	for i := 1; i < len(word); i++ {
		if isUpper(word[i]) {
			return false
		}
	}
	return true
}

func isLower(c byte) bool { return 'a' <= c && c <= 'z' }

func isUpper(c byte) bool { return 'A' <= c && c <= 'Z' }

func isDigit(c byte) bool { return '0' <= c && c <= '9' }
