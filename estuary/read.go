package estuary

// reader goes through a text from the left. Its read methods answer false at
// the first fault and leave it in fault: nothing behind that one counts.
type reader struct {
	text  string
	now   piece
	query query
	fault fault
}

func (r *reader) readQuery() bool {
	return r.readHead() && r.want(kindColon) && r.readAtoms() && r.want(kindStop) && r.want(kindEnd)
}

func (r *reader) readHead() bool {
	if !r.want(kindOpen) {
		return false
	}
	if r.take(kindClose) {
		return true
	}
	return r.readList(r.readHeadVar) && r.want(kindClose)
}

// readHeadVar asks for a var twice ahead of one too many, as P3 names them.
func (r *reader) readHeadVar() bool {
	v := r.now
	if !r.want(kindVar) {
		return false
	}
	if r.query.headHas(v.text) {
		return r.fail(ErrTwice, v.at)
	}
	if len(r.query.head) == maxVars {
		return r.fail(ErrMany, v.at)
	}
	r.query.head = append(r.query.head, v)
	return true
}

func (r *reader) readAtoms() bool {
	return r.readList(r.readAtom)
}

func (r *reader) readAtom() bool {
	rel := r.now
	if !r.want(kindRel) {
		return false
	}
	if len(r.query.atoms) == maxAtoms {
		return r.fail(ErrMany, rel.at)
	}
	a := atom{rel: rel.text}
	if !r.want(kindOpen) || !r.readTerms(&a) || !r.want(kindClose) {
		return false
	}
	if r.query.hasOtherShape(a) {
		return r.fail(ErrShape, rel.at)
	}
	r.query.atoms = append(r.query.atoms, a)
	return true
}

func (r *reader) readTerms(a *atom) bool {
	return r.readList(func() bool { return r.readTerm(a) })
}

// readTerm looks at the number of terms ahead of what stands there, because a
// term too many is told whatever it is.
func (r *reader) readTerm(a *atom) bool {
	if len(a.terms) == maxTerms {
		return r.fail(ErrMany, r.now.at)
	}
	word := r.now.text
	if r.take(kindNumber) {
		a.terms = append(a.terms, term{number: smallNumber(word)})
		return true
	}
	return r.readAtomVar(a)
}

func (r *reader) readAtomVar(a *atom) bool {
	v := r.now
	if !r.want(kindVar) {
		return false
	}
	number := r.query.varNumber(v.text)
	if number < 0 {
		number = len(r.query.vars)
		if number == maxVars {
			return r.fail(ErrMany, v.at)
		}
		r.query.vars = append(r.query.vars, v.text)
	}
	a.terms = append(a.terms, term{isVar: true, number: number})
	a.vars |= 1 << number
	return true
}

// readList reads one thing or more, with commas between them.
func (r *reader) readList(readOne func() bool) bool {
	for readOne() {
		if !r.take(kindComma) {
			return true
		}
	}
	return false
}

// want goes past a piece of kind k; that another stands there is a fault.
func (r *reader) want(k kind) bool {
	return r.take(k) || r.fail(ErrForm, r.now.at)
}

// take goes past a piece of kind k, if one stands there.
func (r *reader) take(k kind) bool {
	if r.now.kind != k {
		return false
	}
	r.now = nextPiece(r.text, r.now.at+len(r.now.text))
	return true
}

// fail answers false, so that a read method can end with it.
func (r *reader) fail(err Errno, at int) bool {
	r.fault = fault{err: err, at: at}
	return false
}
