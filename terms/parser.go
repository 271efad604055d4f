package terms

import (
	"strings"

	"tendril/api"
	"tendril/datum"
)

const (
	quote = `"`
	// ends is what follows a term within a call.
	ends = " )"
)

// Parse returns the valid term whose text is s.
func Parse(s string) (Term, api.Errno) {
	p := parser{rest: s}
	t, ok := p.term()
	if !ok || p.rest != "" || !Right(t) {
		return Term{}, api.ErrForm
	}
	return t, api.OK
}

// parser reads terms one after the other, only so many that their nesting is limited as well. Whether what
// it reads is valid is left to Right.
type parser struct {
	rest  string // what has not been read
	terms int    // how many terms have begun
}

// term reads a term, and reports whether there is one.
func (p *parser) term() (Term, bool) {
	p.terms++
	if p.terms > api.MaxData {
		return Term{}, false
	}
	switch {
	case p.take(callOpen):
		return p.call()
	case strings.HasPrefix(p.rest, pathOp):
		return p.path(), true
	}
	return p.constant()
}

// call reads a call behind its parenthesis.
func (p *parser) call() (Term, bool) {
	op, known := find(p.word())
	if !known {
		return Term{}, false
	}
	t := Term{Op: op.name}
	for p.take(space) {
		kid, ok := p.term()
		if !ok {
			return Term{}, false
		}
		t.Kids = append(t.Kids, kid)
	}
	return t, p.take(callClose)
}

// path reads a path.
func (p *parser) path() Term {
	names := strings.TrimPrefix(p.word(), pathOp)
	// One name more than a path may have is enough to see that there are too many.
	t := Term{Op: pathOp, Path: strings.SplitN(names, period, api.MaxNest+1)}
	for i, name := range t.Path {
		// A part of the text would keep all of it in memory.
		t.Path[i] = strings.Clone(name)
	}
	return t
}

// constant reads a value.
func (p *parser) constant() (Term, bool) {
	read := p.word
	if strings.HasPrefix(p.rest, quote) {
		read = p.quoted
	}
	d, _, err := datum.Parse(read())
	return Term{Datum: d}, err == api.OK
}

// word reads all up to the next end of a term.
func (p *parser) word() string {
	return p.cut(strings.IndexAny(p.rest, ends))
}

// quoted reads all from a quote to the next one, which no escaped text contains.
func (p *parser) quoted() string {
	size := strings.Index(p.rest[len(quote):], quote)
	if size < 0 {
		return p.cut(size)
	}
	return p.cut(size + 2*len(quote))
}

// cut reads so many bytes, or all if it is a negative number.
func (p *parser) cut(size int) string {
	if size < 0 {
		size = len(p.rest)
	}
	s := p.rest[:size]
	p.rest = p.rest[size:]
	return s
}

// take reads a byte if it is the next one, and reports whether it is.
func (p *parser) take(c byte) bool {
	if p.rest == "" || p.rest[0] != c {
		return false
	}
	p.rest = p.rest[1:]
	return true
}
