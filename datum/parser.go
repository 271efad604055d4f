package datum

import (
	"strings"

	"tendril/api"
	"tendril/chars"
	"tendril/escape"
)

const (
	noneText = "none"
	noText   = "no"
	yesText  = "yes"
)

const (
	quote       = '"'
	listOpen    = '['
	listClose   = ']'
	recordOpen  = '{'
	recordClose = '}'
	comma       = ','
	equals      = '='
)

// token is what a value begins with; the parser's other pieces are single bytes and names.
type token interface {
	// size returns how many bytes the token takes.
	size() int
}

type (
	word   string   // a run of letters
	digits string   // a run of - and digits
	mark   byte     // any other byte
	ending struct{} // the end of the text
)

func (t word) size() int   { return len(t) }
func (t digits) size() int { return len(t) }
func (t mark) size() int   { return 1 }
func (t ending) size() int { return 0 }

// parser reads the pieces of the text of a value one after the other, up to the first error.
type parser struct {
	s      string
	at     int // the index of the next piece, or of the error
	open   int // how many lists and records are open
	values int // how many values have begun
	err    api.Errno
}

// value reads a value, and reports whether there is one.
func (p *parser) value() (api.Datum, bool) {
	p.values++
	start, d, ok := p.at, api.Datum{}, false
	switch t := p.next().(type) {
	case word:
		d, ok = constant(string(t))
	case digits:
		d.Kind = api.Number
		d.Num, ok = chars.Whole(string(t))
	case mark:
		switch t {
		case quote:
			return p.text()
		case listOpen, recordOpen:
			return p.group(start, t == recordOpen)
		}
	}
	if !ok {
		return p.fail(start, api.ErrForm)
	}
	return d, true
}

// next reads the token that a value begins with.
func (p *parser) next() token {
	t := tokenOf(p.s[p.at:])
	p.at += t.size()
	return t
}

// tokenOf returns the first token of s.
func tokenOf(s string) token {
	switch {
	case s == "":
		return ending{}
	case isLetter(s[0]):
		return word(run(s, isLetter))
	case inNumber(s[0]):
		return digits(run(s, inNumber))
	}
	return mark(s[0])
}

// constant returns the value that is written as a word.
func constant(s string) (api.Datum, bool) {
	switch s {
	case noneText:
		return api.Datum{}, true
	case noText:
		return api.Datum{Kind: api.Truth}, true
	case yesText:
		return api.Datum{Kind: api.Truth, Num: 1}, true
	}
	return api.Datum{}, false
}

// text reads a text behind its first quote.
func (p *parser) text() (api.Datum, bool) {
	size := escape.Span(p.s, p.at)
	plain, at, err := escape.Unescape(p.s[p.at : p.at+size])
	if err != api.OK {
		return p.fail(p.at+at, api.ErrForm)
	}
	p.at += size
	if !p.take(quote) {
		return p.fail(p.at, api.ErrForm)
	}
	return api.Datum{Kind: api.Text, Text: plain}, true
}

// group reads a list or a record behind its bracket, which stands at start.
func (p *parser) group(start int, isRecord bool) (api.Datum, bool) {
	if p.open == api.MaxNest {
		return p.fail(start, api.ErrDeep)
	}
	d, closing := api.Datum{Kind: api.List}, byte(listClose)
	if isRecord {
		d.Kind, closing = api.Record, recordClose
	}
	p.open++
	if !p.within(&d, closing) {
		return api.Datum{}, false
	}
	p.open--
	return d, true
}

// within reads what is within a list or a record, and the closing bracket.
func (p *parser) within(d *api.Datum, closing byte) bool {
	if p.take(closing) {
		return true
	}
	for p.element(d) {
		if p.take(closing) {
			return true
		}
		if !p.need(comma) {
			return false
		}
	}
	return false
}

// element reads an element of a list, or a name of a record and its value.
func (p *parser) element(d *api.Datum) bool {
	var names []string
	if d.Kind == api.Record {
		name, ok := p.name()
		if !ok || !p.need(equals) {
			return false
		}
		names = []string{name}
	}
	x, ok := p.value()
	// With too many values none of them is returned, and all of them together might not fit into memory.
	if ok && p.values <= api.MaxData {
		d.Names = append(d.Names, names...)
		d.List = append(d.List, x)
	}
	return ok
}

// name reads a name of a record, and reports whether there is one.
func (p *parser) name() (string, bool) {
	name := run(p.s[p.at:], inName)
	if !chars.Name(name) {
		p.fail(p.at, api.ErrForm)
		return "", false
	}
	p.at += len(name)
	// A part of s would keep all of s in memory.
	return strings.Clone(name), true
}

// take reads a byte if it is the next one, and reports whether it is.
func (p *parser) take(c byte) bool {
	if p.at == len(p.s) || p.s[p.at] != c {
		return false
	}
	p.at++
	return true
}

// need reads a byte that must be the next one.
func (p *parser) need(c byte) bool {
	if p.take(c) {
		return true
	}
	p.fail(p.at, api.ErrForm)
	return false
}

// fail keeps the error and its index; it returns what stands for no value.
func (p *parser) fail(at int, err api.Errno) (api.Datum, bool) {
	p.at, p.err = at, err
	return api.Datum{}, false
}

// run returns the longest prefix of s with such bytes only.
func run(s string, belongs func(c byte) bool) string {
	for i := range len(s) {
		if !belongs(s[i]) {
			return s[:i]
		}
	}
	return s
}

func isLetter(c byte) bool {
	return 'a' <= c && c <= 'z'
}

func inNumber(c byte) bool {
	return '0' <= c && c <= '9' || c == '-'
}

func inName(c byte) bool {
	return isLetter(c) || inNumber(c) || c == ':' || c == '.'
}
