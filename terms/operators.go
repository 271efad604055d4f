package terms

import (
	"strings"

	"tendril/api"
	"tendril/chars"
	"tendril/datum"
)

const (
	no  = 0
	yes = 1
)

// few is the greatest number of kids of the operators that take any number of them.
const few = 9

// operator is the name of an operator, how many kids its calls have, and what they evaluate to: either a
// function of the values of all kids, or one of the kids that evaluates only some of them.
type operator struct {
	name        string
	least, most int
	ofValues    func(values []api.Datum) (api.Datum, api.Errno)
	ofKids      func(kids []Term, value evaluator) (api.Datum, api.Errno)
}

// evaluator returns the value of a term.
type evaluator func(t Term) (api.Datum, api.Errno)

// operators returns the table of all operators.
func operators() [11]operator {
	return [...]operator{
		{name: "not", least: 1, most: 1, ofValues: not},
		{name: "and", least: 2, most: few, ofKids: and},
		{name: "or", least: 2, most: few, ofKids: or},
		{name: "eq", least: 2, most: 2, ofValues: equal},
		{name: "less", least: 2, most: 2, ofValues: less},
		{name: "add", least: 2, most: few, ofValues: add},
		{name: "sub", least: 2, most: 2, ofValues: subtract},
		{name: "cat", least: 1, most: few, ofValues: concatenate},
		{name: "size", least: 1, most: 1, ofValues: size},
		{name: "at", least: 2, most: 2, ofValues: at},
		{name: "if", least: 3, most: 3, ofKids: choose},
	}
}

// find returns the operator of that name, and whether there is one.
func find(name string) (operator, bool) {
	for _, op := range operators() {
		if op.name == name {
			return op, true
		}
	}
	return operator{}, false
}

func and(kids []Term, value evaluator) (api.Datum, api.Errno) {
	return upTo(no, kids, value)
}

func or(kids []Term, value evaluator) (api.Datum, api.Errno) {
	return upTo(yes, kids, value)
}

// upTo evaluates kids up to the first one with that Truth.
func upTo(last int, kids []Term, value evaluator) (api.Datum, api.Errno) {
	var d api.Datum
	var err api.Errno
	for _, kid := range kids {
		d, err = truthOf(kid, value)
		if err != api.OK || d.Num == last {
			break
		}
	}
	return d, err
}

// choose evaluates the second kid or the third one, as the first one says.
func choose(kids []Term, value evaluator) (api.Datum, api.Errno) {
	d, err := truthOf(kids[0], value)
	if err != api.OK {
		return api.Datum{}, err
	}
	if d.Num == yes {
		return value(kids[1])
	}
	return value(kids[2])
}

// truthOf returns the value of a term that must be a Truth.
func truthOf(t Term, value evaluator) (api.Datum, api.Errno) {
	d, err := value(t)
	if err == api.OK && d.Kind != api.Truth {
		err = api.ErrType
	}
	return d, err
}

func not(values []api.Datum) (api.Datum, api.Errno) {
	if values[0].Kind != api.Truth {
		return api.Datum{}, api.ErrType
	}
	return truth(values[0].Num == no)
}

func equal(values []api.Datum) (api.Datum, api.Errno) {
	return truth(datum.Compare(values[0], values[1]) == 0)
}

func less(values []api.Datum) (api.Datum, api.Errno) {
	return truth(datum.Compare(values[0], values[1]) < 0)
}

func add(values []api.Datum) (api.Datum, api.Errno) {
	if !areNumbers(values) {
		return api.Datum{}, api.ErrType
	}
	sum := 0
	for _, d := range values {
		before := sum
		sum += d.Num
		// A sum that has wrapped around is on the wrong side.
		if (sum > before) != (d.Num > 0) {
			return api.Datum{}, api.ErrRange
		}
	}
	return number(sum)
}

func subtract(values []api.Datum) (api.Datum, api.Errno) {
	if !areNumbers(values) {
		return api.Datum{}, api.ErrType
	}
	a, b := values[0].Num, values[1].Num
	rest := a - b
	if (rest < a) != (b > 0) {
		return api.Datum{}, api.ErrRange
	}
	return number(rest)
}

func concatenate(values []api.Datum) (api.Datum, api.Errno) {
	var out strings.Builder
	for _, d := range values {
		s, ok := textOf(d)
		if !ok {
			return api.Datum{}, api.ErrType
		}
		out.WriteString(s)
	}
	if !chars.Fits(out.String()) {
		return api.Datum{}, api.ErrLong
	}
	return api.Datum{Kind: api.Text, Text: out.String()}, api.OK
}

func size(values []api.Datum) (api.Datum, api.Errno) {
	switch d := values[0]; d.Kind {
	case api.Text:
		return number(len(d.Text))
	case api.List, api.Record:
		return number(len(d.List))
	}
	return api.Datum{}, api.ErrType
}

func at(values []api.Datum) (api.Datum, api.Errno) {
	whole, part := values[0], values[1]
	switch {
	case whole.Kind == api.List && part.Kind == api.Number:
		if part.Num < 0 || part.Num >= len(whole.List) {
			return api.Datum{}, api.OK
		}
		return whole.List[part.Num], api.OK
	case whole.Kind == api.Record && part.Kind == api.Text:
		d, _ := datum.Get(whole, part.Text)
		return d, api.OK
	}
	return api.Datum{}, api.ErrType
}

// textOf returns the text of a value as cat has it, and whether there is one.
func textOf(d api.Datum) (string, bool) {
	switch d.Kind {
	case api.None:
		// It has the empty Text.
		fallthrough
	case api.Text:
		return d.Text, true
	case api.Truth:
		// As constants, both are written as their texts.
		fallthrough
	case api.Number:
		s, err := datum.Print(d)
		return s, err == api.OK
	}
	return "", false
}

func areNumbers(values []api.Datum) bool {
	for _, d := range values {
		if d.Kind != api.Number {
			return false
		}
	}
	return true
}

func truth(is bool) (api.Datum, api.Errno) {
	d := api.Datum{Kind: api.Truth, Num: no}
	if is {
		d.Num = yes
	}
	return d, api.OK
}

func number(n int) (api.Datum, api.Errno) {
	return api.Datum{Kind: api.Number, Num: n}, api.OK
}
