package terms

import (
	"slices"

	"tendril/api"
	"tendril/datum"
)

// Eval returns the value of t in an environment.
func Eval(t Term, env ...Bind) (api.Datum, api.Errno) {
	if !Right(t) {
		return api.Datum{}, api.ErrForm
	}
	known := binds{}
	for _, b := range env {
		if !datum.Right(b.Datum) {
			return api.Datum{}, api.ErrType
		}
		known[b.Name] = b.Datum
	}
	d, err := known.value(t)
	if err != api.OK {
		return api.Datum{}, err
	}
	return duplicate(d), api.OK
}

// binds is the value of the last bind of each name.
type binds map[string]api.Datum

// value evaluates a term that is valid; the result may share memory with the binds.
func (b binds) value(t Term) (api.Datum, api.Errno) {
	switch t.Op {
	case "":
		return t.Datum, api.OK
	case pathOp:
		return b.follow(t.Path)
	}
	op, _ := find(t.Op)
	if op.ofKids != nil {
		return op.ofKids(t.Kids, b.value)
	}
	values := make([]api.Datum, len(t.Kids))
	for i, kid := range t.Kids {
		d, err := b.value(kid)
		if err != api.OK {
			return api.Datum{}, err
		}
		values[i] = d
	}
	return op.ofValues(values)
}

// follow returns the value that a path leads to.
func (b binds) follow(path []string) (api.Datum, api.Errno) {
	d, ok := b[path[0]]
	for _, name := range path[1:] {
		// Where there is no value, None stands for it, which has no names.
		d, ok = datum.Get(d, name)
	}
	if !ok {
		return api.Datum{}, api.ErrNone
	}
	return d, api.OK
}

// duplicate copies a value that is valid, so of limited nesting.
func duplicate(d api.Datum) api.Datum {
	out := d
	out.Names = slices.Clone(d.Names)
	out.List = slices.Clone(d.List)
	for i, x := range d.List {
		out.List[i] = duplicate(x)
	}
	return out
}
