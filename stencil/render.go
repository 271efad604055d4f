package stencil

import (
	"slices"
	"strings"

	"tendril/api"
	"tendril/chars"
	"tendril/terms"
)

// renderer renders the nodes of a stencil, up to the first error.
type renderer struct {
	binds    map[string]api.Datum // the values of the last bind of each name
	rendered int                  // how many nodes have been rendered
}

// render returns the nodes that a stencil yields.
func render(t api.Node, env []terms.Bind) ([]api.Node, api.Errno) {
	r := renderer{binds: map[string]api.Datum{}}
	for _, b := range env {
		r.binds[b.Name] = b.Datum
	}
	return r.all([]api.Node{t})
}

// all returns what nodes yield, in order.
func (r *renderer) all(nodes []api.Node) ([]api.Node, api.Errno) {
	var out []api.Node
	collect := func(n api.Node) { out = append(out, n) }
	for _, n := range nodes {
		if err := r.node(n, collect); err != api.OK {
			return nil, err
		}
	}
	return out, api.OK
}

// node renders a node, for each element if it has x:each, and collects what it yields.
func (r *renderer) node(n api.Node, collect func(n api.Node)) api.Errno {
	found := directivesOf(n)
	each, repeated := found[eachName]
	if !repeated {
		return r.once(n, found, collect)
	}
	list, err := r.value(each, api.List)
	if err != api.OK {
		return err
	}
	as := found[asName].Value
	outer, bound := r.binds[as]
	for _, x := range list.List {
		r.binds[as] = x
		if err := r.once(n, found, collect); err != api.OK {
			return err
		}
	}
	if bound {
		r.binds[as] = outer
	} else {
		delete(r.binds, as)
	}
	return api.OK
}

// once renders a node as if it had no x:each.
func (r *renderer) once(n api.Node, found directives, collect func(n api.Node)) api.Errno {
	r.rendered++
	if r.rendered > api.MaxNodes {
		return api.ErrMany
	}
	if shown, err := r.isShown(found); err != api.OK || !shown {
		return err
	}
	out, err := api.Node{Tag: n.Tag}, api.OK
	if out.Key, err = r.textOr(found, keyName, n.Key); err != api.OK {
		return err
	}
	if out.Text, err = r.textOr(found, textName, n.Text); err != api.OK {
		return err
	}
	if out.Attrs, err = r.attributes(n.Attrs); err != api.OK {
		return err
	}
	if out.Kids, err = r.all(n.Kids); err != api.OK {
		return err
	}
	collect(out)
	return api.OK
}

// isShown reports whether a node with these directives yields one.
func (r *renderer) isShown(found directives) (bool, api.Errno) {
	condition, conditional := found[ifName]
	if !conditional {
		return true, api.OK
	}
	d, err := r.value(condition, api.Truth)
	return d.Num == 1, err
}

// textOr returns the text of the result of a directive, or the plain text if there is no such directive.
func (r *renderer) textOr(found directives, name, plain string) (string, api.Errno) {
	a, replaced := found[name]
	if !replaced {
		return plain, api.OK
	}
	d, err := r.result(a)
	if err != api.OK {
		return "", err
	}
	return textOf(d)
}

// attributes returns the plain attributes of a list and those that its directives set.
func (r *renderer) attributes(l []api.Attr) ([]api.Attr, api.Errno) {
	out := slices.DeleteFunc(slices.Clone(l), func(a api.Attr) bool { return isReserved(a.Name) })
	for _, a := range l {
		name, sets := strings.CutPrefix(a.Name, setPrefix)
		if !sets {
			continue
		}
		d, err := r.result(a)
		if err != api.OK {
			return nil, err
		}
		if d.Kind == api.None {
			continue
		}
		text, err := textOf(d)
		if err != api.OK {
			return nil, err
		}
		out = with(out, api.Attr{Name: name, Value: text})
	}
	return out, api.OK
}

// value returns the result of a directive, which must be of that Kind.
func (r *renderer) value(a api.Attr, kind int) (api.Datum, api.Errno) {
	d, err := r.result(a)
	if err == api.OK && d.Kind != kind {
		return api.Datum{}, api.ErrType
	}
	return d, err
}

// result evaluates the term of a directive. Terms are parsed again whenever they are needed, since all
// those of a stencil together might not fit into memory.
func (r *renderer) result(a api.Attr) (api.Datum, api.Errno) {
	t, err := terms.Parse(a.Value)
	if err != api.OK {
		return api.Datum{}, err
	}
	return terms.Eval(t, r.needed(t)...)
}

// needed returns the binds of the names in a term. Eval checks each value that it is given, so all of the
// environment would be gone through for each directive.
func (r *renderer) needed(t terms.Term) []terms.Bind {
	var out []terms.Bind
	known := map[string]struct{}{}
	var visit func(t terms.Term)
	visit = func(t terms.Term) {
		if len(t.Path) > 0 {
			name := t.Path[0]
			d, bound := r.binds[name]
			if _, again := known[name]; bound && !again {
				known[name] = struct{}{}
				out = append(out, terms.Bind{Name: name, Datum: d})
			}
		}
		for _, kid := range t.Kids {
			visit(kid)
		}
	}
	visit(t)
	return out
}

// textOf returns what cat makes of a value.
func textOf(d api.Datum) (string, api.Errno) {
	value := terms.Term{Op: "@", Path: []string{"value"}}
	out, err := terms.Eval(terms.Term{Op: "cat", Kids: []terms.Term{value}}, terms.Bind{Name: "value", Datum: d})
	return out.Text, err
}

// with returns a list, in the order of names, with that attribute in place of one of the same name.
func with(l []api.Attr, a api.Attr) []api.Attr {
	at, found := slices.BinarySearchFunc(l, a, func(b, a api.Attr) int { return chars.Compare(b.Name, a.Name) })
	if found {
		l[at] = a
		return l
	}
	return slices.Insert(l, at, a)
}
