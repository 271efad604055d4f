package stencil

import (
	"fmt"
	"reflect"
	"regexp"
	"slices"
	"strings"
	"testing"

	"tendril/api"
	"tendril/terms"
	"tendril/vtree"
)

// The calls keep the signatures that the chapter lists.
var (
	_ func(api.Node) (int, api.Errno)                     = Check
	_ func(api.Node, ...terms.Bind) (api.Node, api.Errno) = Render
)

var (
	fullText = strings.Repeat("v", api.MaxText)
	longText = fullText + "v"
)

// attrsOf makes attributes of names and values in turn, in the order of names.
func attrsOf(words ...string) []api.Attr {
	var out []api.Attr
	for i := 0; i < len(words); i += 2 {
		out = append(out, api.Attr{Name: words[i], Value: words[i+1]})
	}
	slices.SortFunc(out, func(a, b api.Attr) int { return strings.Compare(a.Name, b.Name) })
	return out
}

// node makes a node with attributes.
func node(tag string, words ...string) api.Node {
	return api.Node{Tag: tag, Attrs: attrsOf(words...)}
}

// over makes a node with children.
func over(n api.Node, kids ...api.Node) api.Node {
	n.Kids = kids
	return n
}

// chain makes a tree of that depth in which each node has one child.
func chain(depth int) api.Node {
	n := node("a")
	for range depth - 1 {
		n = over(node("a"), n)
	}
	return n
}

// wide makes a node with that many children.
func wide(kids int, kid api.Node) api.Node {
	return over(node("p"), slices.Repeat([]api.Node{kid}, kids)...)
}

// forests returns every list of trees with exactly n nodes in all, each of them one of the pool.
func forests(pool []api.Node, n int) [][]api.Node {
	if n == 0 {
		return [][]api.Node{nil}
	}
	var out [][]api.Node
	for first := 1; first <= n; first++ {
		rests := forests(pool, n-first)
		for _, tree := range trees(pool, first) {
			for _, rest := range rests {
				out = append(out, append([]api.Node{tree}, rest...))
			}
		}
	}
	return out
}

// trees returns every tree with exactly n nodes, each of them one of the pool.
func trees(pool []api.Node, n int) []api.Node {
	var out []api.Node
	for _, kids := range forests(pool, n-1) {
		for _, root := range pool {
			out = append(out, over(root, kids...))
		}
	}
	return out
}

// short prints the outer part of a tree, without its long strings.
func short(n api.Node) string {
	return outer(n, 4)
}

func outer(n api.Node, levels int) string {
	out := fmt.Sprintf("%.20q %.20q %.20q %.40q", n.Tag, n.Key, n.Text, n.Attrs[:min(len(n.Attrs), 6)])
	if len(n.Kids) > 6 || levels == 0 {
		return fmt.Sprintf("%s over %d", out, len(n.Kids))
	}
	for _, kid := range n.Kids {
		out += " (" + outer(kid, levels-1) + ")"
	}
	return out
}

// preorder lists the nodes of a tree by their numbers.
func preorder(n api.Node) []api.Node {
	out := []api.Node{n}
	for _, kid := range n.Kids {
		out = append(out, preorder(kid)...)
	}
	return out
}

var (
	slowName    = regexp.MustCompile(`^[a-z][a-z0-9:.-]{0,31}$`)
	slowDirects = regexp.MustCompile(`^x:(?:each|as|if|key|text|set:[a-z][a-z0-9:.-]*)$`)
)

// slowErrors returns the errors of the directives of a node, in the order of the chapter.
func slowErrors(n api.Node) []api.Errno {
	var names, forms []api.Errno
	loops := 0
	for _, a := range n.Attrs {
		if !strings.HasPrefix(a.Name, "x:") {
			continue
		}
		if a.Name == "x:each" || a.Name == "x:as" {
			loops++
		}
		if !slowDirects.MatchString(a.Name) || a.Name == "x:as" && !slowName.MatchString(a.Value) {
			names = append(names, api.ErrName)
		}
		if _, err := terms.Parse(a.Value); a.Name != "x:as" && err != api.OK {
			forms = append(forms, api.ErrForm)
		}
	}
	if loops == 1 {
		names = append(names, api.ErrName)
	}
	return append(names, forms...)
}

// slowCheck is Check by the words of the chapter.
func slowCheck(t api.Node) (int, api.Errno) {
	if at, err := vtree.Check(t); err != api.OK {
		return at, err
	}
	for number, n := range preorder(t) {
		if all := slowErrors(n); len(all) > 0 {
			return number, all[0]
		}
	}
	return 0, api.OK
}

// checkCheck compares the answer of Check, and of Render if it is an error.
func checkCheck(t *testing.T, n api.Node, want int, wantErr api.Errno) {
	t.Helper()
	if at, err := Check(n); at != want || err != wantErr {
		t.Errorf("Check(%s) = %d, %v; want %d, %v", short(n), at, err, want, wantErr)
	}
	if wantErr == api.OK {
		return
	}
	for _, env := range [][]terms.Bind{nil, {{Name: "a", Datum: api.Datum{Kind: 9}}}} {
		if out, err := Render(n, env...); !reflect.DeepEqual(out, api.Node{}) || err != wantErr {
			t.Errorf("Render(%s) = %s, %v; want %v", short(n), short(out), err, wantErr)
		}
	}
}

func TestCheckTakes(t *testing.T) { // 18.1
	for _, words := range [][]string{
		{}, {"a", "("}, {"x", "("}, {"xx", ""}, {"y:if", "("}, {"each", ""}, {"as", ""}, {"x-as", ""}, {"x.if", "("}, {"ax:if", "("}, {"x0:", ""},
		{"x:each", "1", "x:as", "r"}, {"x:each", "@rows.a", "x:as", "a.b:c-1"}, {"x:each", "(at @l 0)", "x:as", strings.Repeat("n", 32)}, {"x:if", "yes"}, {"x:key", "none"}, {"x:text", `"x"`},
		{"x:set:a", "@a"}, {"x:set:a:b.c-1", "(not yes)"}, {"x:set:x:each", "1"}, {"x:set:x:as", "1"}, {"x:set:x:set:a", "1"}, {"x:set:set", "1"}, {"x:set:" + strings.Repeat("n", 26), "1"}, {"a", "1", "x:set:a", "1", "x:set:b", "1"},
		{"x:as", "not", "x:each", "@a", "x:if", "@b", "x:key", "@c", "x:set:a", "@d", "x:text", "@e", "z", "@"},
	} {
		n := node("a", words...)
		for _, tree := range []api.Node{n, over(n, n, n), over(node("p"), over(n, n))} {
			checkCheck(t, tree, 0, api.OK)
		}
	}
	checkCheck(t, chain(64), 0, api.OK)
	checkCheck(t, wide(4095, node("a", "x:if", "@a")), 0, api.OK)
}

func TestCheckRefuses(t *testing.T) { // 18.1
	for _, c := range []struct {
		words []string
		err   api.Errno
	}{
		{[]string{"x:", "1"}, api.ErrName}, {[]string{"x:a", "1"}, api.ErrName}, {[]string{"x:iff", "1"}, api.ErrName}, {[]string{"x:i", "1"}, api.ErrName}, {[]string{"x:if:", "1"}, api.ErrName}, {[]string{"x:x:if", "1"}, api.ErrName}, {[]string{"x::if", "1"}, api.ErrName}, {[]string{"x:for", "1"}, api.ErrName},
		{[]string{"x:set", "1"}, api.ErrName}, {[]string{"x:set:", "1"}, api.ErrName}, {[]string{"x:set:1", "1"}, api.ErrName}, {[]string{"x:set:-a", "1"}, api.ErrName}, {[]string{"x:set::a", "1"}, api.ErrName}, {[]string{"x:set:.a", "1"}, api.ErrName}, {[]string{"x:seta", "1"}, api.ErrName}, {[]string{"x:set.a", "1"}, api.ErrName}, {[]string{"x:sets:a", "1"}, api.ErrName},
		{[]string{"x:each", "1"}, api.ErrName}, {[]string{"x:as", "a"}, api.ErrName}, {[]string{"x:as", "A", "x:each", "1"}, api.ErrName}, {[]string{"x:as", "", "x:each", "1"}, api.ErrName}, {[]string{"x:as", "1", "x:each", "1"}, api.ErrName}, {[]string{"x:as", "@a", "x:each", "1"}, api.ErrName}, {[]string{"x:as", "a b", "x:each", "1"}, api.ErrName}, {[]string{"x:as", strings.Repeat("n", 33), "x:each", "1"}, api.ErrName}, {[]string{"x:as", fullText, "x:each", "1"}, api.ErrName},
		{[]string{"x:as", "a", "x:eacho", "1"}, api.ErrName}, {[]string{"x:as", "a", "x:if", "1"}, api.ErrName}, {[]string{"x:each", "1", "x:set:x:as", "1"}, api.ErrName},
		{[]string{"x:as", "a", "x:each", ""}, api.ErrForm}, {[]string{"x:as", "a", "x:each", "a"}, api.ErrForm}, {[]string{"x:as", "a", "x:each", "[]"}, api.ErrForm}, {[]string{"x:if", "(no)"}, api.ErrForm}, {[]string{"x:if", "yes "}, api.ErrForm}, {[]string{"x:key", "@A"}, api.ErrForm}, {[]string{"x:text", "text"}, api.ErrForm}, {[]string{"x:text", `"x`}, api.ErrForm}, {[]string{"x:set:a", "(not)"}, api.ErrForm}, {[]string{"x:set:x:as", "a"}, api.ErrForm}, {[]string{"x:set:a", "1", "x:set:b", "@"}, api.ErrForm}, {[]string{"x:set:b", "1", "x:set:a", fullText}, api.ErrForm}, {[]string{"x:set:a", "[1]"}, api.ErrForm},
		// A name counts ahead of a term, wherever they stand.
		{[]string{"x:if", "(", "x:z", "1"}, api.ErrName}, {[]string{"x:a", "1", "x:if", "("}, api.ErrName}, {[]string{"x:each", "("}, api.ErrName}, {[]string{"x:as", "", "x:each", "("}, api.ErrName}, {[]string{"x:as", "a", "x:key", "("}, api.ErrName}, {[]string{"x:key", "(", "x:set:1", "1"}, api.ErrName}, {[]string{"x:a", "("}, api.ErrName},
	} {
		n := node("a", c.words...)
		checkCheck(t, n, 0, c.err)
		// Its number is that of preorder, wherever it stands.
		fine := node("b", "x:if", "yes")
		checkCheck(t, over(fine, n), 1, c.err)
		checkCheck(t, over(fine, fine, n, fine), 2, c.err)
		checkCheck(t, over(fine, over(fine, fine, fine), n), 4, c.err)
		checkCheck(t, over(fine, over(fine, over(fine, n)), fine), 3, c.err)
		checkCheck(t, over(n, n), 0, c.err)
		// The first node counts, whatever its error is.
		for _, other := range [][]string{{"x:a", "1"}, {"x:if", "("}} {
			checkCheck(t, over(fine, fine, over(n, node("a", other...)), node("a", other...)), 2, c.err)
		}
		// Errors of the tree count ahead, wherever they are.
		checkCheck(t, over(n, fine, node("A")), 2, api.ErrTag)
		checkCheck(t, over(fine, n, api.Node{Tag: "a", Key: "k"}, api.Node{Tag: "a", Key: "k"}), 3, api.ErrTwice)
	}
	checkCheck(t, node("a", "x:set:"+strings.Repeat("n", 27), "("), 0, api.ErrName)
	checkCheck(t, over(node("a", "x:if", "("), node("a", "x:set:A", "1")), 1, api.ErrName)
	checkCheck(t, over(node("a", "x:if", "("), node("a", "x:if", longText)), 1, api.ErrLong)
	checkCheck(t, over(node("a", "x:if", "("), api.Node{Tag: "a", Attrs: []api.Attr{{Name: "x:if", Value: "1"}, {Name: "x:if", Value: "1"}}}), 1, api.ErrTwice)
	checkCheck(t, api.Node{Tag: "a", Attrs: []api.Attr{{Name: "x:if", Value: "("}, {Name: "x:as", Value: "1"}}}, 0, api.ErrOrder)
	checkCheck(t, over(node("a", "x:if", "("), chain(64)), 64, api.ErrDeep)
	checkCheck(t, wide(4096, node("a", "x:if", "(")), 4096, api.ErrMany)
	checkCheck(t, over(wide(4094, node("a", "x:if", "1")), append(wide(4094, node("a", "x:if", "1")).Kids, node("a", "x:a", "1"))...), 4095, api.ErrName)
	checkCheck(t, api.Node{}, 0, api.ErrTag)
}

func TestCheckEveryNode(t *testing.T) { // 18.1
	// Every node with up to three of these attributes.
	names := []string{"a", "x", "x:", "x:as", "x:each", "x:if", "x:key", "x:keys", "x:set", "x:set:", "x:set:0", "x:set:a", "x:text", "y"}
	values := []string{"", "a", "1", "@a"}
	tried := 0
	var extend func(words []string, from, left int)
	extend = func(words []string, from, left int) {
		n := node("a", words...)
		at, err := slowCheck(n)
		checkCheck(t, n, at, err)
		tried++
		for i := from; i < len(names) && left > 0; i++ {
			for _, value := range values {
				extend(append(slices.Clone(words), names[i], value), i+1, left-1)
			}
		}
	}
	extend(nil, 0, 3)
	if tried != 1+14*4+91*16+364*64 {
		t.Errorf("%d nodes were tried", tried)
	}
}

func TestCheckEveryTree(t *testing.T) { // 18.1
	pool := []api.Node{node("a"), node("a", "x:if", "1"), node("a", "x:if", "("), node("a", "x:a", "1"), node("A"), {Tag: "a", Key: "k"}}
	for n := range 4 {
		for _, tree := range trees(pool, n+1) {
			at, err := slowCheck(tree)
			checkCheck(t, tree, at, err)
		}
	}
}

func TestCheckHuge(t *testing.T) { // R1
	ring := make([]api.Node, 2)
	for i := range ring {
		ring[i] = over(node("a", "x:if", "("), ring...)
	}
	checkCheck(t, ring[0], 64, api.ErrDeep)
	checkCheck(t, chain(1<<16), 64, api.ErrDeep)
	checkCheck(t, wide(1<<20, node("a")), 4096, api.ErrMany)
	checkCheck(t, api.Node{Tag: "a", Attrs: make([]api.Attr, 1<<20)}, 0, api.ErrName)
	checkCheck(t, node("a", "x:if", strings.Repeat("(", 1<<26)), 0, api.ErrLong)
	// As many directives as there can be, each with a long term.
	long := "(and" + strings.Repeat(" (or @a no)", 3) + ")"
	n := node("a")
	for i := range 64 {
		n.Attrs = append(n.Attrs, api.Attr{Name: fmt.Sprintf("x:set:a%02d", i), Value: long})
	}
	checkCheck(t, wide(4095, n), 0, api.OK)
}
