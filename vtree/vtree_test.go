package vtree

import (
	"fmt"
	"reflect"
	"slices"
	"strings"
	"testing"

	"tendril/api"
)

// The calls keep the signatures that the chapter lists.
var (
	_ func(api.Node) (int, api.Errno) = Check
	_ func(api.Node) int              = Size
	_ func(api.Node) int              = Depth
	_ func(api.Node, api.Node) bool   = Same
	_ func(api.Node) (api.Node, bool) = Copy
)

var (
	fullText = strings.Repeat("v", api.MaxText)
	longText = fullText + "v"
	fullTag  = strings.Repeat("t", api.MaxTag)
	longTag  = fullTag + "t"
)

// node makes a node without a key.
func node(tag string, kids ...api.Node) api.Node {
	return api.Node{Tag: tag, Kids: kids}
}

// keyed makes a node with a key.
func keyed(tag, key string, kids ...api.Node) api.Node {
	return api.Node{Tag: tag, Key: key, Kids: kids}
}

// attr makes a node with attributes without values.
func attr(names ...string) api.Node {
	n := node("a")
	for _, name := range names {
		n.Attrs = append(n.Attrs, api.Attr{Name: name})
	}
	return n
}

// chain makes a tree of that depth in which each node has one child.
func chain(depth int) api.Node {
	n := node("a")
	for range depth - 1 {
		n = node("a", n)
	}
	return n
}

// wide makes a node with that many children.
func wide(kids int) api.Node {
	n := node("p", make([]api.Node, kids)...)
	for i := range n.Kids {
		n.Kids[i].Tag = "b"
	}
	return n
}

// manyAttrs returns n attributes whose names are valid and increase.
func manyAttrs(n int) []api.Attr {
	var out []api.Attr
	for i := range n {
		out = append(out, api.Attr{Name: fmt.Sprintf("n%03d", i)})
	}
	return out
}

// forests returns every list of trees with exactly n nodes in all, each of them one of the pool.
func forests(pool []api.Node, n int) [][]api.Node {
	if n == 0 {
		return [][]api.Node{nil}
	}
	var out [][]api.Node
	for first := 1; first <= n; first++ {
		rests := forests(pool, n-first)
		for _, tree := range trees(pool, first) {
			for _, rest := range rests {
				out = append(out, append([]api.Node{tree}, rest...))
			}
		}
	}
	return out
}

// trees returns every tree with exactly n nodes, each of them one of the pool.
func trees(pool []api.Node, n int) []api.Node {
	var out []api.Node
	for _, kids := range forests(pool, n-1) {
		for _, root := range pool {
			root.Kids = kids
			out = append(out, root)
		}
	}
	return out
}

// pool is small nodes, most of them with an error, or with one among siblings.
func pool() []api.Node {
	return []api.Node{
		node("a"), keyed("a", "k"), keyed("b", "k"), keyed("b", "a"), node("A"), keyed("", "k"),
		{Tag: "a", Key: "k", Text: longText}, {Tag: "a", Text: "x", Attrs: attr("n").Attrs}, {Tag: "b", Key: "k", Attrs: attr("b", "a").Attrs},
	}
}

// smallTrees are all trees of at most four nodes of the pool.
func smallTrees() []api.Node {
	var out []api.Node
	for n := range 4 {
		out = append(out, trees(pool(), n+1)...)
	}
	return out
}

// validTrees are all valid trees of at most four nodes, of all shapes.
func validTrees() []api.Node {
	valid := []api.Node{node("a"), keyed("a", "k"), keyed("b", "m"), {Tag: "b", Key: "k", Text: "x", Attrs: attr("a", "b").Attrs}}
	var out []api.Node
	for n := range 4 {
		out = append(out, trees(valid, n+1)...)
	}
	return slices.DeleteFunc(out, func(n api.Node) bool {
		_, err := slowCheck(n)
		return err != api.OK
	})
}

// short prints the outer part of a tree, without its long strings.
func short(n api.Node) string {
	return outer(n, 4)
}

func outer(n api.Node, levels int) string {
	out := fmt.Sprintf("%.20q %.20q %.20q %.20q", n.Tag, n.Key, n.Text, n.Attrs[:min(len(n.Attrs), 4)])
	if len(n.Kids) > 4 || levels == 0 {
		return fmt.Sprintf("%s over %d", out, len(n.Kids))
	}
	for _, kid := range n.Kids {
		out += " (" + outer(kid, levels-1) + ")"
	}
	return out
}

// visited is a node of a tree with what the chapter says about its place.
type visited struct {
	n       api.Node
	depth   int
	earlier []api.Node
}

// preorder lists the nodes of a tree by their numbers.
func preorder(n api.Node) []visited {
	out := []visited{{n: n, depth: 1}}
	for i, kid := range n.Kids {
		below := preorder(kid)
		below[0].earlier = n.Kids[:i]
		for j := range below {
			below[j].depth++
		}
		out = append(out, below...)
	}
	return out
}

// attrErrors returns all the errors of attributes, those of the first invalid attribute ahead.
func attrErrors(l []api.Attr) []api.Errno {
	var out []api.Errno
	for i, a := range l {
		if i == 64 {
			out = append(out, api.ErrMany)
		}
		if a.Name == "" || a.Name[0] < 'a' || len(a.Name) > 32 || strings.Trim(a.Name, "abcdefghijklmnopqrstuvwxyz0123456789-:.") != "" {
			out = append(out, api.ErrName)
		}
		if len(a.Value) > 65536 {
			out = append(out, api.ErrLong)
		}
		if i > 0 && l[i-1].Name == a.Name {
			out = append(out, api.ErrTwice)
		}
		if i > 0 && l[i-1].Name > a.Name {
			out = append(out, api.ErrOrder)
		}
	}
	return out
}

// errorsOf returns all the errors that apply to a node, in the order of the chapter.
func errorsOf(v visited, number int) []api.Errno {
	var out []api.Errno
	add := func(applies bool, err ...api.Errno) {
		if applies {
			out = append(out, err...)
		}
	}
	isTag := v.n.Tag != "" && len(v.n.Tag) <= 32 && v.n.Tag[0] >= 'a' && v.n.Tag[0] <= 'z' &&
		strings.Trim(v.n.Tag, "abcdefghijklmnopqrstuvwxyz0123456789-") == ""
	sameKey := slices.ContainsFunc(v.earlier, func(e api.Node) bool { return e.Key == v.n.Key })
	add(number == 4096, api.ErrMany)
	add(v.depth > 64, api.ErrDeep)
	add(!isTag, api.ErrTag)
	add(len(v.n.Key) > 65536, api.ErrLong)
	add(len(v.n.Text) > 65536, api.ErrLong)
	add(true, attrErrors(v.n.Attrs)...)
	add(v.n.Key != "" && sameKey, api.ErrTwice)
	return out
}

// slowCheck is Check by the words of the chapter.
func slowCheck(n api.Node) (int, api.Errno) {
	for number, v := range preorder(n) {
		if all := errorsOf(v, number); len(all) > 0 {
			return number, all[0]
		}
	}
	return 0, api.OK
}

// checkCheck compares the answer of Check.
func checkCheck(t *testing.T, n api.Node, want int, wantErr api.Errno) {
	t.Helper()
	if at, err := Check(n); at != want || err != wantErr {
		t.Errorf("Check(%s) = %d, %v; want %d, %v", short(n), at, err, want, wantErr)
	}
}

// checkMeasures compares the answers of Size and Depth.
func checkMeasures(t *testing.T, n api.Node, size, depth int) {
	t.Helper()
	if gotSize, gotDepth := Size(n), Depth(n); gotSize != size || gotDepth != depth {
		t.Errorf("Size and Depth of %s are %d and %d; want %d and %d", short(n), gotSize, gotDepth, size, depth)
	}
}

func TestCheckTakes(t *testing.T) { // 11.1
	for _, n := range []api.Node{
		node("a"),
		node("p", node("li"), node("li")),
		node("p", node("li"), node("li", node("li"), node("li")), node("li")),
		{Tag: "a", Attrs: []api.Attr{}, Kids: []api.Node{}},
		node(fullTag),
		node("h1-"),
		keyed("a", fullText),
		{Tag: "a", Text: fullText},
		{Tag: "a", Key: fullText, Text: fullText, Attrs: []api.Attr{{Name: "n", Value: fullText}}},
		{Tag: "a", Key: "\x00\xff<", Text: "\x00\xff<"},
		{Tag: "a", Attrs: manyAttrs(64)},
		attr("a", "a:", "b.c"),
	} {
		checkCheck(t, n, 0, api.OK)
	}
}

func TestCheckRefusesOne(t *testing.T) { // 11.1
	cases := []struct {
		n   api.Node
		err api.Errno
	}{
		{api.Node{}, api.ErrTag},
		{node("A"), api.ErrTag},
		{node("1"), api.ErrTag},
		{node("-a"), api.ErrTag},
		{node("a:b"), api.ErrTag},
		{node("a.b"), api.ErrTag},
		{node("a b"), api.ErrTag},
		{node("a\xff"), api.ErrTag},
		{node(longTag), api.ErrTag},
		{keyed("a", longText), api.ErrLong},
		{api.Node{Tag: "a", Text: longText}, api.ErrLong},
		{api.Node{Tag: "a", Attrs: manyAttrs(65)}, api.ErrMany},
		{attr("A"), api.ErrName},
		{attr(""), api.ErrName},
		{api.Node{Tag: "a", Attrs: []api.Attr{{Name: "a", Value: longText}}}, api.ErrLong},
		{attr("a", "a"), api.ErrTwice},
		{attr("b", "a"), api.ErrOrder},
	}
	for _, c := range cases {
		checkCheck(t, c.n, 0, c.err)
		// Its number is that of preorder, wherever it stands.
		checkCheck(t, node("p", c.n), 1, c.err)
		checkCheck(t, node("p", node("a"), c.n, node("a")), 2, c.err)
		checkCheck(t, node("p", node("a", node("a"), node("a")), c.n), 4, c.err)
		checkCheck(t, node("p", node("a", node("a"), c.n), node("a")), 3, c.err)
	}
}

func TestCheckTwice(t *testing.T) { // 11.1
	// The example of the chapter.
	checkCheck(t, node("p", keyed("li", "k"), keyed("li", "k")), 2, api.ErrTwice)
	// The tag does not count, nor what stands between.
	checkCheck(t, node("p", keyed("li", "k"), node("a"), keyed("b", "k")), 3, api.ErrTwice)
	checkCheck(t, node("p", keyed("li", "k", node("a", node("b")), keyed("a", "m")), keyed("b", "m"), keyed("b", "k")), 6, api.ErrTwice)
	checkCheck(t, node("p", keyed("a", "j"), keyed("a", "k"), keyed("a", "l"), keyed("a", "k"), keyed("a", "j")), 4, api.ErrTwice)
	checkCheck(t, node("p", node("q", keyed("a", "k"), keyed("a", "k")), keyed("q", "j"), keyed("q", "j")), 3, api.ErrTwice)
	checkCheck(t, node("p", keyed("a", fullText), keyed("a", fullText)), 2, api.ErrTwice)
	checkCheck(t, node("p", keyed("a", "\xff"), keyed("a", "\xff")), 2, api.ErrTwice)
	// Only siblings: not a parent, a child, or the child of another one.
	for _, n := range []api.Node{
		keyed("p", "k", keyed("p", "k", keyed("p", "k"))),
		node("p", keyed("a", "k", keyed("a", "k"), keyed("a", "m")), keyed("a", "m", keyed("a", "k"), keyed("a", "m"))),
		node("p", node("a", keyed("a", "k")), node("a", keyed("a", "k")), keyed("a", "k")),
		node("p", keyed("a", "k"), keyed("a", "K"), keyed("a", "k "), keyed("a", "kk"), keyed("a", "\xfe"), keyed("a", "\xff")),
		// The empty key is none.
		node("p", node("a"), node("a"), keyed("a", "k"), node("a")),
	} {
		checkCheck(t, n, 0, api.OK)
	}
}

func TestCheckFirstError(t *testing.T) { // 11.1, R2
	// Of several errors of one node, each with all that are named behind it.
	k := keyed("a", "k")
	bad := api.Node{Tag: "A", Key: longText, Text: longText, Attrs: attr("A").Attrs}
	checkCheck(t, node("p", k, bad), 2, api.ErrTag)
	bad = api.Node{Tag: "A", Key: "k"}
	checkCheck(t, node("p", k, bad), 2, api.ErrTag)
	bad = api.Node{Tag: "a", Key: longText, Attrs: attr("A").Attrs}
	checkCheck(t, node("p", k, bad), 2, api.ErrLong)
	bad = api.Node{Tag: "a", Key: "k", Text: longText, Attrs: attr("A").Attrs}
	checkCheck(t, node("p", k, bad), 2, api.ErrLong)
	bad = api.Node{Tag: "a", Key: "k", Attrs: attr("b", "a").Attrs}
	checkCheck(t, node("p", k, bad), 2, api.ErrOrder)
	bad = api.Node{Tag: "a", Key: "k", Attrs: manyAttrs(65)}
	checkCheck(t, node("p", k, bad), 2, api.ErrMany)
	// Of several nodes: a node ahead of what is below it, that ahead of the next sibling.
	checkCheck(t, node("A", node("A")), 0, api.ErrTag)
	checkCheck(t, api.Node{Tag: "a", Text: longText, Kids: []api.Node{node("A")}}, 0, api.ErrLong)
	checkCheck(t, node("p", k, keyed("a", "k", node("A"))), 2, api.ErrTwice)
	checkCheck(t, node("p", keyed("a", "k", node("A")), k), 2, api.ErrTag)
	checkCheck(t, node("p", node("a", node("a", attr("A"))), node("A")), 3, api.ErrName)
	checkCheck(t, node("p", node("a", node("a")), node("A"), node("a", attr("A"))), 3, api.ErrTag)
}

func TestCheckEveryTree(t *testing.T) { // 11.1
	for _, n := range smallTrees() {
		at, err := slowCheck(n)
		checkCheck(t, n, at, err)
	}
	if len(smallTrees()) != 9+9*9+2*9*9*9+5*9*9*9*9 {
		t.Error("not all small trees were tried")
	}
}

func TestCheckDeep(t *testing.T) { // 11.1
	for _, depth := range []int{1, 2, 63, 64} {
		checkCheck(t, chain(depth), 0, api.OK)
	}
	for _, depth := range []int{65, 66, 1000, 1 << 16} {
		checkCheck(t, chain(depth), 64, api.ErrDeep)
	}
	// The depth counts, not the number.
	checkCheck(t, node("a", chain(63), chain(63), wide(62)), 0, api.OK)
	checkCheck(t, node("a", chain(63), chain(64)), 127, api.ErrDeep)
	// It counts ahead of the other errors of that node, not of those of nodes that precede.
	for _, bad := range []api.Node{node("A"), keyed("a", longText), attr("A"), {}} {
		n := bad
		for range 64 {
			n = node("a", n)
		}
		checkCheck(t, n, 64, api.ErrDeep)
		checkCheck(t, n.Kids[0], 63, errorsOf(visited{n: bad}, 63)[0])
	}
	n := chain(65)
	n.Kids[0].Kids[0].Tag = "A"
	checkCheck(t, n, 2, api.ErrTag)
	twice := node("a", keyed("a", "k"), keyed("a", "k"))
	for range 63 {
		twice = node("a", twice)
	}
	checkCheck(t, twice, 64, api.ErrDeep)
}

func TestCheckMany(t *testing.T) { // 11.1
	for _, kids := range []int{0, 1, 4094, 4095} {
		checkCheck(t, wide(kids), 0, api.OK)
	}
	for _, kids := range []int{4096, 4097, 1 << 20} {
		checkCheck(t, wide(kids), 4096, api.ErrMany)
	}
	// All nodes count, not only those of one parent.
	checkCheck(t, node("p", wide(2047), wide(2046)), 0, api.OK)
	checkCheck(t, node("p", wide(2047), wide(2047)), 4096, api.ErrMany)
	checkCheck(t, node("p", wide(4094), node("a")), 4096, api.ErrMany)
	// It counts ahead of the other errors of that node, not of those of nodes that precede.
	for _, bad := range []api.Node{node("A"), keyed("a", longText), attr("A"), {}, keyed("a", "k")} {
		n := wide(4096)
		n.Kids[0].Key = "k"
		n.Kids[4095] = bad
		checkCheck(t, n, 4096, api.ErrMany)
		_, err := slowCheck(node("p", keyed("a", "k"), bad))
		n.Kids[4094] = bad
		checkCheck(t, n, 4095, err)
	}
	deep := wide(4032)
	deep.Kids[4031] = chain(64)
	checkCheck(t, deep, 4095, api.ErrDeep)
	deep = wide(4033)
	deep.Kids[4032] = chain(64)
	checkCheck(t, deep, 4096, api.ErrMany)
}

func TestCheckExamines(t *testing.T) { // R1
	// A tree without an end: what is below a node is the node again.
	ring := make([]api.Node, 3)
	for i := range ring {
		ring[i] = node("a", ring...)
	}
	checkCheck(t, node("a", ring...), 64, api.ErrDeep)
	checkMeasures(t, node("a", ring...), 0, 0)
	if Same(ring[0], ring[0]) || Same(ring[0], chain(64)) || Same(chain(64), ring[0]) {
		t.Error("a tree without an end is told to be valid")
	}
	for i := range ring {
		ring[i].Kids = ring[:1]
	}
	if Same(chain(64), ring[0]) || Same(ring[0], chain(64)) {
		t.Error("a tree without an end is told to be the same as another one")
	}
	if c, ok := Copy(ring[0]); ok || !reflect.DeepEqual(c, api.Node{}) {
		t.Error("a tree without an end was copied")
	}
	// A great many nodes by few lists.
	n := node("a")
	for range 60 {
		n = node("a", slices.Repeat([]api.Node{n}, 1000)...)
	}
	checkCheck(t, n, 4096, api.ErrMany)
	huge := strings.Repeat("a", 1<<26)
	checkCheck(t, node(huge), 0, api.ErrTag)
	checkCheck(t, keyed("a", huge), 0, api.ErrLong)
	checkCheck(t, api.Node{Tag: "a", Text: huge}, 0, api.ErrLong)
	checkCheck(t, api.Node{Tag: "a", Attrs: make([]api.Attr, 1<<20)}, 0, api.ErrName)
}

func TestMeasures(t *testing.T) { // 11.2
	// The example of the chapter.
	checkMeasures(t, node("p", node("li"), node("li")), 3, 2)
	checkMeasures(t, node("p"), 1, 1)
	checkMeasures(t, chain(64), 64, 64)
	checkMeasures(t, wide(4095), 4096, 2)
	checkMeasures(t, node("p", chain(3), chain(2)), 6, 4)
	checkMeasures(t, node("p", chain(2), chain(3)), 6, 4)
	// Trees that are not valid, also those with an error only at their end.
	checkMeasures(t, api.Node{}, 0, 0)
	checkMeasures(t, chain(65), 0, 0)
	checkMeasures(t, wide(4096), 0, 0)
	checkMeasures(t, node("p", node("li"), node("A")), 0, 0)
	checkMeasures(t, node("p", keyed("li", "k"), keyed("li", "k")), 0, 0)
}

func TestMeasuresEveryTree(t *testing.T) { // 11.2
	for _, n := range append(smallTrees(), validTrees()...) {
		size, depth := 0, 0
		if _, err := slowCheck(n); err == api.OK {
			for _, v := range preorder(n) {
				size, depth = size+1, max(depth, v.depth)
			}
		}
		checkMeasures(t, n, size, depth)
	}
}

// sample is a tree with something in each field.
func sample() api.Node {
	return api.Node{Tag: "p", Key: "k", Text: "x", Attrs: []api.Attr{{Name: "a", Value: "1"}, {Name: "b", Value: "2"}}, Kids: []api.Node{
		{Tag: "li", Key: "m", Text: "y", Attrs: []api.Attr{{Name: "c", Value: "3"}}},
		{Tag: "ul", Kids: []api.Node{{Tag: "li", Key: "m"}, {Tag: "b", Text: "z"}}},
	}}
}

func TestSame(t *testing.T) { // 11.2
	if !Same(sample(), sample()) {
		t.Error("a tree differs from itself")
	}
	changes := []func(n *api.Node){
		func(n *api.Node) { n.Tag = "q" },
		func(n *api.Node) { n.Key = "" },
		func(n *api.Node) { n.Text = "" },
		func(n *api.Node) { n.Text, n.Key = n.Key, n.Text },
		func(n *api.Node) { n.Attrs = nil },
		func(n *api.Node) { n.Attrs = n.Attrs[:1] },
		func(n *api.Node) { n.Attrs[0].Value = "2" },
		func(n *api.Node) { n.Attrs[0].Name = "aa" },
		func(n *api.Node) { n.Kids = nil },
		func(n *api.Node) { n.Kids = n.Kids[:1] },
		func(n *api.Node) { n.Kids = n.Kids[1:] },
		func(n *api.Node) { slices.Reverse(n.Kids) },
		func(n *api.Node) { n.Kids = append(n.Kids, node("b")) },
		func(n *api.Node) { n.Kids[0].Tag = "b" },
		func(n *api.Node) { n.Kids[0].Key = "n" },
		func(n *api.Node) { n.Kids[0].Text = "Y" },
		func(n *api.Node) { n.Kids[0].Attrs[0].Value = "" },
		func(n *api.Node) { n.Kids[0].Kids = []api.Node{node("b")} },
		func(n *api.Node) { n.Kids[1].Kids[1].Text = "" },
		func(n *api.Node) {
			n.Kids[1].Kids[0].Kids = []api.Node{n.Kids[1].Kids[1]}
			n.Kids[1].Kids = n.Kids[1].Kids[:1]
		},
	}
	for i, change := range changes {
		n := sample()
		change(&n)
		checkCheck(t, n, 0, api.OK)
		if Same(n, sample()) || Same(sample(), n) {
			t.Errorf("change %d makes no difference", i)
		}
	}
	// An empty list may be nil or not.
	empty := api.Node{Tag: "a", Attrs: []api.Attr{}, Kids: []api.Node{{Tag: "a", Attrs: []api.Attr{}, Kids: []api.Node{}}}}
	if !Same(empty, node("a", node("a"))) || !Same(node("a", node("a")), empty) {
		t.Error("empty lists differ")
	}
}

func TestSameRefuses(t *testing.T) { // 11.2
	for _, n := range []api.Node{{}, node("A"), node("p", keyed("a", "k"), keyed("a", "k")), chain(65), wide(4096), attr("b", "a")} {
		if Same(n, n) || Same(n, node("p")) || Same(node("p"), n) {
			t.Errorf("%s is told to be valid", short(n))
		}
	}
	if !Same(chain(64), chain(64)) || !Same(wide(4095), wide(4095)) {
		t.Error("a tree as large as can be differs from itself")
	}
}

func TestSameEveryPair(t *testing.T) { // 11.2
	var all []api.Node
	for n := range 3 {
		all = append(all, trees([]api.Node{node("a"), node("b"), keyed("a", "k"), node("A")}, n+1)...)
	}
	for i, a := range all {
		_, err := slowCheck(a)
		for j, b := range all {
			if want := i == j && err == api.OK; Same(a, b) != want {
				t.Fatalf("Same(%s, %s) is %v", short(a), short(b), !want)
			}
		}
	}
}

func TestCopy(t *testing.T) { // 11.2
	for _, n := range append(smallTrees(), sample(), chain(64), chain(65), wide(4095), wide(4096), api.Node{}) {
		got, ok := Copy(n)
		want := n
		if _, err := slowCheck(n); err != api.OK {
			want = api.Node{}
		}
		if ok != (want.Tag != "") || !reflect.DeepEqual(got, want) {
			t.Fatalf("Copy(%s) = %s, %v", short(n), short(got), ok)
		}
	}
}

// roomy returns the same tree, each of whose lists has room for more, and in it what is not of the tree.
func roomy(n api.Node) api.Node {
	attrs := append(slices.Clone(n.Attrs), api.Attr{Name: "spare", Value: "room"})
	n.Attrs = attrs[:len(n.Attrs)]
	kids := append(slices.Clone(n.Kids), node("spare"))
	for i := range n.Kids {
		kids[i] = roomy(kids[i])
	}
	n.Kids = kids[:len(n.Kids)]
	return n
}

// spoil overwrites all lists of a tree and what room they have.
func spoil(n api.Node) {
	for _, kid := range n.Kids {
		spoil(kid)
	}
	for i := range n.Attrs[:cap(n.Attrs)] {
		n.Attrs[:cap(n.Attrs)][i] = api.Attr{Name: "mine", Value: "mine"}
	}
	for i := range n.Kids[:cap(n.Kids)] {
		n.Kids[:cap(n.Kids)][i] = node("mine")
	}
}

// wholeLists prints a tree with what stands in the room of its lists.
func wholeLists(n api.Node) string {
	out := fmt.Sprintf("%.20q %.20q %.20q %.20q (", n.Tag, n.Key, n.Text, n.Attrs[:cap(n.Attrs)])
	for _, kid := range n.Kids[:cap(n.Kids)] {
		out += wholeLists(kid)
	}
	return out + ")"
}

func TestMemory(t *testing.T) { // R4
	for _, n := range append(validTrees(), sample()) {
		arg := roomy(n)
		before := wholeLists(arg)
		Check(arg)
		Size(arg)
		Depth(arg)
		Same(arg, arg)
		first, _ := Copy(arg)
		second, _ := Copy(arg)
		spoil(first)
		if after := wholeLists(arg); after != before {
			t.Fatalf("the argument was %s and is %s", before, after)
		}
		spoil(arg)
		if !reflect.DeepEqual(roomy(second), roomy(n)) {
			t.Fatalf("the copy of %s is %s when others are changed", short(n), short(second))
		}
	}
}

func TestCopyApart(t *testing.T) { // R4
	// One list stands in the tree several times, and lists stand side by side in one array.
	l := sample().Attrs
	kids := []api.Node{{Tag: "a", Attrs: l}, {Tag: "b", Attrs: l[:1]}, {Tag: "c", Attrs: l[1:]}, {Tag: "d", Attrs: l}}
	n := api.Node{Tag: "p", Attrs: l, Kids: []api.Node{node("a", kids[:2]...), node("a", kids...), node("a", kids[2:]...)}}
	want := fmt.Sprintf("%q", n)
	c, ok := Copy(n)
	if got := fmt.Sprintf("%q", c); !ok || got != want {
		t.Fatalf("Copy is %s; want %s", got, want)
	}
	type place struct{ list, at int }
	seen := map[any]place{}
	lists := 0
	var collect func(n api.Node)
	collect = func(n api.Node) {
		lists += 2
		for i := range n.Attrs[:cap(n.Attrs)] {
			p := &n.Attrs[:cap(n.Attrs)][i]
			if other, shared := seen[p]; shared {
				t.Errorf("list %d shares its element %d with list %d", lists, i, other.list)
			}
			seen[p] = place{lists, i}
		}
		for i := range n.Kids[:cap(n.Kids)] {
			p := &n.Kids[:cap(n.Kids)][i]
			if other, shared := seen[p]; shared {
				t.Errorf("list %d shares its element %d with list %d", lists, i, other.list)
			}
			seen[p] = place{lists + 1, i}
		}
		for _, kid := range n.Kids {
			collect(kid)
		}
	}
	collect(c)
}

func TestSubtreesAreValid(t *testing.T) { // 11.3
	for _, n := range append(validTrees(), sample(), chain(64), wide(4095)) {
		for _, v := range preorder(n) {
			checkCheck(t, v.n, 0, api.OK)
		}
	}
}

func TestTreesOfValidTrees(t *testing.T) { // 11.3
	all := validTrees()
	for i, a := range all {
		b, c := all[(i*7+3)%len(all)], all[(i*31+11)%len(all)]
		n := api.Node{Tag: "ul", Key: "k", Text: "x", Attrs: sample().Attrs, Kids: []api.Node{a, b, c}}
		apart := func(x, y api.Node) bool { return x.Key == "" || x.Key != y.Key }
		_, err := Check(n)
		if want := apart(a, b) && apart(a, c) && apart(b, c); (err == api.OK) != want {
			t.Fatalf("Check(%s) tells %v", short(n), err)
		}
		// Only the node itself is wrong.
		n.Tag = ""
		checkCheck(t, n, 0, api.ErrTag)
	}
	// The limits, at their edges.
	checkMeasures(t, node("a", chain(63), chain(63)), 127, 64)
	checkMeasures(t, node("a", chain(63), chain(64)), 0, 0)
	checkMeasures(t, node("p", wide(2046), wide(2047)), 4096, 3)
	checkMeasures(t, node("p", wide(2047), wide(2047)), 0, 0)
}
