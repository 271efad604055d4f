package flat

import (
	"fmt"
	"math"
	"reflect"
	"slices"
	"strings"
	"testing"

	"tendril/api"
	"tendril/vtree"
)

// The calls keep the signatures that the chapter lists.
var (
	_ func(api.Node) ([]api.Row, api.Errno) = Rows
	_ func([]api.Row) (api.Node, api.Errno) = Tree
	_ func([]api.Row) api.Errno             = Check
	_ func(a, b []api.Row) bool             = Same
	_ func([]api.Row) [][]int               = Lists
	_ func([]api.Row) []int                 = Spans
	_ func([]api.Row, int) []int            = Path
)

var (
	fullText = strings.Repeat("v", api.MaxText)
	longText = fullText + "v"
)

// node makes a node without a key.
func node(tag string, kids ...api.Node) api.Node {
	return api.Node{Tag: tag, Kids: kids}
}

// keyed makes a node with a key.
func keyed(tag, key string, kids ...api.Node) api.Node {
	return api.Node{Tag: tag, Key: key, Kids: kids}
}

// chain makes a tree of that depth in which each node has one child.
func chain(depth int) api.Node {
	n := node("a")
	for range depth - 1 {
		n = node("a", n)
	}
	return n
}

// wide makes a node with that many children.
func wide(kids int) api.Node {
	n := node("p", make([]api.Node, kids)...)
	for i := range n.Kids {
		n.Kids[i].Tag = "b"
	}
	return n
}

// sample is a tree with something in each field.
func sample() api.Node {
	return api.Node{Tag: "p", Key: "k", Text: "x", Attrs: []api.Attr{{Name: "a", Value: "1"}, {Name: "b", Value: "2"}}, Kids: []api.Node{
		{Tag: "li", Key: "m", Text: "y", Attrs: []api.Attr{{Name: "c", Value: "3"}}},
		{Tag: "ul", Kids: []api.Node{{Tag: "li", Key: "m", Kids: []api.Node{node("b")}}, {Tag: "b", Text: "z", Attrs: []api.Attr{{Name: "c"}}}}},
		{Tag: "li", Text: "w"},
	}}
}

// sampleRows is the rows of sample.
func sampleRows() []api.Row {
	return []api.Row{
		{Up: 0, Tag: "p", Key: "k", Text: "x", Attrs: []api.Attr{{Name: "a", Value: "1"}, {Name: "b", Value: "2"}}},
		{Up: 1, Tag: "li", Key: "m", Text: "y", Attrs: []api.Attr{{Name: "c", Value: "3"}}},
		{Up: 1, Tag: "ul"},
		{Up: 3, Tag: "li", Key: "m"},
		{Up: 4, Tag: "b"},
		{Up: 3, Tag: "b", Text: "z", Attrs: []api.Attr{{Name: "c"}}},
		{Up: 1, Tag: "li", Text: "w"},
	}
}

// ups makes rows of the tag a with those Ups.
func ups(l ...int) []api.Row {
	var out []api.Row
	for _, up := range l {
		out = append(out, api.Row{Up: up, Tag: "a"})
	}
	return out
}

// chainRows makes rows each of which is below the preceding one.
func chainRows(n int) []api.Row {
	l := make([]api.Row, n)
	for i := range l {
		l[i] = api.Row{Up: i, Tag: "a"}
	}
	return l
}

// wideRows makes rows all of which are below the first one.
func wideRows(n int) []api.Row {
	l := make([]api.Row, n)
	for i := range l {
		l[i] = api.Row{Up: min(i, 1), Tag: "a"}
	}
	return l
}

// forests returns every list of trees with exactly n nodes in all, each of them one of the pool.
func forests(pool []api.Node, n int) [][]api.Node {
	if n == 0 {
		return [][]api.Node{nil}
	}
	var out [][]api.Node
	for first := 1; first <= n; first++ {
		rests := forests(pool, n-first)
		for _, tree := range trees(pool, first) {
			for _, rest := range rests {
				out = append(out, append([]api.Node{tree}, rest...))
			}
		}
	}
	return out
}

// trees returns every tree with exactly n nodes, each of them one of the pool.
func trees(pool []api.Node, n int) []api.Node {
	var out []api.Node
	for _, kids := range forests(pool, n-1) {
		for _, root := range pool {
			root.Kids = kids
			out = append(out, root)
		}
	}
	return out
}

// smallTrees are all trees of at most five nodes, many of them not valid.
func smallTrees() []api.Node {
	var out []api.Node
	pool := []api.Node{
		{Tag: "a", Text: "x"}, keyed("b", "k"), {Tag: "a", Key: "m", Attrs: []api.Attr{{Name: "n", Value: "1"}}}, node("A"),
	}
	for n := range 5 {
		out = append(out, trees(pool, n+1)...)
	}
	return out
}

// short prints the beginning of anything.
func short(x any) string {
	if l, ok := x.([]api.Row); ok {
		x = l[:min(len(l), 8)]
	}
	return fmt.Sprintf("%.400s", fmt.Sprintf("%+v", x))
}

// isValid asks the layer below.
func isValid(n api.Node) bool {
	_, err := vtree.Check(n)
	return err == api.OK
}

// slowRows is the rows of a tree by the words of the chapter: the parent's row is sought among the rows.
func slowRows(n api.Node) []api.Row {
	type place struct {
		n      *api.Node
		parent *api.Node
	}
	var all []place
	var visit func(n, parent *api.Node)
	visit = func(n, parent *api.Node) {
		all = append(all, place{n, parent})
		for i := range n.Kids {
			visit(&n.Kids[i], n)
		}
	}
	visit(&n, nil)
	var out []api.Row
	for _, p := range all {
		up := 1 + slices.IndexFunc(all, func(other place) bool { return other.n == p.parent })
		out = append(out, api.Row{Up: up, Tag: p.n.Tag, Key: p.n.Key, Text: p.n.Text, Attrs: p.n.Attrs})
	}
	return out
}

// isFormed reports whether the Ups are those of a tree, by the words of the chapter.
func isFormed(l []api.Row) bool {
	for i, r := range l {
		if i == 0 {
			if r.Up != 0 {
				return false
			}
			continue
		}
		var allowed []int
		for h := i; h != 0; h = l[h-1].Up {
			allowed = append(allowed, h)
		}
		if !slices.Contains(allowed, r.Up) {
			return false
		}
	}
	return true
}

// nodeOf makes the node of a handle: its children are the nodes of the rows that have it as Up.
func nodeOf(l []api.Row, h int) api.Node {
	r := l[h-1]
	n := api.Node{Tag: r.Tag, Key: r.Key, Text: r.Text, Attrs: r.Attrs}
	for i, other := range l {
		if other.Up == h {
			n.Kids = append(n.Kids, nodeOf(l, i+1))
		}
	}
	return n
}

// slowTree is Tree by the words of the chapter.
func slowTree(l []api.Row) (api.Node, api.Errno) {
	if len(l) == 0 {
		return api.Node{}, api.ErrEmpty
	}
	if !isFormed(l) {
		return api.Node{}, api.ErrForm
	}
	n := nodeOf(l, 1)
	if _, err := vtree.Check(n); err != api.OK {
		return api.Node{}, err
	}
	return n, api.OK
}

// plainNode returns a tree whose empty lists are nil.
func plainNode(n api.Node) api.Node {
	if len(n.Attrs) == 0 {
		n.Attrs = nil
	}
	var kids []api.Node
	for _, kid := range n.Kids {
		kids = append(kids, plainNode(kid))
	}
	n.Kids = kids
	return n
}

// checkRows compares the answer of Rows.
func checkRows(t *testing.T, n api.Node, want []api.Row, wantErr api.Errno) {
	t.Helper()
	got, err := Rows(n)
	equal := slices.EqualFunc(got, want, func(a, b api.Row) bool {
		return a.ID == b.ID && a.Up == b.Up && a.Tag == b.Tag && a.Key == b.Key && a.Text == b.Text && slices.Equal(a.Attrs, b.Attrs)
	})
	if err != wantErr || !equal {
		t.Fatalf("Rows = %s, %v; want %s, %v", short(got), err, short(want), wantErr)
	}
}

// checkTree compares the answers of Tree and Check.
func checkTree(t *testing.T, l []api.Row, want api.Node, wantErr api.Errno) {
	t.Helper()
	got, err := Tree(l)
	if err != wantErr || !reflect.DeepEqual(plainNode(got), plainNode(want)) {
		t.Fatalf("Tree(%s) = %s, %v; want %s, %v", short(l), short(got), err, short(want), wantErr)
	}
	if wantErr == api.ErrEmpty {
		wantErr = api.OK
	}
	if err := Check(l); err != wantErr {
		t.Fatalf("Check(%s) = %v; want %v", short(l), err, wantErr)
	}
}

// checkBad compares the answers of Tree and Check for rows that have an error, and that there is nothing else.
func checkBad(t *testing.T, l []api.Row, err api.Errno) {
	t.Helper()
	checkTree(t, l, api.Node{}, err)
	checkNothing(t, l)
}

// checkNothing asks for the answers about rows that are not valid.
func checkNothing(t *testing.T, l []api.Row) {
	t.Helper()
	if lists, spans := Lists(l), Spans(l); len(lists) != 0 || len(spans) != 0 {
		t.Fatalf("Lists and Spans of %s are %v and %v", short(l), lists, spans)
	}
	for h := range min(len(l), 5) + 2 {
		if path := Path(l, h); len(path) != 0 {
			t.Fatalf("Path(%s, %d) = %v", short(l), h, path)
		}
	}
}

func TestRows(t *testing.T) { // 13.1
	checkRows(t, sample(), sampleRows(), api.OK)
	checkRows(t, node("p"), []api.Row{{Tag: "p"}}, api.OK)
	// The example of the chapter.
	checkRows(t, node("p", node("li"), node("ul", node("li"))), []api.Row{{Tag: "p"}, {Up: 1, Tag: "li"}, {Up: 1, Tag: "ul"}, {Up: 3, Tag: "li"}}, api.OK)
	checkRows(t, api.Node{Tag: "a", Attrs: []api.Attr{}, Kids: []api.Node{}}, []api.Row{{Tag: "a"}}, api.OK)
	checkRows(t, api.Node{Tag: "a", Key: fullText, Text: fullText}, []api.Row{{Tag: "a", Key: fullText, Text: fullText}}, api.OK)
	checkRows(t, chain(64), chainRows(64), api.OK)
	checkRows(t, wide(4095), slowRows(wide(4095)), api.OK)
}

func TestRowsRefuses(t *testing.T) { // 13.1
	k := keyed("a", "k")
	for _, n := range []api.Node{
		{},
		node("A"),
		node("p", node("a"), keyed("a", longText)),
		node("p", api.Node{Tag: "a", Text: longText}),
		node("p", api.Node{Tag: "a", Attrs: make([]api.Attr, 3)}),
		node("p", api.Node{Tag: "a", Attrs: []api.Attr{{Name: "b"}, {Name: "a"}}}),
		node("p", k, k),
		chain(65),
		wide(4096),
		wide(1 << 20),
		chain(1 << 16),
	} {
		if isValid(n) {
			t.Fatal("an example is valid")
		}
		_, err := vtree.Check(n)
		checkRows(t, n, nil, err)
	}
	// A tree without an end.
	ring := make([]api.Node, 1)
	ring[0] = node("a", ring...)
	checkRows(t, ring[0], nil, api.ErrDeep)
}

func TestRowsEveryTree(t *testing.T) { // 13.1
	for _, n := range smallTrees() {
		if _, err := vtree.Check(n); err != api.OK {
			checkRows(t, n, nil, err)
		} else {
			checkRows(t, n, slowRows(n), api.OK)
		}
	}
}

func TestTree(t *testing.T) { // 13.2
	checkTree(t, sampleRows(), sample(), api.OK)
	checkTree(t, nil, api.Node{}, api.ErrEmpty)
	checkTree(t, []api.Row{}, api.Node{}, api.ErrEmpty)
	checkTree(t, sampleRows()[:0], api.Node{}, api.ErrEmpty)
	checkTree(t, ups(0), node("a"), api.OK)
	checkTree(t, ups(0, 1, 1), node("a", node("a"), node("a")), api.OK)
	checkTree(t, ups(0, 1, 2), node("a", node("a", node("a"))), api.OK)
	checkTree(t, ups(0, 1, 2, 3, 1, 5, 5), node("a", node("a", node("a", node("a"))), node("a", node("a"), node("a"))), api.OK)
	checkTree(t, chainRows(64), chain(64), api.OK)
	checkTree(t, slowRows(wide(4095)), wide(4095), api.OK)
	// IDs do not count.
	l := sampleRows()
	for i := range l {
		l[i].ID = []int{7, 7, -1, math.MinInt, math.MaxInt, 0, 4}[i]
	}
	checkTree(t, l, sample(), api.OK)
}

func TestTreeForm(t *testing.T) { // 13.2
	for _, l := range [][]api.Row{
		// The first row.
		ups(1), ups(-1), ups(2), ups(math.MinInt), ups(math.MaxInt), ups(1, 1), ups(2, 1),
		// A second root, also behind everything else.
		ups(0, 0), ups(0, 1, 0), ups(0, 1, 2, 0), ups(0, 0, 1),
		// Itself, a row that follows, or none.
		ups(0, 2), ups(0, 1, 3), ups(0, 1, 4), ups(0, 3, 2), ups(0, 1, 1, 5, 4), ups(0, math.MaxInt), ups(0, math.MaxInt-1, 1),
		ups(0, -1), ups(0, 1, -2), ups(0, 1, math.MinInt),
		// A row that is not an ancestor of the preceding one any more.
		ups(0, 1, 1, 2), ups(0, 1, 2, 1, 3), ups(0, 1, 2, 1, 2), ups(0, 1, 2, 3, 1, 3), ups(0, 1, 2, 2, 3), ups(0, 1, 2, 3, 2, 5, 4),
	} {
		checkBad(t, l, api.ErrForm)
	}
	// The last row of a great many, whatever else is wrong.
	for _, l := range [][]api.Row{chainRows(1 << 20), wideRows(1 << 20), chainRows(65), wideRows(4097), wideRows(4098)} {
		for _, up := range []int{-1, 0, len(l), len(l) + 1} {
			l[len(l)-1].Up = up
			checkBad(t, l, api.ErrForm)
		}
	}
}

func TestTreeErrors(t *testing.T) { // 13.2
	cases := []struct {
		row api.Row
		err api.Errno
	}{
		{api.Row{}, api.ErrTag},
		{api.Row{Tag: "A"}, api.ErrTag},
		{api.Row{Tag: "a", Key: longText}, api.ErrLong},
		{api.Row{Tag: "a", Text: longText}, api.ErrLong},
		{api.Row{Tag: "a", Attrs: make([]api.Attr, 1)}, api.ErrName},
		{api.Row{Tag: "a", Attrs: []api.Attr{{Name: "a", Value: longText}}}, api.ErrLong},
		{api.Row{Tag: "a", Attrs: []api.Attr{{Name: "a"}, {Name: "a"}}}, api.ErrTwice},
		{api.Row{Tag: "a", Attrs: []api.Attr{{Name: "b"}, {Name: "a"}}}, api.ErrOrder},
	}
	for _, c := range cases {
		checkBad(t, []api.Row{c.row}, c.err)
		for at := 1; at < 5; at++ {
			l := ups(0, 1, 2, 2, 1)
			c.row.Up = l[at].Up
			l[at] = c.row
			checkBad(t, l, c.err)
			// The form counts ahead, wherever it is wrong.
			l[4].Up = 3
			checkBad(t, l, api.ErrForm)
			l[4].Up = 0
			checkBad(t, l, api.ErrForm)
		}
	}
	k := func(up int, key string) api.Row { return api.Row{Up: up, Tag: "a", Key: key} }
	checkBad(t, []api.Row{k(0, "k"), k(1, "k"), k(2, "k"), k(1, "k")}, api.ErrTwice)
	checkTree(t, []api.Row{k(0, "k"), k(1, "k"), k(2, "k"), k(1, "m")}, keyed("a", "k", keyed("a", "k", keyed("a", "k")), keyed("a", "m")), api.OK)
	// The first node with an error counts.
	checkBad(t, []api.Row{k(0, ""), k(1, "k"), {Up: 2, Tag: "A"}, k(1, "k")}, api.ErrTag)
	checkBad(t, []api.Row{k(0, ""), k(1, "k"), k(1, "k"), {Up: 3, Tag: "A"}}, api.ErrTwice)
}

func TestTreeLarge(t *testing.T) { // 13.2, R1
	for _, n := range []int{65, 66, 4096, 4097, 1 << 20} {
		checkBad(t, chainRows(n), api.ErrDeep)
	}
	for _, n := range []int{4097, 4098, 1 << 20} {
		checkBad(t, wideRows(n), api.ErrMany)
	}
	// What precedes the limit counts ahead, what follows does not count.
	l := wideRows(1 << 20)
	l[4096].Tag = "A"
	checkBad(t, l, api.ErrMany)
	l[4095].Tag = "A"
	checkBad(t, l, api.ErrTag)
	l = append(chainRows(64), ups(slices.Repeat([]int{64}, 10000)...)...)
	checkBad(t, l, api.ErrDeep)
	l[1].Tag = ""
	checkBad(t, l, api.ErrTag)
	// Up and down again and again, far deeper than a tree may be.
	l = chainRows(1 << 10)
	for range 1 << 9 {
		l = append(l, api.Row{Up: 1 << 9, Tag: "a"})
		for len(l)%(1<<10) != 0 {
			l = append(l, api.Row{Up: len(l), Tag: "a"})
		}
	}
	checkBad(t, l, api.ErrDeep)
	// Long strings and lists are not gone through.
	huge := strings.Repeat("a", 1<<26)
	many := make([]api.Attr, 1<<22)
	l = ups(0)
	for range 1 << 12 {
		l = append(l, api.Row{Up: 1, Tag: huge, Key: huge, Text: huge, Attrs: many})
	}
	checkBad(t, l, api.ErrTag)
}

// everyList calls do for all lists of at most n rows with Ups from low to high, each of them otherwise one of the pool.
func everyList(pool []api.Row, n, low, high int, do func(l []api.Row)) {
	var extend func(l []api.Row)
	extend = func(l []api.Row) {
		do(l)
		if len(l) == n {
			return
		}
		for up := low; up <= high; up++ {
			for _, r := range pool {
				r.Up = up
				extend(append(slices.Clip(l), r))
			}
		}
	}
	extend(nil)
}

func TestTreeEveryList(t *testing.T) { // 13.2
	pool := []api.Row{{Tag: "a", Text: "x"}, {ID: 3, Tag: "b", Key: "k"}, {ID: -3, Tag: "A", Key: "k", Attrs: []api.Attr{{Name: "n"}}}}
	tried := 0
	everyList(pool, 4, -1, 4, func(l []api.Row) {
		tried++
		want, err := slowTree(l)
		checkTree(t, l, want, err)
	})
	if tried != 1+18+18*18+18*18*18+18*18*18*18 {
		t.Error("not all lists were tried")
	}
	// Longer lists by their Ups alone.
	everyList(ups(0), 7, 0, 6, func(l []api.Row) {
		if len(l) < 5 || l[0].Up != 0 {
			return
		}
		want, err := slowTree(l)
		checkTree(t, l, want, err)
	})
}

func TestSame(t *testing.T) { // 13.3
	if !Same(sampleRows(), sampleRows()) || !Same(nil, nil) || !Same(nil, []api.Row{}) || !Same([]api.Row{}, nil) {
		t.Error("rows differ from themselves")
	}
	l := sampleRows()
	for i := range l {
		l[i].ID = i*i - 3
	}
	if !Same(l, sampleRows()) || !Same(sampleRows(), l) {
		t.Error("IDs count")
	}
	if !Same([]api.Row{{Attrs: []api.Attr{}}}, []api.Row{{}}) || !Same([]api.Row{{}}, []api.Row{{Attrs: []api.Attr{}}}) {
		t.Error("empty lists differ")
	}
	changes := []func(l []api.Row) []api.Row{
		func(l []api.Row) []api.Row { return nil },
		func(l []api.Row) []api.Row { return l[:6] },
		func(l []api.Row) []api.Row { return l[1:] },
		func(l []api.Row) []api.Row { return append(l, api.Row{}) },
		func(l []api.Row) []api.Row { l[1], l[2] = l[2], l[1]; return l },
		func(l []api.Row) []api.Row { l[0].Up = -1; return l },
		func(l []api.Row) []api.Row { l[6].Up = 3; return l },
		func(l []api.Row) []api.Row { l[3].Tag = "b"; return l },
		func(l []api.Row) []api.Row { l[3].Key = ""; return l },
		func(l []api.Row) []api.Row { l[3].Text = "x"; return l },
		func(l []api.Row) []api.Row { l[0].Key, l[0].Text = l[0].Text, l[0].Key; return l },
		func(l []api.Row) []api.Row { l[0].Attrs = nil; return l },
		func(l []api.Row) []api.Row { l[0].Attrs = l[0].Attrs[:1]; return l },
		func(l []api.Row) []api.Row { l[0].Attrs[1].Value = "1"; return l },
		func(l []api.Row) []api.Row { l[0].Attrs[1].Name = "c"; return l },
		func(l []api.Row) []api.Row { slices.Reverse(l[0].Attrs); return l },
		func(l []api.Row) []api.Row { l[6].Attrs = append(l[6].Attrs, api.Attr{}); return l },
	}
	for i, change := range changes {
		other := change(sampleRows())
		if Same(other, sampleRows()) || Same(sampleRows(), other) {
			t.Errorf("change %d makes no difference", i)
		}
	}
}

func TestSameAnyRows(t *testing.T) { // 13.3
	// Rows that are not valid are compared as well.
	for _, l := range [][]api.Row{{{}}, ups(7, 7, -7), {{Tag: "A", Key: longText, Attrs: make([]api.Attr, 3)}}, chainRows(65), wideRows(1 << 16)} {
		other := slices.Clone(l)
		if !Same(l, other) {
			t.Errorf("%s differs from itself", short(l))
		}
		other[len(other)-1].Up++
		if Same(l, other) || Same(other, l) {
			t.Errorf("%s is told to equal %s", short(l), short(other))
		}
	}
}

// checkStructure compares the answers of Lists, Spans and Path for valid rows with what the chapter says.
func checkStructure(t *testing.T, l []api.Row) {
	t.Helper()
	lists, spans := make([][]int, len(l)+1), make([]int, len(l)+1)
	paths := make([][]int, len(l)+1)
	for i, r := range l {
		h := i + 1
		lists[r.Up] = append(lists[r.Up], h)
		paths[h] = append(slices.Clone(paths[r.Up]), h)
		spans[0]++
		for _, above := range paths[h] {
			spans[above]++
		}
	}
	if got := Lists(l); !slices.EqualFunc(got, lists, slices.Equal) {
		t.Fatalf("Lists(%s) = %v; want %v", short(l), got, lists)
	}
	if got := Spans(l); !slices.Equal(got, spans) {
		t.Fatalf("Spans(%s) = %v; want %v", short(l), got, spans)
	}
	for h, want := range paths {
		if h > 300 && h < len(paths)-3 {
			continue
		}
		if got := Path(l, h); !slices.Equal(got, want) {
			t.Fatalf("Path(%s, %d) = %v; want %v", short(l), h, got, want)
		}
	}
	for _, h := range []int{0, -1, len(l) + 1, len(l) + 2, -len(l), math.MinInt, math.MaxInt} {
		if got := Path(l, h); len(got) != 0 {
			t.Fatalf("Path(%s, %d) = %v", short(l), h, got)
		}
	}
}

func TestLists(t *testing.T) { // 13.3
	cases := []struct {
		l    []api.Row
		want [][]int
	}{
		{nil, [][]int{nil}}, // the holder has no row below it
		{ups(0), [][]int{{1}, nil}},
		{ups(0, 1, 1, 3), [][]int{{1}, {2, 3}, nil, {4}, nil}}, // the example of the chapter
		{sampleRows(), [][]int{{1}, {2, 3, 7}, nil, {4, 6}, {5}, nil, nil, nil}},
	}
	for _, c := range cases {
		if got := Lists(c.l); !slices.EqualFunc(got, c.want, slices.Equal) {
			t.Errorf("Lists(%s) = %v; want %v", short(c.l), got, c.want)
		}
	}
}

func TestSpans(t *testing.T) { // 13.3
	cases := []struct {
		l    []api.Row
		want []int
	}{
		{nil, []int{0}},
		{ups(0), []int{1, 1}},
		{ups(0, 1, 1, 3), []int{4, 4, 1, 2, 1}},
		{ups(0, 1, 2, 3), []int{4, 4, 3, 2, 1}},
		{sampleRows(), []int{7, 7, 1, 4, 2, 1, 1, 1}},
	}
	for _, c := range cases {
		if got := Spans(c.l); !slices.Equal(got, c.want) {
			t.Errorf("Spans(%s) = %v; want %v", short(c.l), got, c.want)
		}
	}
}

func TestPath(t *testing.T) { // 13.3
	l := sampleRows()
	for h, want := range [][]int{nil, {1}, {1, 2}, {1, 3}, {1, 3, 4}, {1, 3, 4, 5}, {1, 3, 6}, {1, 7}, nil} {
		if got := Path(l, h); !slices.Equal(got, want) {
			t.Errorf("Path(%d) = %v; want %v", h, got, want)
		}
	}
	for _, h := range []int{math.MinInt, -1, 0, 1, 2, math.MaxInt} {
		if got := Path(nil, h); len(got) != 0 {
			t.Errorf("Path(nil, %d) = %v", h, got)
		}
	}
}

func TestStructure(t *testing.T) { // 13.3
	checkStructure(t, nil)
	checkStructure(t, chainRows(64))
	checkStructure(t, wideRows(4096))
	for _, n := range smallTrees() {
		if isValid(n) {
			checkStructure(t, slowRows(n))
		} else {
			checkNothing(t, slowRows(n))
		}
	}
	everyList(ups(0), 7, 0, 6, func(l []api.Row) {
		if len(l) > 0 && l[0].Up != 0 {
			return
		}
		if isFormed(l) {
			checkStructure(t, l)
		} else {
			checkNothing(t, l)
		}
	})
}

func TestInverse(t *testing.T) { // 13.4
	all := append(smallTrees(), sample(), chain(64), wide(4095), node("p", wide(2000), chain(63), wide(2000)))
	for _, n := range all {
		if !isValid(n) {
			continue
		}
		l, err := Rows(n)
		if err != api.OK || Check(l) != api.OK {
			t.Fatalf("the rows of %s are not valid", short(n))
		}
		back, err := Tree(l)
		if err != api.OK || !vtree.Same(back, n) {
			t.Fatalf("the tree of the rows of %s is %s, %v", short(n), short(back), err)
		}
		for i := range l {
			l[i].ID = i + 1
		}
		n, err := Tree(l)
		again, errAgain := Rows(n)
		if err != api.OK || errAgain != api.OK || !Same(again, l) {
			t.Fatalf("the rows of the tree of %s are %s", short(l), short(again))
		}
	}
}

func TestContiguous(t *testing.T) { // 13.4
	for _, n := range append(smallTrees(), sample()) {
		l, err := Rows(n)
		if err != api.OK {
			continue
		}
		spans := Spans(l)
		for h := 1; h <= len(l); h++ {
			for other := range len(l) {
				below := slices.Contains(Path(l, other+1), h)
				if within := other+1 >= h && other+1 < h+spans[h]; below != within {
					t.Fatalf("of %s, row %d is below %d: %v", short(l), other+1, h, below)
				}
			}
		}
	}
}

// roomyRows returns the same rows, each of whose lists has room for more, and in it what is not of the rows.
func roomyRows(l []api.Row) []api.Row {
	out := append(slices.Clone(l), api.Row{Tag: "spare"})[:len(l)]
	for i, r := range out {
		out[i].Attrs = append(slices.Clone(r.Attrs), api.Attr{Name: "spare"})[:len(r.Attrs)]
	}
	return out
}

// wholeRows prints rows with what stands in the room of their lists.
func wholeRows(l []api.Row) string {
	out := ""
	for _, r := range l[:cap(l)] {
		out += fmt.Sprintf("%d %d %q %q %q %q\n", r.ID, r.Up, r.Tag, r.Key, r.Text, r.Attrs[:cap(r.Attrs)])
	}
	return out
}

// spoilRows overwrites all lists of rows and what room they have.
func spoilRows(l []api.Row) {
	for _, r := range l {
		spoilAttrs(r.Attrs)
	}
	for i := range l[:cap(l)] {
		l[:cap(l)][i] = api.Row{ID: 77, Up: 77, Tag: "mine"}
	}
}

func spoilAttrs(l []api.Attr) {
	for i := range l[:cap(l)] {
		l[:cap(l)][i] = api.Attr{Name: "mine", Value: "mine"}
	}
}

// spoil overwrites all lists of a tree and what room they have.
func spoil(n api.Node) {
	for _, kid := range n.Kids {
		spoil(kid)
	}
	spoilAttrs(n.Attrs)
	for i := range n.Kids[:cap(n.Kids)] {
		n.Kids[:cap(n.Kids)][i] = node("mine")
	}
}

func TestMemoryOfRows(t *testing.T) { // R4
	n := sample()
	first, _ := Rows(n)
	second, _ := Rows(n)
	spoilRows(first)
	if !reflect.DeepEqual(n, sample()) {
		t.Errorf("the tree is %s when its rows are changed", short(n))
	}
	spoil(n)
	if !Same(second, sampleRows()) {
		t.Errorf("the rows are %s when others are changed", short(second))
	}
}

func TestMemoryOfTree(t *testing.T) { // R4
	l := roomyRows(sampleRows())
	before := wholeRows(l)
	first, _ := Tree(l)
	second, _ := Tree(l)
	spoil(first)
	Check(l)
	Same(l, l)
	for _, list := range Lists(l) {
		for i := range list[:cap(list)] {
			list[:cap(list)][i] = 77
		}
	}
	clear(Spans(l))
	clear(Path(l, 5))
	if after := wholeRows(l); after != before {
		t.Errorf("the rows were\n%sand are\n%s", before, after)
	}
	spoilRows(l)
	if !vtree.Same(second, sample()) {
		t.Errorf("the tree is %s when others are changed", short(second))
	}
}

// distinct collects the addresses of the elements of lists, and tells if one is there already.
func distinct[T any](t *testing.T, seen map[any]int, l []T) {
	t.Helper()
	for i := range l[:cap(l)] {
		p := &l[:cap(l)][i]
		if _, shared := seen[p]; shared {
			t.Errorf("two lists share an element")
		}
		seen[p] = i
	}
}

func TestListsApart(t *testing.T) { // R4
	// One list of attributes stands in several places, and lists stand side by side in one array.
	l := sample().Attrs
	n := api.Node{Tag: "p", Attrs: l, Kids: []api.Node{{Tag: "a", Attrs: l}, {Tag: "b", Attrs: l[:1]}, {Tag: "c", Attrs: l[1:]}}}
	rows, _ := Rows(n)
	seen := map[any]int{&l[0]: 0, &l[1]: 1}
	distinct(t, seen, rows)
	for _, r := range rows {
		distinct(t, seen, r.Attrs)
	}
	if len(seen) < 2+4+6 {
		t.Error("the rows have fewer elements than the tree")
	}
	for i := range rows {
		rows[i].Attrs = slowRows(n)[i].Attrs
	}
	tree, _ := Tree(rows)
	seen = map[any]int{&l[0]: 0, &l[1]: 1}
	distinct(t, seen, tree.Attrs)
	distinct(t, seen, tree.Kids)
	for _, kid := range tree.Kids {
		distinct(t, seen, kid.Attrs)
		distinct(t, seen, kid.Kids)
	}
	if len(seen) < 2+3+6 {
		t.Error("the tree has fewer elements than the rows")
	}
	seen = map[any]int{}
	for _, list := range Lists(sampleRows()) {
		distinct(t, seen, list)
	}
	if len(seen) < 7 {
		t.Error("not all rows are in a list")
	}
}
