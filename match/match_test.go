package match

import (
	"fmt"
	"slices"
	"strings"
	"testing"

	"tendril/api"
	"tendril/flat"
)

// The calls keep the signatures that the chapter lists.
var (
	_ func([]api.Row) []api.Label = Labels
	_ func(a, b []api.Row) []int  = Pairs
	_ func(a, b []api.Row) []int  = Gone
	_ func(a, b []api.Row) []int  = Fresh
)

// row makes a row of its Up, its tag, and its key if there is one.
func row(up int, words ...string) api.Row {
	r := api.Row{Up: up, Tag: words[0]}
	if len(words) > 1 {
		r.Key = words[1]
	}
	return r
}

// counted makes a label without a key.
func counted(tag string, n int) api.Label {
	return api.Label{Tag: tag, N: n}
}

// keyed makes a label with a key.
func keyed(tag, key string) api.Label {
	return api.Label{Tag: tag, Key: key}
}

// wide makes a root with that many rows of a tag below it.
func wide(tag string, n int) []api.Row {
	l := []api.Row{row(0, "p")}
	for range n {
		l = append(l, row(1, tag))
	}
	return l
}

// chain makes rows of the tag a each of which is below the preceding one.
func chain(n int) []api.Row {
	var l []api.Row
	for i := range n {
		l = append(l, row(i, "a"))
	}
	return l
}

// smallRows returns all valid rows of at most n nodes, each of them one of the pool; no rows at all come first.
func smallRows(pool []api.Row, n int) [][]api.Row {
	out := [][]api.Row{nil}
	for from := 0; len(out[from]) < n; from++ {
		// What begins valid rows is valid.
		before := out[from]
		for up := range len(before) + 1 {
			for _, r := range pool {
				r.Up = up
				if l := append(slices.Clone(before), r); flat.Check(l) == api.OK {
					out = append(out, l)
				}
			}
		}
	}
	return out
}

// invalid are rows that are not valid.
func invalid() [][]api.Row {
	return [][]api.Row{
		{{}},
		{row(0, "A")},
		{row(1, "a")},
		{row(0, "a"), row(0, "a")},
		{row(0, "a"), row(2, "a")},
		{row(0, "a"), row(-1, "a")},
		{row(0, "a"), row(1, "a"), row(1, "a"), row(2, "a")},
		{row(0, "a"), row(1, "a", "k"), row(1, "b", "k")},
		{row(0, "a"), row(1, "a", strings.Repeat("k", api.MaxText+1))},
		{row(0, "a"), {Up: 1, Tag: "a", Attrs: make([]api.Attr, 1)}},
		chain(65),
		wide("a", 4096),
		chain(1 << 20),
		wide("a", 1<<20),
	}
}

// slowLabel is the label of the row at an index by the words of the chapters.
func slowLabel(l []api.Row, at int) api.Label {
	r := l[at]
	if r.Key != "" {
		return keyed(r.Tag, r.Key)
	}
	n := 0
	for _, other := range l[:at+1] {
		if other.Up == r.Up && other.Tag == r.Tag && other.Key == "" {
			n++
		}
	}
	return counted(r.Tag, n)
}

// slowMatch reports whether the rows at indices of a and b match, by the words of the chapter.
func slowMatch(a []api.Row, i int, b []api.Row, j int) bool {
	if slowLabel(a, i) != slowLabel(b, j) {
		return false
	}
	if a[i].Up == 0 || b[j].Up == 0 {
		return a[i].Up == b[j].Up
	}
	return slowMatch(a, a[i].Up-1, b, b[j].Up-1)
}

// slowPairs is Pairs by the words of the chapter; a row with several matches would show.
func slowPairs(a, b []api.Row) []int {
	out := make([]int, len(b))
	for j := range b {
		for i := range a {
			if slowMatch(a, i, b, j) {
				out[j] = out[j]*1000 + i + 1
			}
		}
	}
	return out
}

// short prints the beginning of rows.
func short(l []api.Row) string {
	return fmt.Sprintf("%.300s", fmt.Sprintf("%+v", l[:min(len(l), 8)]))
}

// checkLabels compares the answer of Labels.
func checkLabels(t *testing.T, l []api.Row, want ...api.Label) {
	t.Helper()
	if got := Labels(l); !slices.Equal(got, want) {
		t.Fatalf("Labels(%s) = %+v; want %+v", short(l), got, want)
	}
}

// checkMatch compares the answers of Pairs, Gone and Fresh.
func checkMatch(t *testing.T, a, b []api.Row, pairs, gone, fresh []int) {
	t.Helper()
	if got := Pairs(a, b); !slices.Equal(got, pairs) {
		t.Fatalf("Pairs(%s, %s) = %v; want %v", short(a), short(b), got, pairs)
	}
	if got := Gone(a, b); !slices.Equal(got, gone) {
		t.Fatalf("Gone(%s, %s) = %v; want %v", short(a), short(b), got, gone)
	}
	if got := Fresh(a, b); !slices.Equal(got, fresh) {
		t.Fatalf("Fresh(%s, %s) = %v; want %v", short(a), short(b), got, fresh)
	}
}

func TestLabels(t *testing.T) { // 14.1
	checkLabels(t, nil)
	checkLabels(t, []api.Row{})
	checkLabels(t, []api.Row{row(0, "p")}, counted("p", 1))
	checkLabels(t, []api.Row{row(0, "p", "k")}, keyed("p", "k"))
	checkLabels(t, []api.Row{row(0, "p"), row(1, "li"), row(1, "li", "k"), row(1, "p"), row(1, "li")},
		counted("p", 1), counted("li", 1), keyed("li", "k"), counted("p", 1), counted("li", 2))
	// Only siblings are counted, also when there is much between them.
	checkLabels(t, []api.Row{row(0, "a"), row(1, "a"), row(2, "a"), row(3, "a"), row(2, "a"), row(1, "a"), row(6, "a"), row(6, "b"), row(1, "a", "a"), row(1, "a")},
		counted("a", 1), counted("a", 1), counted("a", 1), counted("a", 1), counted("a", 2), counted("a", 2), counted("a", 1), counted("b", 1), keyed("a", "a"), counted("a", 3))
	// Only the tag and the key count.
	checkLabels(t, []api.Row{
		{ID: 5, Tag: "p", Text: "x"},
		{ID: 5, Up: 1, Tag: "a", Text: "y", Attrs: []api.Attr{{Name: "n", Value: "1"}}},
		{ID: -1, Up: 1, Tag: "a", Key: "k", Text: "y"},
		{Up: 1, Tag: "a"},
	}, counted("p", 1), counted("a", 1), keyed("a", "k"), counted("a", 2))
}

func TestLabelsEveryTree(t *testing.T) { // 14.1
	for _, l := range smallRows([]api.Row{row(0, "a"), row(0, "b"), row(0, "a", "k"), row(0, "b", "a")}, 5) {
		var want []api.Label
		for i := range l {
			want = append(want, slowLabel(l, i))
		}
		checkLabels(t, l, want...)
	}
}

func TestPairs(t *testing.T) { // 14.2, 14.3
	// The example of the chapter.
	a := []api.Row{row(0, "p"), row(1, "li"), row(1, "li")}
	b := []api.Row{row(0, "p"), row(1, "li"), row(1, "ul"), row(1, "li"), row(1, "li")}
	checkMatch(t, a, b, []int{1, 2, 0, 3, 0}, nil, []int{3, 5})
	checkMatch(t, b, a, []int{1, 2, 4}, []int{3, 5}, nil)
	// Keys bring rows together wherever they stand among their siblings.
	a = []api.Row{row(0, "p"), row(1, "li", "x"), row(2, "b"), row(1, "li", "y"), row(4, "b"), row(4, "i")}
	b = []api.Row{row(0, "p"), row(1, "li", "y"), row(2, "i"), row(1, "li"), row(1, "li", "x"), row(5, "b"), row(5, "b")}
	checkMatch(t, a, b, []int{1, 4, 6, 0, 2, 3, 0}, []int{5}, []int{4, 7})
	// A key with another tag, or below another parent, is another node.
	a = []api.Row{row(0, "p"), row(1, "a", "x"), row(1, "b", "y"), row(3, "c", "z")}
	b = []api.Row{row(0, "p"), row(1, "b", "x"), row(1, "b", "y"), row(1, "c", "z")}
	checkMatch(t, a, b, []int{1, 0, 3, 0}, []int{2, 4}, []int{2, 4})
	// What else the rows have does not count.
	a = []api.Row{{ID: 1, Tag: "p", Text: "x"}, {ID: 2, Up: 1, Tag: "a", Attrs: []api.Attr{{Name: "n"}}}}
	b = []api.Row{{ID: 9, Tag: "p"}, {Up: 1, Tag: "a", Text: "z", Attrs: []api.Attr{{Name: "m"}}}}
	checkMatch(t, a, b, []int{1, 2}, nil, nil)
}

func TestRoots(t *testing.T) { // 14.2, 14.3
	a := []api.Row{row(0, "p"), row(1, "a"), row(2, "b")}
	// Roots match by their labels as other rows do; below others nothing matches.
	for _, root := range []api.Row{row(0, "q"), row(0, "p", "k")} {
		b := slices.Clone(a)
		b[0] = root
		checkMatch(t, a, b, []int{0, 0, 0}, []int{1}, []int{1, 2, 3})
		checkMatch(t, b, a, []int{0, 0, 0}, []int{1}, []int{1, 2, 3})
		checkMatch(t, b, b, []int{1, 2, 3}, nil, nil)
	}
	// A root matches only a root.
	checkMatch(t, []api.Row{row(0, "a"), row(1, "p")}, []api.Row{row(0, "p")}, []int{0}, []int{1}, []int{1})
	checkMatch(t, []api.Row{row(0, "p")}, []api.Row{row(0, "a"), row(1, "p")}, []int{0, 0}, []int{1}, []int{1, 2})
	checkMatch(t, []api.Row{row(0, "p", "k")}, []api.Row{row(0, "p", "m"), row(1, "p", "k")}, []int{0, 0}, []int{1}, []int{1, 2})
}

func TestNoRows(t *testing.T) { // 14.2, 14.3
	a := []api.Row{row(0, "p"), row(1, "a"), row(2, "b"), row(1, "a")}
	for _, none := range [][]api.Row{nil, {}} {
		checkMatch(t, none, none, nil, nil, nil)
		checkMatch(t, a, none, nil, []int{1}, nil)
		checkMatch(t, none, a, []int{0, 0, 0, 0}, nil, []int{1, 2, 3, 4})
	}
}

func TestGone(t *testing.T) { // 14.3
	a := []api.Row{row(0, "p"), row(1, "a"), row(2, "b"), row(3, "c"), row(2, "b"), row(1, "a"), row(6, "b"), row(1, "c")}
	// Of what is gone only the uppermost rows are told.
	checkMatch(t, a, []api.Row{row(0, "p")}, []int{1}, []int{2, 6, 8}, nil)
	checkMatch(t, a, []api.Row{row(0, "p"), row(1, "a"), row(2, "b"), row(1, "c")}, []int{1, 2, 3, 8}, []int{4, 5, 6}, nil)
	checkMatch(t, a, []api.Row{row(0, "p"), row(1, "b"), row(2, "b"), row(1, "a")}, []int{1, 0, 0, 2}, []int{3, 5, 6, 8}, []int{2, 3})
}

func TestInvalid(t *testing.T) { // 14.1, 14.2, 14.3
	good := []api.Row{row(0, "a"), row(1, "b")}
	for _, bad := range invalid() {
		checkLabels(t, bad)
		checkMatch(t, bad, bad, nil, nil, nil)
		for _, other := range [][]api.Row{nil, good, {row(0, "q")}} {
			checkMatch(t, bad, other, nil, nil, nil)
			checkMatch(t, other, bad, nil, nil, nil)
		}
	}
	// As large as can be is valid.
	for _, l := range [][]api.Row{chain(64), wide("a", 4095)} {
		if len(Labels(l)) != len(l) || len(Fresh(nil, l)) != len(l) || !slices.Equal(Gone(l, good[:1]), Gone(l, good)) {
			t.Errorf("%s are told to be not valid", short(l))
		}
	}
}

func TestLarge(t *testing.T) { // 14.2, 14.3
	a, b := wide("a", 4095), wide("a", 4095)
	for i := range 4095 {
		a[i+1].Key = fmt.Sprint(i)
		b[i+1].Key = fmt.Sprint(4094 - i + 100)
	}
	pairs := Pairs(a, b)
	for j, h := range pairs {
		want := 4096 - j + 101
		if j == 0 {
			want = 1
		} else if want > 4096 {
			want = 0
		}
		if h != want {
			t.Fatalf("row %d is paired with %d; want %d", j+1, h, want)
		}
	}
	if gone, fresh := Gone(a, b), Fresh(a, b); len(gone) != 100 || gone[0] != 2 || gone[99] != 101 || len(fresh) != 100 || fresh[0] != 2 || fresh[99] != 101 {
		t.Errorf("Gone is %v, Fresh is %v", gone, fresh)
	}
}

func TestEveryPair(t *testing.T) { // 14.2, 14.3, 14.4
	all := smallRows([]api.Row{row(0, "a"), row(0, "b"), row(0, "a", "k")}, 4)
	if len(all) < 300 {
		t.Fatalf("only %d rows are tried", len(all))
	}
	for _, a := range all {
		for _, b := range all {
			pairs, back := slowPairs(a, b), slowPairs(b, a)
			var gone, fresh []int
			for i, r := range a {
				if back[i] == 0 && (i == 0 || back[r.Up-1] != 0) {
					gone = append(gone, i+1)
				}
			}
			for j := range b {
				if pairs[j] == 0 {
					fresh = append(fresh, j+1)
				}
			}
			checkMatch(t, a, b, pairs, gone, fresh)
			checkConsequences(t, a, b)
		}
	}
}

// checkConsequences holds the answers against each other.
func checkConsequences(t *testing.T, a, b []api.Row) {
	t.Helper()
	pairs, back := Pairs(a, b), Pairs(b, a)
	taken := map[int]int{}
	for j, h := range pairs {
		if h == 0 {
			continue
		}
		if other, twice := taken[h]; twice {
			t.Fatalf("rows %d and %d of %s match row %d of %s", other, j+1, short(b), h, short(a))
		}
		taken[h] = j + 1
		if back[h-1] != j+1 {
			t.Fatalf("the pairs of %s and %s are not inverted", short(a), short(b))
		}
		x, y := a[h-1], b[j]
		if x.Tag != y.Tag || x.Key != y.Key {
			t.Fatalf("%s matches %s", short(a[h-1:h]), short(b[j:j+1]))
		}
		if (x.Up == 0) != (y.Up == 0) || y.Up != 0 && pairs[y.Up-1] != x.Up {
			t.Fatalf("the parents of row %d of %s and row %d of %s do not match", h, short(a), j+1, short(b))
		}
	}
	for i, j := range back {
		if j != 0 && pairs[j-1] != i+1 {
			t.Fatalf("the pairs of %s and %s are not inverted", short(b), short(a))
		}
	}
}

func TestItself(t *testing.T) { // 14.4
	all := smallRows([]api.Row{row(0, "a"), row(0, "b"), row(0, "a", "k"), row(0, "b", "m")}, 5)
	for _, l := range append(all, chain(64), wide("a", 4095)) {
		want := make([]int, len(l))
		for i := range want {
			want[i] = i + 1
		}
		checkMatch(t, l, slices.Clone(l), want, nil, nil)
	}
}

func TestMemory(t *testing.T) { // R4
	attrs := []api.Attr{{Name: "n", Value: "1"}, {Name: "spare"}}
	make1 := func() []api.Row {
		l := []api.Row{{Tag: "p", Attrs: attrs[:1]}, row(1, "a"), row(1, "a", "k"), row(3, "b"), row(1, "a"), row(7, "spare")}
		return l[:5]
	}
	a, b := make1(), make1()[:3]
	before := fmt.Sprintf("%+v %+v %+v", a[:cap(a)], b[:cap(b)], attrs)
	for range 2 {
		// Whatever is done to one answer, the next one is the same.
		labels, pairs, gone, fresh := Labels(a), Pairs(a, b), Gone(a, b), Fresh(b, a)
		want := []api.Label{counted("p", 1), counted("a", 1), keyed("a", "k"), counted("b", 1), counted("a", 2)}
		if !slices.Equal(labels, want) || !slices.Equal(pairs, []int{1, 2, 3}) || !slices.Equal(gone, []int{4, 5}) || !slices.Equal(fresh, []int{4, 5}) {
			t.Errorf("%v, %v, %v, %v", labels, pairs, gone, fresh)
		}
		clear(labels[:cap(labels)])
		clear(pairs[:cap(pairs)])
		clear(gone[:cap(gone)])
		clear(fresh[:cap(fresh)])
	}
	if after := fmt.Sprintf("%+v %+v %+v", a[:cap(a)], b[:cap(b)], attrs); after != before {
		t.Errorf("the rows were %s and are %s", before, after)
	}
	pairs := Pairs(a, b)
	clear(a)
	clear(b)
	if !slices.Equal(pairs, []int{1, 2, 3}) {
		t.Errorf("the pairs are %v when the rows are changed", pairs)
	}
}
