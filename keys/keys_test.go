package keys

import (
	"math"
	"slices"
	"strings"
	"testing"

	"tendril/api"
)

// The calls keep the signatures that the chapter lists.
var (
	_ func(a, b api.Label) bool           = Less
	_ func(room int) *Index               = New
	_ func(...api.Label) *Index           = Of
	_ func(*Index, api.Label, int) bool   = (*Index).Put
	_ func(*Index, api.Label) (int, bool) = (*Index).Get
	_ func(*Index, api.Label) bool        = (*Index).Drop
	_ func(*Index) int                    = (*Index).Len
	_ func(*Index) []api.Label            = (*Index).All
)

// rising returns labels in ascending order, all of them different.
func rising() []api.Label {
	var out []api.Label
	strs := []string{"", "\x00", "Z", "a", "a\x00", "aa", "ab", "b", "\x7f", "\x80", "\xff", "\xff\xff"}
	for _, tag := range strs {
		for _, key := range strs {
			for _, n := range []int{math.MinInt, -2, -1, 0, 1, 2, 10, math.MaxInt} {
				out = append(out, api.Label{Tag: tag, Key: key, N: n})
			}
		}
	}
	return out
}

// mixed returns n numbers from 0 to below high that follow a fixed rule and look like chance.
func mixed(n, high int) []int {
	out := make([]int, n)
	state := uint64(n)
	for i := range out {
		state = state*6364136223846793005 + 1442695040888963407
		out[i] = int(state>>33) % high
	}
	return out
}

// shuffled returns the labels in another order.
func shuffled(l []api.Label) []api.Label {
	out := slices.Clone(l)
	for i, j := range mixed(len(out), len(out)) {
		out[i], out[j] = out[j], out[i]
	}
	return out
}

func tag(s string) api.Label {
	return api.Label{Tag: s}
}

// checkGet compares the answer of Get.
func checkGet(t *testing.T, x *Index, k api.Label, want int, there bool) {
	t.Helper()
	if n, ok := x.Get(k); n != want || ok != there {
		t.Errorf("Get(%#v) = %d, %v, want %d, %v", k, n, ok, want, there)
	}
}

// checkAll compares what is in an index.
func checkAll(t *testing.T, x *Index, want ...api.Label) {
	t.Helper()
	if got := x.All(); !slices.Equal(got, want) {
		t.Errorf("All() = %#v, want %#v", got, want)
	}
	if x.Len() != len(want) {
		t.Errorf("Len() = %d, want %d", x.Len(), len(want))
	}
}

func TestLess(t *testing.T) { // 7.1
	cases := []struct {
		a, b api.Label
		want bool
	}{
		{api.Label{}, api.Label{}, false},
		{tag("a"), tag("b"), true},
		{tag("b"), tag("a"), false},
		{tag("a"), tag("aa"), true},
		{tag("Z"), tag("a"), true},
		{tag("a"), tag("\xff"), true}, // bytes are numbers from 0 to 255
		{tag("\xff"), tag("a"), false},
		{api.Label{Tag: "a", Key: "z", N: 9}, tag("b"), true}, // the Tag counts first
		{tag("b"), api.Label{Tag: "a", Key: "z", N: 9}, false},
		{api.Label{Tag: "a", Key: "x", N: 9}, api.Label{Tag: "a", Key: "y", N: 1}, true}, // then the Key
		{api.Label{Tag: "a", Key: "y", N: 1}, api.Label{Tag: "a", Key: "x", N: 9}, false},
		{api.Label{Tag: "a", Key: "x", N: 1}, api.Label{Tag: "a", Key: "x", N: 2}, true}, // then N
		{api.Label{Tag: "a", Key: "x", N: 2}, api.Label{Tag: "a", Key: "x", N: 1}, false},
		{api.Label{N: 9}, api.Label{N: 10}, true}, // as a number
		{api.Label{N: -1}, api.Label{N: 0}, true},
		{api.Label{N: math.MinInt}, api.Label{N: math.MaxInt}, true},
		{api.Label{N: math.MaxInt}, api.Label{N: math.MinInt}, false},
		{api.Label{Tag: "ab", Key: "c"}, api.Label{Tag: "a", Key: "bc"}, false}, // Tag and Key are apart
		{api.Label{Tag: "a", Key: "bc"}, api.Label{Tag: "ab", Key: "c"}, true},
	}
	for _, c := range cases {
		if got := Less(c.a, c.b); got != c.want {
			t.Errorf("Less(%#v, %#v) = %v", c.a, c.b, got)
		}
	}
}

func TestLessOfEveryPair(t *testing.T) { // 7.1
	l := rising()
	for i, a := range l {
		for j, b := range l {
			if Less(a, b) != (i < j) {
				t.Fatalf("Less(%#v, %#v) = %v", a, b, Less(a, b))
			}
		}
	}
}

func TestNew(t *testing.T) { // 7.1
	for _, room := range []int{math.MinInt, -1, 0, 1, 7, 4096, 1 << 32, 1 << 40, math.MaxInt} {
		x := New(room)
		if x == nil {
			t.Fatalf("New(%d) is nil", room)
		}
		checkAll(t, x)
		checkGet(t, x, api.Label{}, 0, false)
		if x.Drop(api.Label{}) {
			t.Errorf("New(%d) contains a label", room)
		}
		for i := range 20 {
			if !x.Put(api.Label{N: -i}, i) {
				t.Errorf("New(%d) refuses %d", room, i)
			}
		}
		for i := range 20 {
			checkGet(t, x, api.Label{N: -i}, i, true)
		}
		if l := x.All(); x.Len() != 20 || len(l) != 20 || l[0].N != -19 || l[19].N != 0 {
			t.Errorf("New(%d) then contains %#v", room, l)
		}
	}
}

func TestIndicesAreApart(t *testing.T) { // 7.1
	x, y, z := New(1), New(1), Of(tag("a"))
	x.Put(tag("b"), 5)
	z.Drop(tag("a"))
	checkAll(t, x, tag("b"))
	checkAll(t, y)
	checkAll(t, z)
	checkAll(t, Of(tag("a")), tag("a"))
}

func TestOf(t *testing.T) { // 7.1
	x := Of(tag("a"), tag("b"), tag("a"))
	checkAll(t, x, tag("a"), tag("b"))
	checkGet(t, x, tag("a"), 0, true)
	checkGet(t, x, tag("b"), 1, true)
	checkGet(t, x, tag("c"), 0, false)

	x = Of(tag("c"), tag("b"), tag("b"), tag("c"), tag("a"), tag("b"))
	checkAll(t, x, tag("a"), tag("b"), tag("c"))
	checkGet(t, x, tag("c"), 0, true)
	checkGet(t, x, tag("b"), 1, true)
	checkGet(t, x, tag("a"), 4, true)
	if x.Put(tag("a"), 9) || !x.Put(tag("d"), 9) || !x.Drop(tag("b")) {
		t.Error("an index that Of made does not change")
	}
	checkAll(t, x, tag("a"), tag("c"), tag("d"))

	for _, none := range []*Index{Of(), Of(nil...), Of([]api.Label{}...)} {
		if none == nil {
			t.Fatal("Of without labels is nil")
		}
		checkAll(t, none)
		if !none.Put(tag("a"), 3) {
			t.Error("Of without labels takes none")
		}
		checkGet(t, none, tag("a"), 3, true)
	}
}

func TestOfManyLabels(t *testing.T) { // 7.1, 7.2
	want := rising()
	l := shuffled(want)
	x := Of(append(slices.Clone(l), want...)...)
	checkAll(t, x, want...)
	for i, k := range l {
		checkGet(t, x, k, i, true)
	}
}

func TestPut(t *testing.T) { // 7.2
	x := New(0)
	if !x.Put(tag("a"), 7) {
		t.Error("the first Put")
	}
	if x.Put(tag("a"), 8) || x.Put(tag("a"), 7) {
		t.Error("a is there already")
	}
	checkGet(t, x, tag("a"), 7, true)
	checkAll(t, x, tag("a"))
	// Every number may be mapped to, also the one that Get returns for no label.
	for i, n := range []int{0, -1, math.MinInt, math.MaxInt} {
		k := api.Label{Tag: "n", N: i}
		if !x.Put(k, n) || x.Put(k, 5) {
			t.Errorf("Put of %d", n)
		}
		checkGet(t, x, k, n, true)
	}
	if x.Len() != 5 {
		t.Errorf("Len() = %d", x.Len())
	}
}

func TestLabelsAreWholes(t *testing.T) { // 7.2
	l := []api.Label{
		{},
		{N: 1},
		{Key: "ab"},
		{Key: "ab", N: 1},
		{Tag: "a", Key: "b"},
		{Tag: "a", Key: "b", N: -1},
		{Tag: "ab"},
		{Tag: "ab\x00"},
		{Tag: strings.Repeat("x", api.MaxText+1)},
	}
	x := New(3)
	for i, k := range l {
		checkGet(t, x, k, 0, false)
		if !x.Put(k, i+1) {
			t.Errorf("%#v is taken for another label", k)
		}
	}
	for i, k := range l {
		checkGet(t, x, k, i+1, true)
	}
	for i, k := range l {
		if !x.Drop(k) || x.Len() != len(l)-i-1 {
			t.Errorf("Drop(%#v) leaves %d", k, x.Len())
		}
	}
}

func TestDrop(t *testing.T) { // 7.2
	x := Of(tag("a"), tag("b"), tag("c"))
	if x.Drop(tag("d")) || x.Drop(api.Label{Tag: "a", N: 1}) {
		t.Error("a label that is not there")
	}
	checkAll(t, x, tag("a"), tag("b"), tag("c"))
	if !x.Drop(tag("b")) || x.Drop(tag("b")) {
		t.Error("Drop of b")
	}
	checkAll(t, x, tag("a"), tag("c"))
	checkGet(t, x, tag("b"), 0, false)
	checkGet(t, x, tag("a"), 0, true)
	checkGet(t, x, tag("c"), 2, true)
	if !x.Put(tag("b"), 9) {
		t.Error("b is gone and may come again")
	}
	checkGet(t, x, tag("b"), 9, true)
	checkAll(t, x, tag("a"), tag("b"), tag("c"))
}

func TestEmptiedIndex(t *testing.T) { // 7.2
	x := New(2)
	for round := range 50 {
		for i := range round {
			if !x.Put(api.Label{N: i}, round) {
				t.Fatalf("%d is left of an earlier round", i)
			}
		}
		for i := range round {
			checkGet(t, x, api.Label{N: i}, round, true)
			if !x.Drop(api.Label{N: i}) {
				t.Fatalf("%d is not there", i)
			}
		}
		checkAll(t, x)
		checkGet(t, x, api.Label{}, 0, false)
		if x.Drop(api.Label{}) {
			t.Fatal("an empty index drops a label")
		}
	}
}

func TestNilIndex(t *testing.T) { // 7.2
	var x *Index
	if x.Put(tag("a"), 1) || x.Drop(tag("a")) {
		t.Error("a nil index changes")
	}
	checkGet(t, x, tag("a"), 0, false)
	checkAll(t, x)
}

func TestIndexThatNewDidNotMake(t *testing.T) { // R1
	x := &Index{}
	checkAll(t, x)
	checkGet(t, x, tag("a"), 0, false)
	if x.Drop(tag("a")) || !x.Put(tag("a"), 4) {
		t.Error("the zero index is no empty one")
	}
	checkGet(t, x, tag("a"), 4, true)
}

// slow is an index that searches from the first pair on.
type slow struct {
	labels  []api.Label
	numbers []int
}

func (s *slow) put(k api.Label, n int) bool {
	if slices.Contains(s.labels, k) {
		return false
	}
	s.labels, s.numbers = append(s.labels, k), append(s.numbers, n)
	return true
}

func (s *slow) get(k api.Label) (int, bool) {
	if i := slices.Index(s.labels, k); i >= 0 {
		return s.numbers[i], true
	}
	return 0, false
}

func (s *slow) drop(k api.Label) bool {
	i := slices.Index(s.labels, k)
	if i < 0 {
		return false
	}
	s.labels, s.numbers = slices.Delete(s.labels, i, i+1), slices.Delete(s.numbers, i, i+1)
	return true
}

// all picks the least label that remains, again and again.
func (s *slow) all() []api.Label {
	var out []api.Label
	rest := slices.Clone(s.labels)
	for len(rest) > 0 {
		least := 0
		for i := range rest {
			if Less(rest[i], rest[least]) {
				least = i
			}
		}
		out = append(out, rest[least])
		rest = slices.Delete(rest, least, least+1)
	}
	return out
}

func TestManyCalls(t *testing.T) { // 7.2
	for _, few := range []int{2, 5, 40} {
		l := shuffled(rising())[:few]
		x, want := New(few), &slow{}
		for i, c := range mixed(4000, 3*few) {
			k := l[c%few]
			switch c / few {
			case 0:
				if x.Put(k, i) != want.put(k, i) {
					t.Fatalf("Put(%#v)", k)
				}
			case 1:
				if x.Drop(k) != want.drop(k) {
					t.Fatalf("Drop(%#v)", k)
				}
			}
			n, ok := x.Get(k)
			if wantN, wantOK := want.get(k); n != wantN || ok != wantOK {
				t.Fatalf("Get(%#v) = %d, %v", k, n, ok)
			}
			if i%16 == 0 {
				checkAll(t, x, want.all()...)
			}
		}
	}
}

func TestManyLabels(t *testing.T) { // 7.2, R1
	const n = 1 << 17
	x := New(0)
	for i := range n {
		if !x.Put(api.Label{Tag: "li", N: n - i}, i) {
			t.Fatal(i)
		}
	}
	l := x.All()
	if x.Len() != n || len(l) != n || !slices.IsSortedFunc(l, compare) {
		t.Fatal(x.Len(), len(l))
	}
	for i := range n {
		if got, ok := x.Get(api.Label{Tag: "li", N: n - i}); got != i || !ok {
			t.Fatal(i, got, ok)
		}
		if i%2 == 0 && !x.Drop(api.Label{Tag: "li", N: n - i}) {
			t.Fatal(i)
		}
	}
	if x.Len() != n/2 || len(x.All()) != n/2 {
		t.Error(x.Len())
	}
}

func TestArgumentsStay(t *testing.T) { // R4
	whole := []api.Label{tag("b"), tag("a"), tag("b"), tag("x"), tag("y")}
	before := slices.Clone(whole)
	x := Of(whole[:3]...)
	x.Put(tag("c"), 4)
	all := x.All()
	clear(all[:cap(all)])
	if !slices.Equal(whole, before) {
		t.Errorf("%#v became %#v", before, whole)
	}
	clear(whole)
	checkAll(t, x, tag("a"), tag("b"), tag("c"))
	checkGet(t, x, tag("b"), 0, true)
}

func TestResultsStay(t *testing.T) { // R4
	x := Of(tag("b"), tag("a"))
	first, second := x.All(), x.All()
	x.Put(tag("0"), 3)
	x.Drop(tag("b"))
	clear(first)
	if !slices.Equal(second, []api.Label{tag("a"), tag("b")}) {
		t.Errorf("%#v", second)
	}
	checkAll(t, x, tag("0"), tag("a"))
}
