package ranks

import (
	"math"
	"slices"
	"testing"
)

// The calls keep the signatures that the chapter lists.
var (
	_ func([]int) bool               = Is
	_ func([]int) []int              = Turn
	_ func([]int) []int              = Sorted
	_ func([]int) []int              = Ranks
	_ func([]int) int                = Turned
	_ func([]int, []string) []string = Do[string]
)

// over returns every list of at most n of the numbers.
func over(numbers []int, n int) [][]int {
	out := [][]int{nil}
	from := 0
	for range n {
		to := len(out)
		for _, l := range out[from:to] {
			for _, x := range numbers {
				out = append(out, append(slices.Clone(l), x))
			}
		}
		from = to
	}
	return out
}

// orders returns every permutation of n things, each made by putting n-1 into one of n-1 things.
func orders(n int) [][]int {
	if n == 0 {
		return [][]int{{}}
	}
	var out [][]int
	for _, p := range orders(n - 1) {
		for at := range n {
			out = append(out, slices.Insert(slices.Clone(p), at, n-1))
		}
	}
	return out
}

// mixed returns n numbers below limit that follow a fixed rule and look like chance.
func mixed(n, limit int) []int {
	out := make([]int, n)
	state := uint64(n)
	for i := range out {
		state = state*6364136223846793005 + 1442695040888963407
		out[i] = int(state>>33) % limit
	}
	return out
}

// lists are many small lists, some with the extreme integers, and a few long ones.
func lists() [][]int {
	out := over([]int{0, 1, 2, 3}, 5)
	out = append(out, over([]int{math.MinInt, -1, 0, math.MaxInt}, 4)...)
	for _, n := range []int{6, 7, 8, 9, 31, 32, 33, 100, 257} {
		out = append(out, mixed(n, 5), mixed(n, 1000000))
	}
	return out
}

// holds counts how often x is in p.
func holds(p []int, x int) int {
	count := 0
	for _, y := range p {
		if y == x {
			count++
		}
	}
	return count
}

func isOrder(p []int) bool {
	for x := range p {
		if holds(p, x) != 1 {
			return false
		}
	}
	return true
}

// ahead is how many elements are less than the one at i, or equal to it and at a smaller index.
func ahead(l []int, i int) int {
	count := 0
	for j, x := range l {
		if x < l[i] || x == l[i] && j < i {
			count++
		}
	}
	return count
}

func inversions(l []int) int {
	count := 0
	for j := range l {
		for i := range j {
			if l[i] > l[j] {
				count++
			}
		}
	}
	return count
}

func TestIs(t *testing.T) { // 5.1
	cases := []struct {
		p    []int
		want bool
	}{
		{nil, true},
		{[]int{}, true},
		{[]int{0}, true},
		{[]int{1}, false},
		{[]int{-1}, false},
		{[]int{0, 1}, true},
		{[]int{1, 0}, true},
		{[]int{0, 0}, false},
		{[]int{1, 1}, false},
		{[]int{1, 2}, false},
		{[]int{0, 2}, false},
		{[]int{-1, 0}, false},
		{[]int{2, 0, 1}, true},
		{[]int{2, 0, 2}, false},
		{[]int{3, 0, 1}, false},
		{[]int{0, math.MaxInt}, false},
		{[]int{0, math.MinInt}, false},
		{[]int{0, math.MinInt + 1}, false},
	}
	for _, c := range cases {
		if got := Is(c.p); got != c.want {
			t.Errorf("Is(%v) = %v", c.p, got)
		}
	}
}

func TestIsEverySmallList(t *testing.T) { // 5.1
	count := 0
	for _, p := range over([]int{-1, 0, 1, 2, 3, 4, 5}, 5) {
		got := Is(p)
		if got != isOrder(p) {
			t.Fatalf("Is(%v) = %v", p, got)
		}
		if got {
			count++
		}
	}
	if count != 1+1+2+6+24+120 {
		t.Errorf("%d permutations of at most five things", count)
	}
}

func TestIsStopsAtTheFirstFault(t *testing.T) { // R1
	p := make([]int, 1<<22)
	p[0] = -1
	for range 100 {
		if Is(p) || Turn(p) != nil || Do(p, p) != nil {
			t.Fatal("a list with a negative number is taken")
		}
	}
}

func TestTurn(t *testing.T) { // 5.1
	cases := []struct{ p, want []int }{
		{nil, nil},
		{[]int{}, nil},
		{[]int{0}, []int{0}},
		{[]int{1, 0}, []int{1, 0}},
		{[]int{2, 0, 1}, []int{1, 2, 0}},
		{[]int{1, 2, 0}, []int{2, 0, 1}},
		{[]int{3, 1, 0, 2}, []int{2, 1, 3, 0}},
	}
	for _, c := range cases {
		if got := Turn(c.p); !slices.Equal(got, c.want) {
			t.Errorf("Turn(%v) = %v", c.p, got)
		}
	}
}

func TestTurnIsTheInverse(t *testing.T) { // 5.1
	for n := range 7 {
		for _, p := range orders(n) {
			turned := Turn(p)
			if len(turned) != n {
				t.Fatalf("Turn(%v) = %v", p, turned)
			}
			for x, at := range turned {
				if slices.Index(p, x) != at {
					t.Fatalf("Turn(%v) = %v", p, turned)
				}
			}
		}
	}
}

func TestTurnRefuses(t *testing.T) { // 5.1
	for _, p := range over([]int{-1, 0, 1, 2, 3, 4}, 4) {
		if got := Turn(p); !isOrder(p) && got != nil {
			t.Fatalf("Turn(%v) = %v", p, got)
		}
	}
	for _, p := range [][]int{{math.MaxInt}, {math.MinInt}, {1, math.MaxInt}, {0, 1, math.MinInt}} {
		if got := Turn(p); got != nil {
			t.Errorf("Turn(%v) = %v", p, got)
		}
	}
}

func TestSorted(t *testing.T) { // 5.2
	cases := []struct{ l, want []int }{
		{nil, nil},
		{[]int{7}, []int{0}},
		{[]int{30, 10, 20}, []int{1, 2, 0}},
		{[]int{3, 1, 3, 2}, []int{1, 3, 0, 2}},
		{[]int{5, 5, 5}, []int{0, 1, 2}},
		{[]int{2, 1, 2, 1, 2}, []int{1, 3, 0, 2, 4}},
		{[]int{0, -1, math.MaxInt, math.MinInt}, []int{3, 1, 0, 2}},
	}
	for _, c := range cases {
		if got := Sorted(c.l); !slices.Equal(got, c.want) {
			t.Errorf("Sorted(%v) = %v", c.l, got)
		}
	}
}

func TestSortedOrder(t *testing.T) { // 5.2
	for _, l := range lists() {
		want := make([]int, len(l))
		for i := range l {
			want[ahead(l, i)] = i
		}
		if got := Sorted(l); !slices.Equal(got, want) {
			t.Fatalf("Sorted(%v) = %v, not %v", l, got, want)
		}
	}
}

func TestRanks(t *testing.T) { // 5.2
	cases := []struct{ l, want []int }{
		{nil, nil},
		{[]int{-7}, []int{0}},
		{[]int{30, 10, 20}, []int{2, 0, 1}},
		{[]int{3, 1, 3, 2}, []int{2, 0, 3, 1}},
		{[]int{5, 5, 5}, []int{0, 1, 2}},
		{[]int{math.MaxInt, math.MinInt, 0}, []int{2, 0, 1}},
	}
	for _, c := range cases {
		if got := Ranks(c.l); !slices.Equal(got, c.want) {
			t.Errorf("Ranks(%v) = %v", c.l, got)
		}
	}
}

func TestRanksCount(t *testing.T) { // 5.2
	for _, l := range lists() {
		got := Ranks(l)
		if len(got) != len(l) {
			t.Fatalf("Ranks(%v) = %v", l, got)
		}
		for i := range l {
			if got[i] != ahead(l, i) {
				t.Fatalf("Ranks(%v) = %v", l, got)
			}
		}
	}
}

func TestTurned(t *testing.T) { // 5.3
	cases := []struct {
		l    []int
		want int
	}{
		{nil, 0},
		{[]int{9}, 0},
		{[]int{1, 2}, 0},
		{[]int{2, 1}, 1},
		{[]int{1, 1}, 0},
		{[]int{1, 1, 2}, 0},
		{[]int{30, 10, 20}, 2},
		{[]int{3, 1, 3, 2}, 3},
		{[]int{4, 3, 2, 1}, 6},
		{[]int{2, 2, 1, 1}, 4},
		{[]int{math.MaxInt, math.MinInt}, 1},
		{[]int{math.MinInt, math.MaxInt}, 0},
	}
	for _, c := range cases {
		if got := Turned(c.l); got != c.want {
			t.Errorf("Turned(%v) = %d", c.l, got)
		}
	}
}

func TestTurnedCount(t *testing.T) { // 5.3
	for _, l := range lists() {
		if got := Turned(l); got != inversions(l) {
			t.Fatalf("Turned(%v) = %d, not %d", l, got, inversions(l))
		}
	}
}

func TestTurnedOfALongList(t *testing.T) { // 5.3, R1
	const n = 1 << 20
	l := make([]int, n)
	for i := range l {
		l[i] = -i
	}
	// More pairs than 32 bits hold.
	if got := Turned(l); got != n*(n-1)/2 {
		t.Errorf("Turned of %d falling numbers = %d", n, got)
	}
}

func TestDo(t *testing.T) { // 5.4
	if got := Do([]int{1, 0}, []string{"a", "b"}); !slices.Equal(got, []string{"b", "a"}) {
		t.Error(got)
	}
	if got := Do([]int{2, 0, 1}, []string{"a", "b", "c"}); !slices.Equal(got, []string{"c", "a", "b"}) {
		t.Error(got)
	}
	type pair struct{ a, b int }
	if got := Do([]int{1, 0}, []pair{{1, 2}, {3, 4}}); !slices.Equal(got, []pair{{3, 4}, {1, 2}}) {
		t.Error(got)
	}
	one, two := 1, 2
	if got := Do([]int{1, 0}, []*int{&one, &two}); !slices.Equal(got, []*int{&two, &one}) {
		t.Error("the pointers are others")
	}
	if got := Do([]int{1, 0}, []any{nil, 7}); len(got) != 2 || got[0] != 7 || got[1] != nil {
		t.Error(got)
	}
	if got := Do([]int{1, 0}, [][]int{{1}, nil}); len(got) != 2 || got[0] != nil || !slices.Equal(got[1], []int{1}) {
		t.Error(got)
	}
	if got := Do(nil, []string{}); len(got) != 0 {
		t.Error(got)
	}
	if got := Do[string]([]int{}, nil); len(got) != 0 {
		t.Error(got)
	}
}

func TestDoEveryOrder(t *testing.T) { // 5.4
	for n := range 7 {
		l := mixed(n, 3)
		for _, p := range orders(n) {
			got := Do(p, l)
			if len(got) != n {
				t.Fatalf("Do(%v, %v) = %v", p, l, got)
			}
			for i, x := range p {
				if got[i] != l[x] {
					t.Fatalf("Do(%v, %v) = %v", p, l, got)
				}
			}
		}
	}
}

func TestDoRefuses(t *testing.T) { // 5.4
	for _, p := range over([]int{-1, 0, 1, 2, 3}, 4) {
		for n := range 6 {
			got := Do(p, make([]string, n))
			if (!isOrder(p) || len(p) != n) && got != nil {
				t.Fatalf("Do(%v, %d strings) = %v", p, n, got)
			}
		}
	}
	if got := Do([]int{0, math.MaxInt}, []string{"a", "b"}); got != nil {
		t.Error(got)
	}
	if got := Do([]int{math.MinInt, 0}, []string{"a", "b"}); got != nil {
		t.Error(got)
	}
}

func TestRanksTurnSorted(t *testing.T) { // 5.5
	for _, l := range lists() {
		if !slices.Equal(Ranks(l), Turn(Sorted(l))) {
			t.Fatalf("Ranks(%v) = %v, Sorted %v", l, Ranks(l), Sorted(l))
		}
		if !Is(Ranks(l)) || !Is(Sorted(l)) {
			t.Fatalf("%v has no permutations", l)
		}
		if !slices.IsSorted(Do(Sorted(l), l)) {
			t.Fatalf("Sorted(%v) = %v", l, Sorted(l))
		}
	}
}

func TestTurnedOfRanks(t *testing.T) { // 5.5
	for _, l := range lists() {
		if (Turned(l) == 0) != slices.IsSorted(l) {
			t.Fatalf("Turned(%v) = %d", l, Turned(l))
		}
		if Turned(Ranks(l)) != Turned(l) {
			t.Fatalf("Turned(%v) = %d, of the ranks %d", l, Turned(l), Turned(Ranks(l)))
		}
	}
}

func TestTurnUndoesDo(t *testing.T) { // 5.5
	for n := range 7 {
		l := mixed(n, 3)
		for _, p := range orders(n) {
			if got := Do(Turn(p), Do(p, l)); !slices.Equal(got, l) {
				t.Fatalf("%v becomes %v by %v and back", l, got, p)
			}
		}
	}
}

// spared returns l with spare capacity, and the whole memory of both.
func spared(l []int) ([]int, []int) {
	whole := append(slices.Clone(l), 77, 78, 79, 80)
	return whole[:len(l)], whole
}

func TestArgumentsStay(t *testing.T) { // R4
	for _, l := range append(over([]int{0, 1, 2}, 3), []int{9, 3, 9, -4, 0}) {
		arg, whole := spared(l)
		before := slices.Clone(whole)
		Is(arg)
		Turned(arg)
		for _, out := range [][]int{Turn(arg), Sorted(arg), Ranks(arg), Do(arg, arg), Do(Sorted(arg), arg)} {
			out = out[:cap(out)]
			for i := range out {
				out[i] = -1000
			}
		}
		if !slices.Equal(whole, before) {
			t.Fatalf("%v became %v", before, whole)
		}
	}
}

func TestResultsStay(t *testing.T) { // R4
	p := []int{2, 0, 1}
	turned, sorted, ranked, done := Turn(p), Sorted(p), Ranks(p), Do(p, p)
	clear(p)
	for i, got := range [][]int{turned, sorted, ranked, done} {
		want := [][]int{{1, 2, 0}, {1, 2, 0}, {2, 0, 1}, {1, 2, 0}}[i]
		if !slices.Equal(got, want) {
			t.Errorf("%v is not %v", got, want)
		}
	}
}
