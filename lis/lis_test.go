package lis

import (
	"math"
	"slices"
	"testing"
)

// The calls keep the signatures that the chapter lists.
var (
	_ func([]int) []int   = Ends
	_ func([]int) int     = Length
	_ func([]int) []int   = Longest
	_ func([]int) [][]int = Piles
)

// over returns every list of at most n of the numbers.
func over(numbers []int, n int) [][]int {
	out := [][]int{nil}
	from := 0
	for range n {
		to := len(out)
		for _, l := range out[from:to] {
			for _, x := range numbers {
				out = append(out, append(slices.Clone(l), x))
			}
		}
		from = to
	}
	return out
}

// mixed returns n numbers from low to below high that follow a fixed rule and look like chance.
func mixed(n, low, high int) []int {
	out := make([]int, n)
	state := uint64(n)
	for i := range out {
		state = state*6364136223846793005 + 1442695040888963407
		out[i] = low + int(state>>33)%(high-low)
	}
	return out
}

// lists are all small lists of a few numbers, some with the extreme integers, and a few long ones.
func lists() [][]int {
	out := over([]int{-1, 0, 1, 2, 3}, 6)
	out = append(out, over([]int{math.MinInt, -1, 0, math.MaxInt - 1, math.MaxInt}, 4)...)
	for n := 7; n < 120; n += 4 {
		out = append(out, mixed(n, -2, 6), mixed(n, -20, 100), mixed(n, 0, 1000000))
	}
	return out
}

// isChoice tells whether indices are an increasing choice.
func isChoice(l, indices []int) bool {
	for k, i := range indices {
		if i < 0 || i >= len(l) || l[i] < 0 {
			return false
		}
		if k > 0 && (indices[k-1] >= i || l[indices[k-1]] >= l[i]) {
			return false
		}
	}
	return true
}

// triedEnds tries every set of indices; for short lists.
func triedEnds(l []int) []int {
	out := make([]int, len(l))
	for set := range 1 << len(l) {
		var indices []int
		for i := range l {
			if set>>i&1 == 1 {
				indices = append(indices, i)
			}
		}
		if len(indices) > 0 && isChoice(l, indices) {
			last := indices[len(indices)-1]
			out[last] = max(out[last], len(indices))
		}
	}
	return out
}

// slowEnds looks at all smaller indices for each.
func slowEnds(l []int) []int {
	out := make([]int, len(l))
	for i, x := range l {
		if x < 0 {
			continue
		}
		out[i] = 1
		for j := range i {
			if l[j] >= 0 && l[j] < x {
				out[i] = max(out[i], out[j]+1)
			}
		}
	}
	return out
}

// smallest is, of the indices below limit with this value of Ends, the one with the smallest
// element, the last one of several.
func smallest(l, ends []int, limit, value int) int {
	best := -1
	for i := range limit {
		if ends[i] == value && (best < 0 || l[i] <= l[best]) {
			best = i
		}
	}
	return best
}

// slowLongest chooses index by index from the last one.
func slowLongest(l []int) []int {
	ends := slowEnds(l)
	value := 0
	for _, end := range ends {
		value = max(value, end)
	}
	var out []int
	limit := len(l)
	for ; value > 0; value-- {
		limit = smallest(l, ends, limit, value)
		out = slices.Insert(out, 0, limit)
	}
	return out
}

// slowPiles puts index by index on the first pile that takes it.
func slowPiles(l []int) [][]int {
	var out [][]int
	for i, x := range l {
		if x < 0 {
			continue
		}
		at := slices.IndexFunc(out, func(pile []int) bool { return l[pile[len(pile)-1]] >= x })
		if at < 0 {
			at = len(out)
			out = append(out, nil)
		}
		out[at] = append(out[at], i)
	}
	return out
}

func samePiles(a, b [][]int) bool {
	return slices.EqualFunc(a, b, func(x, y []int) bool { return slices.Equal(x, y) })
}

func TestEnds(t *testing.T) { // 6.1
	cases := []struct{ l, want []int }{
		{nil, nil},
		{[]int{}, nil},
		{[]int{0}, []int{1}},
		{[]int{-1}, []int{0}},
		{[]int{math.MinInt}, []int{0}},
		{[]int{math.MaxInt}, []int{1}},
		{[]int{5, 5, 5}, []int{1, 1, 1}},
		{[]int{1, 2, 3}, []int{1, 2, 3}},
		{[]int{3, 2, 1}, []int{1, 1, 1}},
		{[]int{2, 0, -1, 1, 3}, []int{1, 1, 0, 2, 3}},
		{[]int{-3, -2, -1}, []int{0, 0, 0}},
		{[]int{-3, 0, -2, 1}, []int{0, 1, 0, 2}},
		{[]int{3, 1, 4, 1, 5, 9, 2, 6}, []int{1, 1, 2, 1, 3, 4, 2, 4}},
	}
	for _, c := range cases {
		if got := Ends(c.l); !slices.Equal(got, c.want) {
			t.Errorf("Ends(%v) = %v", c.l, got)
		}
	}
}

func TestEndsOfEverySet(t *testing.T) { // 6.1
	for _, l := range lists() {
		got := Ends(l)
		if !slices.Equal(got, slowEnds(l)) {
			t.Fatalf("Ends(%v) = %v, not %v", l, got, slowEnds(l))
		}
		if len(l) <= 6 && !slices.Equal(got, triedEnds(l)) {
			t.Fatalf("Ends(%v) = %v, not %v", l, got, triedEnds(l))
		}
	}
}

func TestLength(t *testing.T) { // 6.1
	cases := []struct {
		l    []int
		want int
	}{
		{nil, 0},
		{[]int{}, 0},
		{[]int{-1}, 0},
		{[]int{-5, -4, -3}, 0},
		{[]int{0}, 1},
		{[]int{5, 5, 5}, 1},
		{[]int{1, 2, 3}, 3},
		{[]int{1, 2, 0}, 2},
		{[]int{2, 0, -1, 1, 3}, 3},
		{[]int{0, math.MaxInt - 1, math.MaxInt}, 3},
	}
	for _, c := range cases {
		if got := Length(c.l); got != c.want {
			t.Errorf("Length(%v) = %d", c.l, got)
		}
	}
	for _, l := range lists() {
		want := 0
		for _, end := range slowEnds(l) {
			want = max(want, end)
		}
		if got := Length(l); got != want {
			t.Fatalf("Length(%v) = %d, not %d", l, got, want)
		}
	}
}

func TestLongest(t *testing.T) { // 6.2
	cases := []struct{ l, want []int }{
		{nil, nil},
		{[]int{}, nil},
		{[]int{-1, -2}, nil},
		{[]int{0}, []int{0}},
		{[]int{5, 5}, []int{1}},
		{[]int{2, 1}, []int{1}},
		{[]int{2, 0, -1, 1, 3}, []int{1, 3, 4}},
		{[]int{1, 2, 3}, []int{0, 1, 2}},
		{[]int{1, 3, 2}, []int{0, 2}}, // the smallest last element
		{[]int{1, 2, 2}, []int{0, 2}}, // the last one of several
		{[]int{1, 1, 2}, []int{1, 2}}, // the same ahead of the last one
		{[]int{2, 1, 3}, []int{1, 2}}, // the smallest element ahead
		{[]int{1, 2, 0}, []int{0, 1}}, // the smaller one is not ahead of the last one
		{[]int{0, 5, 1, 6}, []int{0, 2, 3}},
		{[]int{-1, 4, -1, 5, -1}, []int{1, 3}},
	}
	for _, c := range cases {
		if got := Longest(c.l); !slices.Equal(got, c.want) {
			t.Errorf("Longest(%v) = %v", c.l, got)
		}
	}
}

func TestLongestIsTheOneNamed(t *testing.T) { // 6.2
	for _, l := range lists() {
		got := Longest(l)
		if !isChoice(l, got) || len(got) != Length(l) {
			t.Fatalf("Longest(%v) = %v", l, got)
		}
		if !slices.Equal(got, slowLongest(l)) {
			t.Fatalf("Longest(%v) = %v, not %v", l, got, slowLongest(l))
		}
	}
}

func TestPiles(t *testing.T) { // 6.3
	cases := []struct {
		l    []int
		want [][]int
	}{
		{nil, nil},
		{[]int{}, nil},
		{[]int{-1, -1}, nil},
		{[]int{7}, [][]int{{0}}},
		{[]int{2, 0, -1, 1, 3}, [][]int{{0, 1}, {3}, {4}}},
		{[]int{5, 5, 5}, [][]int{{0, 1, 2}}},
		{[]int{1, 2, 1, 2}, [][]int{{0, 2}, {1, 3}}},
		{[]int{3, 2, 1}, [][]int{{0, 1, 2}}},
		{[]int{1, 2, 3}, [][]int{{0}, {1}, {2}}},
		{[]int{-1, 4, -1, 6, 5}, [][]int{{1}, {3, 4}}},
	}
	for _, c := range cases {
		if got := Piles(c.l); !samePiles(got, c.want) {
			t.Errorf("Piles(%v) = %v", c.l, got)
		}
	}
}

func TestPilesAreDealt(t *testing.T) { // 6.3
	for _, l := range lists() {
		if got := Piles(l); !samePiles(got, slowPiles(l)) {
			t.Fatalf("Piles(%v) = %v, not %v", l, got, slowPiles(l))
		}
	}
}

func TestPilesProveTheLength(t *testing.T) { // 6.4
	for _, l := range lists() {
		piles := Piles(l)
		if len(piles) != Length(l) {
			t.Fatalf("%v has %d piles", l, len(piles))
		}
		for _, pile := range piles {
			for k := 1; k < len(pile); k++ {
				if l[pile[k-1]] < l[pile[k]] {
					t.Fatalf("%v has the pile %v", l, pile)
				}
			}
		}
		for k, i := range Longest(l) {
			if !slices.Contains(piles[k], i) {
				t.Fatalf("Longest(%v) = %v, piles %v", l, Longest(l), piles)
			}
		}
	}
}

func TestLongLists(t *testing.T) { // 6.1 to 6.3, R1
	const n = 1 << 20
	rising, falling, wide := make([]int, n), make([]int, n), mixed(n, 0, math.MaxInt32)
	for i := range n {
		rising[i], falling[i] = i, n-i
	}
	if Length(rising) != n || len(Longest(rising)) != n || len(Piles(rising)) != n {
		t.Error("rising numbers")
	}
	if got := Longest(falling); Length(falling) != 1 || len(got) != 1 || got[0] != n-1 || len(Piles(falling)) != 1 {
		t.Error("falling numbers", got)
	}
	if got := Longest(wide); !isChoice(wide, got) || len(got) != Length(wide) {
		t.Error("numbers of all sizes")
	}
}

// spoil writes over a list and its spare capacity.
func spoil(l []int) {
	l = l[:cap(l)]
	for i := range l {
		l[i] = -1000
	}
}

func TestArgumentsStay(t *testing.T) { // R4
	for _, l := range over([]int{-1, 0, 1, 2}, 4) {
		whole := append(slices.Clone(l), 77, 78, 79)
		before := slices.Clone(whole)
		arg := whole[:len(l)]
		Length(arg)
		spoil(Ends(arg))
		spoil(Longest(arg))
		for _, pile := range Piles(arg) {
			spoil(pile)
		}
		if !slices.Equal(whole, before) {
			t.Fatalf("%v became %v", before, whole)
		}
	}
}

func TestPilesShareNothing(t *testing.T) { // R4
	for _, l := range over([]int{0, 1, 2, 3}, 6) {
		want := slowPiles(l)
		for k := range want {
			piles := Piles(l)
			spoil(piles[k])
			want, got := slices.Delete(slowPiles(l), k, k+1), slices.Delete(piles, k, k+1)
			if !samePiles(got, want) {
				t.Fatalf("the piles of %v share memory", l)
			}
		}
	}
}

func TestResultsStay(t *testing.T) { // R4
	l := []int{2, 0, -1, 1, 3}
	ends, longest, piles := Ends(l), Longest(l), Piles(l)
	clear(l)
	if !slices.Equal(ends, []int{1, 1, 0, 2, 3}) || !slices.Equal(longest, []int{1, 3, 4}) {
		t.Error(ends, longest)
	}
	if !samePiles(piles, [][]int{{0, 1}, {3}, {4}}) {
		t.Error(piles)
	}
}
