package moves

import (
	"math"
	"math/bits"
	"slices"
	"testing"

	"tendril/api"
	"tendril/lis"
)

// The calls keep the signatures that the chapter lists.
var (
	_ func([]int) api.Errno              = Check
	_ func([]int) []bool                 = Stay
	_ func([]int) int                    = Least
	_ func([]int) ([]Step, api.Errno)    = Plan
	_ func([]int, ...Step) ([]int, bool) = Do
	_                                    = struct{ At, Before int }(Step{})
)

// over returns every list of at most n of the numbers.
func over(numbers []int, n int) [][]int {
	out := [][]int{nil}
	from := 0
	for range n {
		to := len(out)
		for _, l := range out[from:to] {
			for _, x := range numbers {
				out = append(out, append(slices.Clone(l), x))
			}
		}
		from = to
	}
	return out
}

// mixed returns n numbers from 0 to below high that follow a fixed rule and look like chance.
func mixed(n, high int) []int {
	out := make([]int, n)
	state := uint64(n)
	for i := range out {
		state = state*6364136223846793005 + 1442695040888963407
		out[i] = int(state>>33) % high
	}
	return out
}

// twice tells whether two nonnegative elements are equal, by holding all of them against each other.
func twice(l []int) bool {
	for i, x := range l {
		for _, y := range l[:i] {
			if x >= 0 && x == y {
				return true
			}
		}
	}
	return false
}

// shuffled returns n things of which about every seventh is new.
func shuffled(n int) []int {
	l := make([]int, n)
	for i := range l {
		l[i] = 3 * i
	}
	for i, j := range mixed(n, max(n, 1)) {
		l[i], l[j] = l[j], l[i]
	}
	for i := 3; i < n; i += 7 {
		l[i] = -i
	}
	return l
}

// lists are all small lists of a few numbers that Check takes, some with the extreme integers, and a
// few long ones.
func lists() [][]int {
	out := over([]int{-1, 0, 1, 2, 3, 9}, 5)
	out = append(out, over([]int{math.MinInt, -7, 0, math.MaxInt - 1, math.MaxInt}, 4)...)
	out = slices.DeleteFunc(out, twice)
	for n := 6; n < 100; n += 9 {
		out = append(out, shuffled(n))
	}
	return out
}

// refused are lists that Check rejects.
func refused() [][]int {
	out := over([]int{-1, 0, 1, math.MaxInt}, 4)
	return slices.DeleteFunc(out, func(l []int) bool { return !twice(l) })
}

// standing returns the things that are not new, by looking for the next one again and again.
func standing(l []int) []int {
	var out []int
	for {
		next := -1
		for thing, stood := range l {
			if stood >= 0 && !slices.Contains(out, thing) && (next < 0 || stood < l[next]) {
				next = thing
			}
		}
		if next < 0 {
			return out
		}
		out = append(out, next)
	}
}

// slowStep executes one step on a line-up of some of n things.
func slowStep(lineUp []int, n int, s Step) ([]int, bool) {
	if s.At < 0 || s.At >= n {
		return nil, false
	}
	if s.Before != -1 && (s.Before == s.At || !slices.Contains(lineUp, s.Before)) {
		return nil, false
	}
	var rest []int
	for _, thing := range lineUp {
		if thing != s.At {
			rest = append(rest, thing)
		}
	}
	at := slices.Index(rest, s.Before)
	if s.Before == -1 {
		at = len(rest)
	}
	return slices.Insert(rest, at, s.At), true
}

// slowDo executes steps one by one.
func slowDo(l []int, steps []Step) ([]int, bool) {
	lineUp, ok := standing(l), !twice(l)
	for i := 0; ok && i < len(steps); i++ {
		lineUp, ok = slowStep(lineUp, len(l), steps[i])
	}
	if !ok {
		return nil, false
	}
	return lineUp, true
}

// inOrder returns the first n numbers.
func inOrder(n int) []int {
	out := make([]int, n)
	for i := range out {
		out[i] = i
	}
	return out
}

// checkDo compares the answer of Do.
func checkDo(t *testing.T, l []int, want []int, wantOK bool, steps ...Step) {
	t.Helper()
	if got, ok := Do(l, steps...); !slices.Equal(got, want) || ok != wantOK {
		t.Fatalf("Do(%v, %v) = %v, %v, want %v, %v", l, steps, got, ok, want, wantOK)
	}
}

func TestCheck(t *testing.T) { // 8.1
	cases := []struct {
		l    []int
		want api.Errno
	}{
		{nil, api.OK},
		{[]int{}, api.OK},
		{[]int{0}, api.OK},
		{[]int{5, 3, 4}, api.OK},
		{[]int{-1, -1, -1}, api.OK}, // new things are no places
		{[]int{math.MinInt, math.MinInt, 0}, api.OK},
		{[]int{0, 0}, api.ErrTwice},
		{[]int{1, 1}, api.ErrTwice},
		{[]int{1, -1, 2, 1}, api.ErrTwice},
		{[]int{0, 1, 2, 3, 2}, api.ErrTwice},
		{[]int{math.MaxInt, 0, math.MaxInt}, api.ErrTwice},
	}
	for _, c := range cases {
		if got := Check(c.l); got != c.want {
			t.Errorf("Check(%v) = %v", c.l, got)
		}
	}
	for _, l := range over([]int{math.MinInt, -1, 0, 1, 2, math.MaxInt}, 5) {
		if (Check(l) == api.ErrTwice) != twice(l) || (Check(l) == api.OK) == twice(l) {
			t.Fatalf("Check(%v) = %v", l, Check(l))
		}
	}
}

func TestRefusedLists(t *testing.T) { // 8.1, 8.3
	for _, l := range refused() {
		if got := Stay(l); len(got) != 0 {
			t.Fatalf("Stay(%v) = %v", l, got)
		}
		if got := Least(l); got != 0 {
			t.Fatalf("Least(%v) = %d", l, got)
		}
		if got, err := Plan(l); len(got) != 0 || err != api.ErrTwice {
			t.Fatalf("Plan(%v) = %v, %v", l, got, err)
		}
		checkDo(t, l, nil, false)
		checkDo(t, l, nil, false, Step{At: 0, Before: -1})
		checkDo(t, l, nil, false, Step{At: -5, Before: -5})
	}
}

func TestStay(t *testing.T) { // 8.2
	cases := []struct {
		l    []int
		want []bool
	}{
		{nil, nil},
		{[]int{0}, []bool{true}},
		{[]int{-1}, []bool{false}},
		{[]int{7}, []bool{true}},
		{[]int{0, 1, 2}, []bool{true, true, true}},
		{[]int{1, 2, 0}, []bool{true, true, false}},
		{[]int{2, 0, 1}, []bool{false, true, true}},
		{[]int{2, 0, -1, 1}, []bool{false, true, false, true}},
		{[]int{2, 1, 0}, []bool{false, false, true}}, // of several, the choice of 6.2
		{[]int{0, 2, 1}, []bool{true, false, true}},
		{[]int{math.MinInt, math.MaxInt}, []bool{false, true}},
	}
	for _, c := range cases {
		if got := Stay(c.l); !slices.Equal(got, c.want) {
			t.Errorf("Stay(%v) = %v", c.l, got)
		}
	}
	for _, l := range lists() {
		got, choice := Stay(l), lis.Longest(l)
		if len(got) != len(l) {
			t.Fatalf("Stay(%v) = %v", l, got)
		}
		for thing, stays := range got {
			if stays != slices.Contains(choice, thing) || stays && l[thing] < 0 {
				t.Fatalf("Stay(%v) = %v", l, got)
			}
		}
	}
}

func TestLeast(t *testing.T) { // 8.2
	cases := []struct {
		l    []int
		want int
	}{
		{nil, 0},
		{[]int{5}, 0},
		{[]int{-1, -2}, 0},
		{[]int{0, 1, 2}, 0},
		{[]int{1, 2, 0}, 1},
		{[]int{2, 1, 0}, 2},
		{[]int{2, 0, -1, 1}, 1},
		{[]int{-1, 1, -1, 0, -1}, 1},
		{[]int{9, 7, 5, 3, 1}, 4},
	}
	for _, c := range cases {
		if got := Least(c.l); got != c.want {
			t.Errorf("Least(%v) = %d", c.l, got)
		}
	}
	for _, l := range lists() {
		want := 0
		for thing, stays := range Stay(l) {
			if l[thing] >= 0 && !stays {
				want++
			}
		}
		if got := Least(l); got != want || got != len(standing(l))-lis.Length(l) {
			t.Fatalf("Least(%v) = %d", l, got)
		}
	}
}

func TestPlan(t *testing.T) { // 8.3
	cases := []struct {
		l    []int
		want []Step
	}{
		{nil, nil},
		{[]int{4}, nil},
		{[]int{0, 1, 2}, nil},
		{[]int{-1}, []Step{{0, -1}}},
		{[]int{-1, -1}, []Step{{1, -1}, {0, 1}}},
		{[]int{1, 2, 0}, []Step{{2, -1}}},
		{[]int{2, 0, 1}, []Step{{0, 1}}},
		{[]int{2, 0, -1, 1}, []Step{{2, 3}, {0, 1}}},
		{[]int{2, 1, 0}, []Step{{1, 2}, {0, 1}}},
		{[]int{0, 1, -1}, []Step{{2, -1}}},
	}
	for _, c := range cases {
		if got, err := Plan(c.l); !slices.Equal(got, c.want) || err != api.OK {
			t.Errorf("Plan(%v) = %v, %v", c.l, got, err)
		}
	}
	for _, l := range lists() {
		var want []Step
		stay := Stay(l)
		for thing := len(l) - 1; thing >= 0; thing-- {
			switch {
			case stay[thing]:
			case thing == len(l)-1:
				want = append(want, Step{At: thing, Before: -1})
			default:
				want = append(want, Step{At: thing, Before: thing + 1})
			}
		}
		if got, err := Plan(l); !slices.Equal(got, want) || err != api.OK {
			t.Fatalf("Plan(%v) = %v, %v, want %v", l, got, err, want)
		}
	}
}

func TestDo(t *testing.T) { // 8.4
	checkDo(t, nil, nil, true)
	checkDo(t, []int{-1, -1}, nil, true)
	checkDo(t, []int{2, 0, -1, 1}, []int{1, 3, 0}, true)
	checkDo(t, []int{math.MaxInt, -1, 0}, []int{2, 0}, true)
	l := []int{2, 0, -1, 1}
	checkDo(t, l, []int{0, 1, 3}, true, Step{0, 1})
	checkDo(t, l, []int{3, 0, 1}, true, Step{1, -1})
	checkDo(t, l, []int{1, 3, 0, 2}, true, Step{2, -1})
	checkDo(t, l, []int{2, 1, 3, 0}, true, Step{2, 1})
	checkDo(t, l, []int{1, 3, 0}, true, Step{0, -1}) // stays at the end
	checkDo(t, l, []int{1, 3, 0}, true, Step{1, 3})  // stays ahead of 3
	checkDo(t, l, []int{1, 2, 3, 0}, true, Step{2, -1}, Step{2, 3})
	checkDo(t, l, []int{1, 3, 0, 2}, true, Step{2, -1}, Step{0, 2}) // 2 has come by a step
	checkDo(t, []int{-1}, []int{0}, true, Step{0, -1}, Step{0, -1})
}

func TestDoRefuses(t *testing.T) { // 8.4
	l := []int{2, 0, -1, 1}
	for _, at := range []int{math.MinInt, -2, -1, 4, 5, math.MaxInt} {
		checkDo(t, l, nil, false, Step{at, -1})
		checkDo(t, l, nil, false, Step{at, 0})
		checkDo(t, l, nil, false, Step{at, at})
		checkDo(t, l, nil, false, Step{0, 1}, Step{at, -1})
	}
	for _, before := range []int{math.MinInt, -2, 4, 5, math.MaxInt} {
		checkDo(t, l, nil, false, Step{0, before})
		checkDo(t, l, nil, false, Step{2, before})
	}
	checkDo(t, l, nil, false, Step{0, 2})                          // new, and not there yet
	checkDo(t, l, nil, false, Step{0, 0})                          // itself, though it is there
	checkDo(t, l, nil, false, Step{2, 2})                          // itself, and not there
	checkDo(t, l, nil, false, Step{0, 2}, Step{2, -1})             // too late
	checkDo(t, l, nil, false, Step{2, -1}, Step{2, 2})             // itself, since the first step
	checkDo(t, l, nil, false, Step{2, -1}, Step{0, 1}, Step{9, 1}) // the last one
	checkDo(t, nil, nil, false, Step{0, -1})
	checkDo(t, nil, nil, false, Step{-1, -1})
}

func TestDoEveryStep(t *testing.T) { // 8.4
	for _, l := range slices.DeleteFunc(over([]int{-1, 0, 4, 5}, 3), twice) {
		var steps []Step
		for at := -2; at <= len(l)+1; at++ {
			for before := -2; before <= len(l)+1; before++ {
				steps = append(steps, Step{at, before})
			}
		}
		for _, first := range steps {
			want, ok := slowDo(l, []Step{first})
			checkDo(t, l, want, ok, first)
			for _, second := range steps {
				want, ok := slowDo(l, []Step{first, second})
				checkDo(t, l, want, ok, first, second)
			}
		}
	}
}

func TestDoManySteps(t *testing.T) { // 8.4
	for _, l := range lists() {
		n := len(l)
		if n < 2 {
			continue
		}
		var steps []Step
		for i, at := range mixed(30, n) {
			before := mixed(i+40, n+1)[i] - 1
			// A step that cannot be done would hide those that follow.
			if _, ok := slowDo(l, append(slices.Clone(steps), Step{at, before})); ok {
				steps = append(steps, Step{at, before})
			}
		}
		want, _ := slowDo(l, steps)
		checkDo(t, l, want, true, steps...)
	}
}

func TestPlanBringsAllInOrder(t *testing.T) { // 8.5
	for _, l := range lists() {
		steps, _ := Plan(l)
		checkDo(t, l, inOrder(len(l)), true, steps...)
	}
}

// state is a line-up with the set of the things that are not new and have been moved.
type state struct {
	lineUp [4]int
	length int
	moved  uint
}

// fewest tries all sequences of steps, and returns the smallest number of things that are not new
// and are moved by one that brings all of them in order; for at most four things.
func fewest(l []int) int {
	first := state{length: len(standing(l))}
	copy(first.lineUp[:], standing(l))
	seen, work := map[state]bool{first: true}, []state{first}
	best := math.MaxInt
	for len(work) > 0 {
		s := work[0]
		work = work[1:]
		if slices.Equal(s.lineUp[:s.length], inOrder(len(l))) {
			best = min(best, bits.OnesCount(s.moved))
		}
		for at := range l {
			for before := -1; before < len(l); before++ {
				lineUp, ok := slowStep(s.lineUp[:s.length], len(l), Step{at, before})
				if !ok {
					continue
				}
				next := state{length: len(lineUp), moved: s.moved}
				copy(next.lineUp[:], lineUp)
				if l[at] >= 0 {
					next.moved |= 1 << at
				}
				if !seen[next] {
					seen[next] = true
					work = append(work, next)
				}
			}
		}
	}
	return best
}

func TestNoStepsMoveFewer(t *testing.T) { // 8.6
	for _, l := range slices.DeleteFunc(over([]int{-1, 0, 1, 2, 3}, 4), twice) {
		if got := fewest(l); got != Least(l) {
			t.Fatalf("Least(%v) = %d, but %d will do", l, Least(l), got)
		}
	}
}

func TestPlanMovesTheLeast(t *testing.T) { // 8.6
	for _, l := range lists() {
		steps, _ := Plan(l)
		moved, seen := 0, map[int]bool{}
		for _, s := range steps {
			if seen[s.At] {
				t.Fatalf("Plan(%v) = %v", l, steps)
			}
			seen[s.At] = true
			if l[s.At] >= 0 {
				moved++
			}
		}
		if moved != Least(l) {
			t.Fatalf("Plan(%v) moves %d, Least is %d", l, moved, Least(l))
		}
	}
}

func TestLongLists(t *testing.T) { // R1
	const n = 1 << 18
	falling := make([]int, n)
	for i := range falling {
		falling[i] = n - i
	}
	for _, l := range [][]int{inOrder(n), falling, shuffled(n)} {
		steps, err := Plan(l)
		got, ok := Do(l, steps...)
		if err != api.OK || !ok || !slices.Equal(got, inOrder(n)) {
			t.Error("not in order", err, ok)
		}
	}
	if got, err := Plan(append(inOrder(n), 0)); len(got) != 0 || err != api.ErrTwice {
		t.Error(len(got), err)
	}
	if Least(falling) != n-1 || Least(inOrder(n)) != 0 {
		t.Error(Least(falling), Least(inOrder(n)))
	}
}

func TestArgumentsStay(t *testing.T) { // R4
	for _, l := range over([]int{-1, 0, 1, 2}, 4) {
		whole := append(slices.Clone(l), 77, 78, 79)
		before := slices.Clone(whole)
		arg := whole[:len(l)]
		Check(arg)
		Least(arg)
		stay := Stay(arg)
		clear(stay[:cap(stay)])
		steps, _ := Plan(arg)
		given := append(slices.Clone(steps), Step{55, 56})
		givenBefore := slices.Clone(given)
		got, _ := Do(arg, given[:len(steps)]...)
		clear(got[:cap(got)])
		if !slices.Equal(given, givenBefore) {
			t.Fatalf("%v became %v", givenBefore, given)
		}
		clear(steps[:cap(steps)])
		if !slices.Equal(whole, before) {
			t.Fatalf("%v became %v", before, whole)
		}
	}
}

func TestResultsStay(t *testing.T) { // R4
	l := []int{2, 0, -1, 1}
	stay := Stay(l)
	steps, _ := Plan(l)
	kept := slices.Clone(steps)
	got, _ := Do(l, steps...)
	clear(l)
	clear(steps)
	if !slices.Equal(stay, []bool{false, true, false, true}) || !slices.Equal(got, inOrder(4)) {
		t.Error(stay, got)
	}
	if !slices.Equal(kept, []Step{{2, 3}, {0, 1}}) {
		t.Error(kept)
	}
}
