package adiff

import (
	"fmt"
	"slices"
	"strings"
	"testing"

	"tendril/api"
	"tendril/attrs"
)

// The calls keep the signatures that the chapter lists.
var (
	_ func([]api.Attr, []api.Attr) []Change  = Of
	_ func([]api.Attr, []api.Attr) int       = Names
	_ func([]api.Attr, ...Change) []api.Attr = Do
	_                                        = struct {
		Name, Value string
		Gone        bool
	}(Change{})
)

var longText = strings.Repeat("v", api.MaxText+1)

// list makes a list of names and values in turn.
func list(words ...string) []api.Attr {
	var out []api.Attr
	for i := 0; i+1 < len(words); i += 2 {
		out = append(out, api.Attr{Name: words[i], Value: words[i+1]})
	}
	return out
}

func set(name, value string) Change {
	return Change{Name: name, Value: value}
}

func gone(name string) Change {
	return Change{Name: name, Gone: true}
}

// over returns every list of at most n of the things.
func over[T any](things []T, n int) [][]T {
	out := [][]T{nil}
	from := 0
	for range n {
		to := len(out)
		for _, before := range out[from:to] {
			for _, x := range things {
				out = append(out, append(slices.Clone(before), x))
			}
		}
		from = to
	}
	return out
}

// rising returns n attributes whose names are valid and increase.
func rising(n int) []api.Attr {
	var out []api.Attr
	for i := range n {
		out = append(out, api.Attr{Name: fmt.Sprintf("n%06d", i), Value: fmt.Sprint(i)})
	}
	return out
}

// validLists has each of four names, with one of two values, or not at all.
func validLists() [][]api.Attr {
	out := [][]api.Attr{nil}
	for _, name := range []string{"a", "a-", "aa", "b"} {
		for _, l := range slices.Clone(out) {
			for _, value := range []string{"", "1"} {
				out = append(out, append(slices.Clone(l), api.Attr{Name: name, Value: value}))
			}
		}
	}
	return out
}

// anyLists are small lists of all sorts: names that are none, out of order, several times.
func anyLists() [][]api.Attr {
	return over(list("", "1", "a", "", "a", "1", "b", "1", "b", "2", "\xff", "1"), 3)
}

// short prints a list without its long values, and bytes that are no text in a form that is.
func short[T any](l []T) string {
	return fmt.Sprintf("%q, %d in all", fmt.Sprintf("%.60v", l[:min(len(l), 8)]), len(l))
}

// valueOf returns the last value of a name, as Norm does.
func valueOf(l []api.Attr, name string) (string, bool) {
	for _, a := range slices.Backward(l) {
		if a.Name == name {
			return a.Value, true
		}
	}
	return "", false
}

// slowOf is Of by the words of the chapter: it asks both lists for each name there is.
func slowOf(a, b []api.Attr) []Change {
	var names []string
	for _, x := range slices.Concat(a, b) {
		names = append(names, x.Name)
	}
	slices.Sort(names)
	var out []Change
	for _, name := range slices.Compact(names) {
		was, had := valueOf(a, name)
		is, has := valueOf(b, name)
		switch {
		case has && (!had || was != is):
			out = append(out, set(name, is))
		case had && !has:
			out = append(out, gone(name))
		}
	}
	return out
}

// checkOf compares the answers of Of and Names.
func checkOf(t *testing.T, a, b []api.Attr, want ...Change) {
	t.Helper()
	if got := Of(a, b); !slices.Equal(got, want) {
		t.Fatalf("Of(%s, %s) = %s, want %s", short(a), short(b), short(got), short(want))
	}
	if got := Names(a, b); got != len(want) {
		t.Fatalf("Names(%s, %s) = %d, want %d", short(a), short(b), got, len(want))
	}
}

// checkDo compares the answer of Do.
func checkDo(t *testing.T, a, want []api.Attr, l ...Change) {
	t.Helper()
	if got := Do(a, l...); !slices.Equal(got, want) {
		t.Fatalf("Do(%s, %s) = %s, want %s", short(a), short(l), short(got), short(want))
	}
}

func TestOf(t *testing.T) { // 10.1
	checkOf(t, nil, nil)
	checkOf(t, []api.Attr{}, nil)
	checkOf(t, list("a", "1", "b", "2"), list("b", "3", "c", "4"), gone("a"), set("b", "3"), set("c", "4"))
	checkOf(t, nil, list("a", "1", "b", "2"), set("a", "1"), set("b", "2"))
	checkOf(t, list("a", "1", "b", "2"), nil, gone("a"), gone("b"))
	checkOf(t, list("a", "1", "b", "2"), list("a", "1", "b", "2"))
	checkOf(t, list("a", "1", "b", "2"), list("a", "2", "b", "1"), set("a", "2"), set("b", "1"))
	checkOf(t, list("a", "1", "c", "3"), list("b", "2", "d", "4"), gone("a"), set("b", "2"), gone("c"), set("d", "4"))
	checkOf(t, list("c", "3"), list("a", "1", "b", "2"), set("a", "1"), set("b", "2"), gone("c"))
	checkOf(t, list("a", "1", "b", "2", "c", "3"), list("b", "2"), gone("a"), gone("c"))
	// An empty value is a value.
	checkOf(t, nil, list("a", ""), set("a", ""))
	checkOf(t, list("a", ""), nil, gone("a"))
	checkOf(t, list("a", "1"), list("a", ""), set("a", ""))
	checkOf(t, list("a", ""), list("a", "1"), set("a", "1"))
	checkOf(t, list("a", ""), list("a", ""))
	// Names are in bytewise order, a proper prefix first.
	checkOf(t, list("aa", "1"), list("a", "1"), set("a", "1"), gone("aa"))
	checkOf(t, list("a.", "1"), list("a-", "1", "a:", "1"), set("a-", "1"), gone("a."), set("a:", "1"))
}

func TestOfListsThatAreNotValid(t *testing.T) { // 10.1
	// Out of order, and a name more than once: the last one counts.
	checkOf(t, nil, list("z", "", "a", "", "z", "1"), set("a", ""), set("z", "1"))
	checkOf(t, list("z", "", "a", "", "z", "1"), nil, gone("a"), gone("z"))
	checkOf(t, list("b", "1", "a", "2"), list("a", "2", "b", "1"))
	checkOf(t, list("a", "2", "b", "1"), list("b", "1", "a", "2"))
	checkOf(t, list("a", "1", "a", "2"), list("a", "2"))
	checkOf(t, list("a", "1", "a", "2"), list("a", "1"), set("a", "1"))
	checkOf(t, list("a", "1"), list("a", "2", "a", "1"))
	checkOf(t, list("b", "1", "b", "2"), list("b", "2", "b", "1"), set("b", "1"))
	// Names that are none, and values that do not fit, are compared like others.
	checkOf(t, list("", "1", "A", "2"), list("\xff", "3", "A", "4"), gone(""), set("A", "4"), set("\xff", "3"))
	checkOf(t, list("a", longText), list("a", longText+"v"), set("a", longText+"v"))
	checkOf(t, list("a", longText, "b", "1"), list("a", longText), gone("b"))
	// More than there may be.
	many := rising(200)
	checkOf(t, many, many)
	checkOf(t, many[:199], many, set("n000199", "199"))
	checkOf(t, many, many[1:], gone("n000000"))
	checkOf(t, many[:64], many[:65], set("n000064", "64"))
	backward := slices.Clone(many)
	slices.Reverse(backward)
	checkOf(t, backward, many)
}

func TestOfEveryPair(t *testing.T) { // 10.1
	for _, lists := range [][][]api.Attr{validLists(), anyLists()} {
		for _, a := range lists {
			for _, b := range lists {
				checkOf(t, a, b, slowOf(a, b)...)
			}
		}
	}
}

func TestOfManyAttributes(t *testing.T) { // 10.1, R1
	const n = 1 << 15
	all := rising(2 * n)
	var a, b []api.Attr
	for i, x := range all {
		if i%3 != 0 {
			a = append(a, x)
		}
		if i%3 != 1 {
			b = append(b, x)
		}
	}
	slices.Reverse(a)
	got := Of(a, b)
	at := 0
	for i, x := range all {
		if i%3 == 2 {
			continue
		}
		want := set(x.Name, x.Value)
		if i%3 == 1 {
			want = gone(x.Name)
		}
		if at >= len(got) || got[at] != want {
			t.Fatalf("change %d of %d is not %v", at, len(got), want)
		}
		at++
	}
	if len(got) != at || Names(a, b) != at {
		t.Errorf("%d changes, %d names, want %d", len(got), Names(a, b), at)
	}
}

func TestNameByNameStops(t *testing.T) { // the traversal ends where its loop does
	for stop := 1; stop <= 4; stop++ {
		var seen []string
		both := nameByName(list("a", "1", "c", "1"), list("b", "1", "d", "1"))
		for range 2 {
			seen = nil
			for was := range both {
				seen = append(seen, was.Name)
				if len(seen) == stop {
					break
				}
			}
		}
		if want := []string{"a", "b", "c", "d"}[:stop]; !slices.Equal(seen, want) {
			t.Errorf("seen %v, want %v", seen, want)
		}
	}
}

func TestDo(t *testing.T) { // 10.2
	l := list("a", "1", "c", "3")
	checkDo(t, nil, nil)
	checkDo(t, l, l)
	checkDo(t, nil, list("a", "1"), set("a", "1"))
	checkDo(t, nil, nil, gone("a"))
	checkDo(t, l, list("a", "1", "b", "2", "c", "3"), set("b", "2"))
	checkDo(t, l, list("a", "1", "c", "9"), set("c", "9"))
	checkDo(t, l, list("a", "", "c", "3"), set("a", ""))
	checkDo(t, l, list("c", "3"), gone("a"))
	checkDo(t, l, l, gone("b")) // what is not there may go
	checkDo(t, l, nil, gone("a"), gone("b"), gone("c"))
	// With Gone the value has no effect.
	checkDo(t, l, list("a", "1"), Change{Name: "c", Value: "9", Gone: true})
	checkDo(t, l, l, Change{Name: "b", Value: "9", Gone: true})
	// The changes are made one after the other.
	checkDo(t, l, list("a", "3", "c", "3"), set("a", "2"), set("a", "3"))
	checkDo(t, l, list("a", "2", "c", "3"), set("a", "2"), set("a", "2"))
	checkDo(t, l, list("c", "3"), set("a", "2"), gone("a"))
	checkDo(t, l, list("a", "2", "c", "3"), gone("a"), set("a", "2"))
	checkDo(t, l, list("a", "2", "c", "3"), set("a", "2"), gone("a"), set("a", "2"))
	checkDo(t, l, list("a", "1", "b", "5", "bb", "6", "c", "3"), set("bb", "6"), set("b", "5"))
}

func TestDoOnListsThatAreNotValid(t *testing.T) { // 10.2
	// The list remains as it is besides the changes: it is not put in order.
	l := list("c", "1", "a", "2", "c", "3")
	checkDo(t, l, l)
	checkDo(t, l, list("c", "9", "a", "2", "c", "3"), set("c", "9"))
	checkDo(t, l, list("a", "2"), gone("c"))
	checkDo(t, l, list("b", "9", "c", "1", "a", "2", "c", "3"), set("b", "9"))
	checkDo(t, l, list("c", "1", "a", "2", "c", "3", "d", "9"), set("d", "9"))
	checkDo(t, l, list("", "9", "c", "1", "a", "2", "c", "3"), set("", "9"))
	checkDo(t, l, list("c", "1", "a", longText, "c", "3"), set("a", longText))
	// Nor is there a limit.
	checkDo(t, rising(64), append(rising(64), list("z", "1")...), set("z", "1"))
}

// someChanges are changes of names that anyLists have, and of others.
func someChanges() []Change {
	return []Change{set("a", "1"), set("b", ""), set("", "2"), set("aa", "1"), gone("a"), gone("b"), gone("c"), {Name: "\xff", Value: "x", Gone: true}}
}

func TestDoEveryList(t *testing.T) { // 10.2
	for _, a := range anyLists() {
		for _, l := range over(someChanges(), 2) {
			want := slices.Clone(a)
			for _, c := range l {
				if c.Gone {
					want, _ = attrs.Without(want, c.Name)
				} else {
					want = attrs.With(want, c.Name, c.Value)
				}
			}
			checkDo(t, a, want, l...)
		}
	}
}

func TestDoOfDifferences(t *testing.T) { // 10.3
	lists := validLists()
	half := slices.Clone(rising(128)[64:])
	for i := range half {
		half[i].Value = "other"
	}
	lists = append(lists, rising(64), rising(65)[1:], rising(128)[64:], half, rising(96)[32:])
	for _, a := range lists {
		checkOf(t, a, a)
		for _, b := range lists {
			checkDo(t, a, b, Of(a, b)...)
		}
	}
}

func TestNoDifferencesToItself(t *testing.T) { // 10.3
	for _, a := range anyLists() {
		checkOf(t, a, a)
		checkOf(t, a, attrs.Norm(a...))
	}
}

func TestDoChangesFewNames(t *testing.T) { // 10.4
	for _, a := range append(anyLists(), rising(64)) {
		for _, l := range over(someChanges(), 3) {
			if n := Names(a, Do(a, l...)); n > len(l) {
				t.Fatalf("%s make %d names of %s differ", short(l), n, short(a))
			}
		}
	}
}

func TestMemory(t *testing.T) { // R4
	junk := api.Attr{Name: "junk", Value: "junk"}
	changes := []Change{set("a", "9"), gone("b"), set("d", "1"), gone("spare")}
	for _, l := range anyLists() {
		whole := append(slices.Clone(l), list("spare", "1", "room", "2")...)
		before := slices.Clone(whole)
		arg := whole[:len(l)]
		for n := range len(changes) {
			given := slices.Clone(changes)
			got := Do(arg, given[:n]...)
			want := slices.Clone(got)
			got = got[:cap(got)]
			for i := range got {
				got[i] = junk
			}
			if !slices.Equal(whole, before) || !slices.Equal(given, changes) {
				t.Fatalf("Do(%s, %s) changes an argument or shares its memory", short(l), short(given[:n]))
			}
			checkDo(t, arg, want, given[:n]...)
		}
		Of(arg, list("b", "7"))
		Of(list("b", "7"), arg)
		Names(arg, arg)
		if !slices.Equal(whole, before) {
			t.Fatalf("%s is changed by a call", short(l))
		}
	}
}
