package attrs

import (
	"fmt"
	"slices"
	"strings"
	"testing"

	"tendril/api"
)

// The calls keep the signatures that the chapter lists.
var (
	_ func([]api.Attr) (int, api.Errno)           = Check
	_ func([]api.Attr, string) (string, bool)     = Get
	_ func([]api.Attr, string, string) []api.Attr = With
	_ func([]api.Attr, string) ([]api.Attr, bool) = Without
	_ func(...api.Attr) []api.Attr                = Norm
	_ func([]api.Attr, []api.Attr) bool           = Same
)

var (
	fullText = strings.Repeat("v", api.MaxText)
	longText = fullText + "v"
	fullName = strings.Repeat("n", api.MaxTag)
	longName = fullName + "n"
)

// list makes a list of names and values in turn.
func list(words ...string) []api.Attr {
	var out []api.Attr
	for i := 0; i+1 < len(words); i += 2 {
		out = append(out, api.Attr{Name: words[i], Value: words[i+1]})
	}
	return out
}

// over returns every list of at most n of the attributes.
func over(l []api.Attr, n int) [][]api.Attr {
	out := [][]api.Attr{nil}
	from := 0
	for range n {
		to := len(out)
		for _, before := range out[from:to] {
			for _, a := range l {
				out = append(out, append(slices.Clone(before), a))
			}
		}
		from = to
	}
	return out
}

// rising returns n attributes whose names are valid and increase.
func rising(n int) []api.Attr {
	var out []api.Attr
	for i := range n {
		out = append(out, api.Attr{Name: fmt.Sprintf("n%06d", i), Value: fmt.Sprint(i)})
	}
	return out
}

// lists are small lists of all sorts: names that are none, out of order, several times.
func lists() [][]api.Attr {
	return over(list("", "1", "a", "", "a", "1", "b", "1", "b", "2", "B", "", "\xff", "1"), 4)
}

// names are those in lists, and some beside, ahead and between.
func names() []string {
	return []string{"", "\x00", "A", "B", "a", "aa", "b", "c", "\xfe", "\xff", "\xff\xff", longName}
}

// short prints a list without its long values.
func short(l []api.Attr) string {
	if len(l) > 8 {
		return fmt.Sprintf("%.60q and so on, %d in all", l[:8], len(l))
	}
	return fmt.Sprintf("%.60q", l)
}

// errorsOf returns all the errors that apply to the attribute at an index, in the order of the chapter.
func errorsOf(l []api.Attr, at int) []api.Errno {
	var out []api.Errno
	add := func(applies bool, err api.Errno) {
		if applies {
			out = append(out, err)
		}
	}
	a := l[at]
	isName := a.Name != "" && len(a.Name) <= 32 && a.Name[0] >= 'a' && a.Name[0] <= 'z' &&
		strings.Trim(a.Name, "abcdefghijklmnopqrstuvwxyz0123456789-:.") == ""
	add(at == 64, api.ErrMany)
	add(!isName, api.ErrName)
	add(len(a.Value) > 65536, api.ErrLong)
	add(at > 0 && l[max(at, 1)-1].Name == a.Name, api.ErrTwice)
	add(at > 0 && l[max(at, 1)-1].Name > a.Name, api.ErrOrder)
	return out
}

// slowCheck is Check by the words of the chapter.
func slowCheck(l []api.Attr) (int, api.Errno) {
	for at := range l {
		if all := errorsOf(l, at); len(all) > 0 {
			return at, all[0]
		}
	}
	return 0, api.OK
}

// checkCheck compares the answer of Check.
func checkCheck(t *testing.T, l []api.Attr, want int, wantErr api.Errno) {
	t.Helper()
	if at, err := Check(l); at != want || err != wantErr {
		t.Errorf("Check(%s) = %d, %v; want %d, %v", short(l), at, err, want, wantErr)
	}
}

// checkSame compares two lists.
func checkSame(t *testing.T, what string, got, want []api.Attr) {
	t.Helper()
	if !slices.Equal(got, want) {
		t.Fatalf("%s is %s, want %s", what, short(got), short(want))
	}
}

func TestCheckTakes(t *testing.T) { // 9.1
	checkCheck(t, nil, 0, api.OK)
	checkCheck(t, []api.Attr{}, 0, api.OK)
	for _, l := range [][]api.Attr{
		list("a", ""),
		list("a", "1", "b", "1"),
		list("a", "z", "b", "y", "c", "x"),
		list("a", "", "a-", "", "a.", "", "a0", "", "a:", "", "aa", "", "b", ""), // bytewise
		list("a", "\x00\xff", "z9", " \n\"<&"),
		list("a", fullText, "b", fullText),
		list(fullName, "", fullName[1:]+"o", ""),
		rising(63),
		rising(64),
	} {
		checkCheck(t, l, 0, api.OK)
	}
}

func TestCheckRefusesOne(t *testing.T) { // 9.1
	for _, name := range []string{"", "1", "-a", ":a", ".a", "A", "aB", "a b", "a\x00", "a_", "é", "a=", longName, longText} {
		checkCheck(t, list(name, ""), 0, api.ErrName)
		checkCheck(t, list("a", "", "b", "", name, "", "c", ""), 2, api.ErrName)
	}
	checkCheck(t, list("a", longText), 0, api.ErrLong)
	checkCheck(t, list("a", "", "b", longText, "c", ""), 1, api.ErrLong)
	checkCheck(t, list("a", "", "a", ""), 1, api.ErrTwice)
	checkCheck(t, list("a", "1", "a", "2"), 1, api.ErrTwice)
	checkCheck(t, list("a", "", "b", "", "b", "", "b", ""), 2, api.ErrTwice)
	checkCheck(t, list("b", "", "a", ""), 1, api.ErrOrder)
	checkCheck(t, list("ab", "", "a", ""), 1, api.ErrOrder)
	checkCheck(t, list("a.", "", "a-", ""), 1, api.ErrOrder)
	// Twice is only next to the same name.
	checkCheck(t, list("a", "", "b", "", "a", ""), 2, api.ErrOrder)
}

func TestCheckFirstError(t *testing.T) { // 9.1, R2
	// Of several errors of one attribute.
	checkCheck(t, list("", longText), 0, api.ErrName)
	checkCheck(t, list("b", "", "A", longText), 1, api.ErrName)
	checkCheck(t, list("b", "", "A", ""), 1, api.ErrName)
	checkCheck(t, list("b", "", "b", longText), 1, api.ErrLong)
	checkCheck(t, list("b", "", "a", longText), 1, api.ErrLong)
	// Of several attributes.
	checkCheck(t, list("a", longText, "A", ""), 0, api.ErrLong)
	checkCheck(t, list("b", "", "a", "", "A", ""), 1, api.ErrOrder)
	checkCheck(t, list("b", "", "b", "", "a", longText), 1, api.ErrTwice)
	checkCheck(t, list("A", "", "A", ""), 0, api.ErrName)
}

func TestCheckMany(t *testing.T) { // 9.1, R2
	for _, n := range []int{65, 66, 128, 1 << 17} {
		checkCheck(t, rising(n), 64, api.ErrMany)
	}
	// It counts ahead of all other errors of that attribute.
	for _, a := range list("", "", "A", longText, "n000063", "", "n000063", longText, "a", "", "a", longText, "z", longText) {
		checkCheck(t, append(rising(64), a), 64, api.ErrMany)
	}
	// It does not count ahead of the errors of attributes that precede.
	for at := range 64 {
		l := rising(70)
		l[at].Name = "A"
		checkCheck(t, l, at, api.ErrName)
		l = rising(70)
		l[at].Value = longText
		checkCheck(t, l, at, api.ErrLong)
		if at > 0 {
			l = rising(70)
			l[at].Name = l[at-1].Name
			checkCheck(t, l, at, api.ErrTwice)
			l[at].Name = "a"
			checkCheck(t, l, at, api.ErrOrder)
		}
	}
}

func TestCheckEveryList(t *testing.T) { // 9.1
	l := list("", "", "", longText, "a", "", "a", longText, "b", "1", "b", longText, "B", "", "B", longText, "c", "2")
	for _, l := range append(over(l, 4), lists()...) {
		at, err := slowCheck(l)
		checkCheck(t, l, at, err)
	}
}

func TestGet(t *testing.T) { // 9.2
	l := list("b", "1", "a", "2", "b", "3", "", "4", "c", "", "A\xff", longText)
	for name, want := range map[string]string{"b": "1", "a": "2", "": "4", "c": "", "A\xff": longText} {
		if got, ok := Get(l, name); got != want || !ok {
			t.Errorf("Get of %q is %.30q, %v", name, got, ok)
		}
	}
	for _, name := range []string{"d", "B", "aa", "A", "b ", "1", longText} {
		if got, ok := Get(l, name); got != "" || ok {
			t.Errorf("Get of %.30q is %.30q, %v", name, got, ok)
		}
	}
	for _, none := range [][]api.Attr{nil, {}} {
		if got, ok := Get(none, ""); got != "" || ok {
			t.Errorf("Get of nothing is %q, %v", got, ok)
		}
	}
	// Past what a valid list may have, too.
	if got, ok := Get(rising(200), "n000199"); got != "199" || !ok {
		t.Errorf("Get of the last one is %q, %v", got, ok)
	}
}

func TestWith(t *testing.T) { // 9.2
	cases := []struct {
		l           []api.Attr
		name, value string
		want        []api.Attr
	}{
		{list("a", "1", "c", "3"), "b", "2", list("a", "1", "b", "2", "c", "3")},
		{nil, "a", "1", list("a", "1")},
		{nil, "", "", list("", "")},
		{[]api.Attr{}, "a", "", list("a", "")},
		{list("b", "1"), "a", "2", list("a", "2", "b", "1")},
		{list("b", "1"), "c", "2", list("b", "1", "c", "2")},
		{list("b", "1"), "b", "2", list("b", "2")},
		{list("b", "1"), "b", "1", list("b", "1")},
		{list("b", "1"), "b", "", list("b", "")},
		{list("a", "1", "b", "2", "c", "3"), "a", "9", list("a", "9", "b", "2", "c", "3")},
		{list("a", "1", "b", "2", "c", "3"), "c", "9", list("a", "1", "b", "2", "c", "9")},
		// The name stands behind a greater one: no second one is put in.
		{list("c", "1", "a", "2"), "a", "9", list("c", "1", "a", "9")},
		// Only the first one of a name changes.
		{list("a", "1", "b", "2", "a", "3"), "a", "9", list("a", "9", "b", "2", "a", "3")},
		// Before the first greater one, whatever follows.
		{list("c", "1", "a", "2", "d", "3"), "b", "9", list("b", "9", "c", "1", "a", "2", "d", "3")},
		{list("a", "1", "d", "2", "c", "3"), "b", "9", list("a", "1", "b", "9", "d", "2", "c", "3")},
		{list("b", "1", "a", "2"), "c", "9", list("b", "1", "a", "2", "c", "9")},
		// Names are compared bytewise, and values do not count.
		{list("Z", "1", "\xff", "2"), "a", "9", list("Z", "1", "a", "9", "\xff", "2")},
		{list("a", "1", "ab", "2"), "aa", "9", list("a", "1", "aa", "9", "ab", "2")},
		{list("a", "9"), "b", "1", list("a", "9", "b", "1")},
		{list("a", "1"), longName, longText, list("a", "1", longName, longText)},
	}
	for _, c := range cases {
		checkSame(t, fmt.Sprintf("With(%s, %.20q, %.20q)", short(c.l), c.name, c.value), With(c.l, c.name, c.value), c.want)
	}
}

// slowWith is With by the words of the chapter.
func slowWith(l []api.Attr, name, value string) []api.Attr {
	var out []api.Attr
	done := !slices.ContainsFunc(l, func(a api.Attr) bool { return a.Name == name })
	open := done
	for _, a := range l {
		switch {
		case a.Name == name && !done:
			a.Value, done = value, true
		case a.Name > name && open:
			out, open = append(out, api.Attr{Name: name, Value: value}), false
		}
		out = append(out, a)
	}
	if open {
		out = append(out, api.Attr{Name: name, Value: value})
	}
	return out
}

// slowWithout is Without by the words of the chapter.
func slowWithout(l []api.Attr, name string) ([]api.Attr, bool) {
	out := slices.DeleteFunc(slices.Clone(l), func(a api.Attr) bool { return a.Name == name })
	return out, len(out) != len(l)
}

func TestEditEveryList(t *testing.T) { // 9.2
	for _, l := range append(lists(), rising(64), rising(100)) {
		for _, name := range names() {
			checkSame(t, fmt.Sprintf("With(%s, %.20q)", short(l), name), With(l, name, "v"), slowWith(l, name, "v"))
			got, ok := Without(l, name)
			want, there := slowWithout(l, name)
			checkSame(t, fmt.Sprintf("Without(%s, %.20q)", short(l), name), got, want)
			if ok != there {
				t.Fatalf("Without(%s, %.20q) tells %v", short(l), name, ok)
			}
			if _, found := Get(l, name); found != there {
				t.Fatalf("Get(%s, %.20q) tells %v", short(l), name, found)
			}
		}
	}
}

func TestWithout(t *testing.T) { // 9.2
	cases := []struct {
		l    []api.Attr
		name string
		want []api.Attr
		ok   bool
	}{
		{nil, "a", nil, false},
		{[]api.Attr{}, "", nil, false},
		{list("a", "1"), "a", nil, true},
		{list("a", "1", "b", "2"), "a", list("b", "2"), true},
		{list("a", "1", "b", "2"), "b", list("a", "1"), true},
		// Without an attribute of that name the list remains whole.
		{list("a", "1", "b", "2"), "c", list("a", "1", "b", "2"), false},
		{list("a", "1", "b", "2"), "", list("a", "1", "b", "2"), false},
		{list("b", "1", "a", "2", "b", "3", "c", "4", "b", "1"), "b", list("a", "2", "c", "4"), true},
		{list("a", "1", "a", "1"), "a", nil, true},
		{list("", "1", "\xff", "2"), "", list("\xff", "2"), true},
	}
	for _, c := range cases {
		got, ok := Without(c.l, c.name)
		checkSame(t, fmt.Sprintf("Without(%s, %q)", short(c.l), c.name), got, c.want)
		if ok != c.ok {
			t.Errorf("Without(%s, %q) tells %v", short(c.l), c.name, ok)
		}
	}
}

func TestNorm(t *testing.T) { // 9.3
	cases := []struct{ l, want []api.Attr }{
		{nil, nil},
		{[]api.Attr{}, nil},
		{list("a", "1"), list("a", "1")},
		{list("b", "", "a", "", "b", "9"), list("a", "", "b", "9")},
		{list("a", "1", "a", "2", "a", "3"), list("a", "3")},
		{list("a", "3", "a", "2", "a", "1"), list("a", "1")}, // the last, not the greatest
		{list("a", "1", "a", ""), list("a", "")},
		{list("c", "1", "b", "2", "a", "3"), list("a", "3", "b", "2", "c", "1")},
		{list("b", "1", "a", "2", "b", "3", "a", "4"), list("a", "4", "b", "3")},
		// Names that are none, and values that are too long, remain.
		{list("\xff", "1", "a", longText, "Z", "3", "", "4"), list("", "4", "Z", "3", "a", longText, "\xff", "1")},
		{list("ab", "1", "a", "2", "a-", "3"), list("a", "2", "a-", "3", "ab", "1")},
	}
	for _, c := range cases {
		checkSame(t, "Norm of "+short(c.l), Norm(c.l...), c.want)
	}
}

// slowNorm is Norm by the words of the chapter: it looks for the next name again and again.
func slowNorm(l []api.Attr) []api.Attr {
	var out []api.Attr
	for {
		next := -1
		for i, a := range l {
			isNew := len(out) == 0 || a.Name > out[len(out)-1].Name
			if isNew && (next < 0 || a.Name <= l[next].Name) {
				next = i
			}
		}
		if next < 0 {
			return out
		}
		out = append(out, l[next])
	}
}

func TestNormEveryList(t *testing.T) { // 9.3
	for _, l := range lists() {
		got := Norm(l...)
		checkSame(t, "Norm of "+short(l), got, slowNorm(l))
		checkSame(t, "Norm of Norm of "+short(l), Norm(got...), got)
	}
}

func TestNormMany(t *testing.T) { // 9.3, R1
	const n = 1 << 15
	want := rising(n)
	// Each name four times, in another order each time; what counts comes last.
	var l []api.Attr
	for round := range 4 {
		for i := range n {
			a := want[(i*5+round*77)%n]
			if round < 3 {
				a.Value = fmt.Sprint(n, "-", round)
			}
			l = append(l, a)
		}
	}
	checkSame(t, "Norm of many", Norm(l...), want)
}

func TestSame(t *testing.T) { // 9.3
	if !Same(nil, []api.Attr{}) || !Same(nil, nil) || !Same([]api.Attr{}, nil) {
		t.Error("empty lists differ")
	}
	l := list("a", "1", "b", "2")
	for _, other := range [][]api.Attr{
		nil,
		list("a", "1"),
		list("b", "2"),
		list("a", "1", "b", "2", "c", "3"),
		list("a", "1", "b", "2", "b", "2"),
		list("b", "2", "a", "1"),
		list("a", "1", "b", "3"),
		list("a", "1", "c", "2"),
		list("a", "2", "b", "1"),
		list("a1", "", "b2", ""),
	} {
		if Same(l, other) || Same(other, l) {
			t.Errorf("%s is told to be the same as %s", short(l), short(other))
		}
	}
	if !Same(l, slices.Clone(l)) {
		t.Error("a copy differs")
	}
}

func TestSameEveryPair(t *testing.T) { // 9.3
	all := over(list("", "", "a", "", "a", "1", "b", "1"), 3)
	for i, a := range all {
		for j, b := range all {
			if Same(a, b) != (i == j) {
				t.Fatalf("Same(%s, %s) is %v", short(a), short(b), i != j)
			}
		}
	}
}

// validLists are valid lists of few attributes, and one of nearly as many as there may be.
func validLists() [][]api.Attr {
	out := over(list("a", "", "a", "1", "b", "2", "c", "3", "d", ""), 4)
	out = slices.DeleteFunc(out, func(l []api.Attr) bool {
		_, err := slowCheck(l)
		return err != api.OK
	})
	return append(out, rising(63))
}

func TestWithKeepsValid(t *testing.T) { // 9.4
	for _, l := range validLists() {
		for _, name := range []string{"a", "aa", "b", "b:", "d", "e", "n000000", "n000031", "n000062", "z", fullName} {
			for _, value := range []string{"", "7", fullText} {
				checkCheck(t, With(l, name, value), 0, api.OK)
			}
		}
	}
	// In a full list only names that it has can be set.
	checkCheck(t, With(rising(64), "n000063", "7"), 0, api.OK)
	checkCheck(t, With(rising(64), "z", "7"), 64, api.ErrMany)
}

func TestNormOfValid(t *testing.T) { // 9.4
	for _, l := range append(validLists(), rising(64)) {
		checkSame(t, "Norm of "+short(l), Norm(l...), l)
	}
}

func TestGetAfterWith(t *testing.T) { // 9.4
	for _, l := range append(lists(), validLists()...) {
		for _, name := range names() {
			m := With(l, name, "new")
			if got, ok := Get(m, name); got != "new" || !ok {
				t.Fatalf("Get of %q in %s is %q, %v", name, short(m), got, ok)
			}
			// Those of other names are the same, in the same order.
			was, _ := slowWithout(l, name)
			is, _ := slowWithout(m, name)
			checkSame(t, fmt.Sprintf("%s besides %q", short(m), name), is, was)
			for _, other := range names() {
				if other == name {
					continue
				}
				got, ok := Get(m, other)
				if want, there := Get(l, other); got != want || ok != there {
					t.Fatalf("Get of %q in %s is %q, %v", other, short(m), got, ok)
				}
			}
		}
	}
}

// edits are all calls that return a list, on a list.
func edits(l []api.Attr) [][]api.Attr {
	absent, _ := Without(l, "zz")
	first, _ := Without(l, "a")
	return [][]api.Attr{With(l, "a", "9"), With(l, "b", "9"), With(l, "zz", "9"), With(l, "", "9"), absent, first, Norm(l...)}
}

func TestMemory(t *testing.T) { // R4
	spare := list("spare", "1", "room", "2", "here", "3")
	for _, l := range [][]api.Attr{nil, list("a", "1"), list("a", "1", "c", "3"), list("c", "1", "b", "2", "c", "3", "a", "4")} {
		whole := append(slices.Clone(l), spare...)
		arg := whole[:len(l)]
		want := edits(slices.Clone(l))
		got := edits(arg)
		checkSame(t, "the argument after the calls", whole, slices.Concat(l, spare))
		for i := range got {
			room := got[i][:cap(got[i])]
			for j := range room {
				room[j] = api.Attr{Name: "mine", Value: "mine"}
			}
			checkSame(t, fmt.Sprintf("the argument after result %d was changed", i), whole, slices.Concat(l, spare))
			for j := i + 1; j < len(got); j++ {
				checkSame(t, fmt.Sprintf("result %d of %s", j, short(l)), got[j], want[j])
			}
		}
		got = edits(arg)
		for i := range whole {
			whole[i] = api.Attr{Name: "other", Value: "other"}
		}
		for i := range got {
			checkSame(t, fmt.Sprintf("kept result %d of %s", i, short(l)), got[i], want[i])
		}
	}
}
