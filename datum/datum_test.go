package datum

import (
	"fmt"
	"math"
	"reflect"
	"slices"
	"strconv"
	"strings"
	"testing"

	"tendril/api"
)

// The calls keep the signatures that the chapter lists.
var (
	_ func(api.Datum) bool                      = Right
	_ func(api.Datum) (string, api.Errno)       = Print
	_ func(string) (api.Datum, int, api.Errno)  = Parse
	_ func(api.Datum, api.Datum) int            = Compare
	_ func(api.Datum, string) (api.Datum, bool) = Get
)

var (
	fullText = strings.Repeat("v", api.MaxText)
	longText = fullText + "v"
	fullName = strings.Repeat("n", api.MaxTag)
	longName = fullName + "n"
)

func truth(num int) api.Datum {
	return api.Datum{Kind: 1, Num: num}
}

func number(num int) api.Datum {
	return api.Datum{Kind: 2, Num: num}
}

func text(s string) api.Datum {
	return api.Datum{Kind: 3, Text: s}
}

func list(l ...api.Datum) api.Datum {
	return api.Datum{Kind: 4, List: l}
}

// record makes a record of names that are separated by commas.
func record(names string, l ...api.Datum) api.Datum {
	if names == "" {
		return api.Datum{Kind: 5, List: l}
	}
	return api.Datum{Kind: 5, Names: strings.Split(names, ","), List: l}
}

// nested puts a value into that many lists.
func nested(levels int, d api.Datum) api.Datum {
	for range levels {
		d = list(d)
	}
	return d
}

// many makes a list of n numbers.
func many(n int) api.Datum {
	return list(slices.Repeat([]api.Datum{number(7)}, n)...)
}

// sample is a value with all Kinds in it.
func sample() api.Datum {
	return record("a,b.c,d:e-1", list(truth(0), truth(1), number(-10), list()), text("<x>\n"), record("a", api.Datum{}))
}

const sampleText = `{a=[no,yes,-10,[]],b.c="&lt;x&gt;&#10;",d:e-1={a=none}}`

// short prints the outer part of a value, without its long strings.
func short(d api.Datum) string {
	return outer(d, 4)
}

func outer(d api.Datum, levels int) string {
	out := fmt.Sprintf("%d %d %.20q %.20q", d.Kind, d.Num, d.Text, d.Names[:min(len(d.Names), 4)])
	if len(d.List) > 4 || levels == 0 {
		return fmt.Sprintf("%s over %d", out, len(d.List))
	}
	for _, x := range d.List {
		out += " (" + outer(x, levels-1) + ")"
	}
	return out
}

// same compares values, whether or not they are valid.
func same(a, b api.Datum) bool {
	return a.Kind == b.Kind && a.Num == b.Num && a.Text == b.Text &&
		slices.Equal(a.Names, b.Names) && slices.EqualFunc(a.List, b.List, same)
}

// pool is values with nothing or little within them, valid and not.
func pool() (right, wrong []api.Datum) {
	right = []api.Datum{
		{}, {Names: []string{}, List: []api.Datum{}}, truth(0), truth(1),
		number(0), number(1), number(-1), number(math.MaxInt), number(math.MinInt),
		text(""), text("x"), text("<>&\"\x00\x7f\xff"), text("yes"), text(fullText),
		list(), {Kind: 4, Names: []string{}, List: []api.Datum{}}, list(api.Datum{}), list(number(2), number(1), number(2)), list(list(), record("")),
		record(""), record("a", truth(1)), record("a,b", text("x"), list()), record("a-,a.,a0,a:,aa", number(1), number(1), number(1), number(1), number(1)), record(fullName, api.Datum{}),
	}
	wrong = []api.Datum{
		{Kind: -1}, {Kind: 6}, {Kind: math.MaxInt}, {Kind: math.MinInt}, {Kind: 256}, {Kind: 1 << 32},
		{Num: 1}, {Num: -1}, {Text: "x"}, {Names: []string{""}}, {List: []api.Datum{{}}}, {Names: []string{"a"}, List: []api.Datum{{}}},
		truth(2), truth(-1), truth(math.MinInt), {Kind: 1, Text: "x"}, {Kind: 1, Names: []string{"a"}}, {Kind: 1, List: []api.Datum{{}}},
		{Kind: 2, Num: 1, Text: "1"}, {Kind: 2, Names: []string{"a"}}, {Kind: 2, List: []api.Datum{{}}},
		text(longText), {Kind: 3, Num: 1}, {Kind: 3, Num: 1, Text: "x"}, {Kind: 3, Text: "x", Names: []string{"a"}}, {Kind: 3, Text: "x", List: []api.Datum{{}}},
		{Kind: 4, Num: 1}, {Kind: 4, Text: "x"}, {Kind: 4, Names: []string{"a"}}, {Kind: 4, Names: []string{"a"}, List: []api.Datum{{}}},
		{Kind: 5, Num: 1}, {Kind: 5, Text: "x"}, record("a"), record("", api.Datum{}), record("a,b", api.Datum{}), record("a", api.Datum{}, api.Datum{}),
		record("a,a", api.Datum{}, api.Datum{}), record("b,a", api.Datum{}, api.Datum{}), record("a,c,b", api.Datum{}, api.Datum{}, api.Datum{}), record("aa,a", api.Datum{}, api.Datum{}),
		record("A", api.Datum{}), record("1", api.Datum{}), record(":a", api.Datum{}), record("a b", api.Datum{}), record("a=", api.Datum{}), record("é", api.Datum{}), record(longName, api.Datum{}), record("a,", api.Datum{}, api.Datum{}),
	}
	return right, wrong
}

func checkRight(t *testing.T, d api.Datum, want bool) {
	t.Helper()
	if got := Right(d); got != want {
		t.Errorf("Right(%s) = %v", short(d), got)
	}
}

// within lists values that have d somewhere within them, and nothing else that is not valid.
func within(d api.Datum) []api.Datum {
	return []api.Datum{
		list(d), list(api.Datum{}, d, list()), list(list(truth(1), d), number(3)),
		record("a", d), record("a,b,c", list(), text("x"), d), list(record("a,b", record("a", d), api.Datum{})),
	}
}

func TestRight(t *testing.T) { // 16.1
	right, wrong := pool()
	for _, d := range append(right, sample()) {
		checkRight(t, d, true)
		for _, x := range within(d) {
			checkRight(t, x, true)
		}
	}
	for _, d := range wrong {
		checkRight(t, d, false)
		for _, x := range within(d) {
			checkRight(t, x, false)
		}
	}
}

func TestRightLimits(t *testing.T) { // 16.1
	// Values are counted wherever they are, with the outermost one.
	checkRight(t, many(1999), true)
	checkRight(t, many(2000), false)
	checkRight(t, many(2001), false)
	checkRight(t, many(1<<20), false)
	checkRight(t, list(many(998), many(999)), true)
	checkRight(t, list(many(999), many(999)), false)
	checkRight(t, list(many(1997), number(1)), true)
	checkRight(t, list(many(1998), number(1)), false)
	checkRight(t, list(number(1), many(1998)), false)
	checkRight(t, list(many(1998)), true)
	checkRight(t, list(many(1999)), false)
	checkRight(t, record("a,b", many(1996), list(number(1))), true)
	checkRight(t, record("a,b", many(1996), list(number(1), number(1))), false)
	// Lists and records are nested, other values are not.
	for _, d := range []api.Datum{{}, truth(1), number(7), text("x")} {
		checkRight(t, nested(15, d), true)
		checkRight(t, nested(16, d), true)
		checkRight(t, nested(17, d), false)
		checkRight(t, nested(1000, d), false)
	}
	for _, d := range []api.Datum{list(), record(""), record("a", number(1)), list(number(1))} {
		checkRight(t, nested(15, d), true)
		checkRight(t, nested(16, d), false)
		checkRight(t, record("a", nested(14, d)), true)
		checkRight(t, record("a", nested(15, d)), false)
		// The deepest ones count, side by side with others.
		checkRight(t, list(nested(14, d), nested(14, d)), true)
		checkRight(t, list(list(), nested(15, d), list()), false)
		checkRight(t, list(nested(14, d), nested(15, d)), false)
	}
}

func TestRightExamines(t *testing.T) { // R1
	// Values without an end: what is within one is the value again.
	ring := make([]api.Datum, 3)
	for i := range ring {
		ring[i] = list(ring...)
	}
	loop := make([]api.Datum, 1)
	loop[0] = record("a")
	loop[0].List = loop
	// A great many values by few lists.
	d := number(1)
	for range 16 {
		d = list(slices.Repeat([]api.Datum{d}, 1000)...)
	}
	huge := strings.Repeat("a", 1<<26)
	for _, d := range []api.Datum{
		ring[0], loop[0], d, nested(1<<16, number(1)), many(1 << 18), text(huge), record(huge, number(1)), {Kind: 2, Text: huge},
		{Kind: 5, Names: make([]string, 1<<18)}, {Kind: 5, Names: make([]string, 1<<18), List: make([]api.Datum, 1<<18)}, {Names: make([]string, 1<<18)},
	} {
		checkRight(t, d, false)
		if s, err := Print(d); s != "" || err != api.ErrType {
			t.Errorf("Print(%s) = %.20q, %v", short(d), s, err)
		}
		if Compare(d, d) != 0 || Compare(d, number(1)) != 0 || Compare(number(1), d) != 0 {
			t.Errorf("%s is compared", short(d))
		}
		if x, ok := Get(d, "a"); ok || !reflect.DeepEqual(x, api.Datum{}) {
			t.Errorf("Get(%s) = %s, %v", short(d), short(x), ok)
		}
	}
}

// slowEscape escapes by the words of the chapter on escaping.
func slowEscape(s string) string {
	var out strings.Builder
	for i := range len(s) {
		switch c := s[i]; {
		case c == '&':
			out.WriteString("&amp;")
		case c == '<':
			out.WriteString("&lt;")
		case c == '>':
			out.WriteString("&gt;")
		case c == '"':
			out.WriteString("&quot;")
		case c < 32 || c == 127:
			out.WriteString(fmt.Sprintf("&#%d;", c))
		default:
			out.WriteString(s[i : i+1])
		}
	}
	return out.String()
}

// slowText is the text of a valid value by the words of the chapter.
func slowText(d api.Datum) string {
	var parts []string
	for i, x := range d.List {
		parts = append(parts, slowText(x))
		if d.Kind == 5 {
			parts[i] = d.Names[i] + "=" + parts[i]
		}
	}
	switch d.Kind {
	case 0:
		return "none"
	case 1:
		return []string{"no", "yes"}[d.Num]
	case 2:
		return strconv.Itoa(d.Num)
	case 3:
		return `"` + slowEscape(d.Text) + `"`
	case 4:
		return "[" + strings.Join(parts, ",") + "]"
	default:
		return "{" + strings.Join(parts, ",") + "}"
	}
}

// checkPrint compares the answer of Print.
func checkPrint(t *testing.T, d api.Datum, want string, wantErr api.Errno) {
	t.Helper()
	if got, err := Print(d); got != want || err != wantErr {
		t.Errorf("Print(%s) = %.100q, %v; want %.100q, %v", short(d), got, err, want, wantErr)
	}
}

func TestPrint(t *testing.T) { // 16.1
	checkPrint(t, record("a,b", number(1), list(truth(1), text("x"))), `{a=1,b=[yes,"x"]}`, api.OK)
	checkPrint(t, api.Datum{}, "none", api.OK)
	checkPrint(t, truth(0), "no", api.OK)
	checkPrint(t, truth(1), "yes", api.OK)
	checkPrint(t, number(0), "0", api.OK)
	checkPrint(t, number(-70), "-70", api.OK)
	checkPrint(t, number(math.MinInt), "-9223372036854775808", api.OK)
	checkPrint(t, number(math.MaxInt), "9223372036854775807", api.OK)
	checkPrint(t, text(""), `""`, api.OK)
	checkPrint(t, text("a\"b\n\x80 none"), "\"a&quot;b&#10;\x80 none\"", api.OK)
	checkPrint(t, list(), "[]", api.OK)
	checkPrint(t, record(""), "{}", api.OK)
	checkPrint(t, list(list(list())), "[[[]]]", api.OK)
	checkPrint(t, list(api.Datum{}, record(""), list(), text(",")), `[none,{},[],","]`, api.OK)
	checkPrint(t, sample(), sampleText, api.OK)
	checkPrint(t, nested(16, number(1)), strings.Repeat("[", 16)+"1"+strings.Repeat("]", 16), api.OK)
	checkPrint(t, many(1999), "["+strings.Repeat("7,", 1998)+"7]", api.OK)
	checkPrint(t, many(2000), "", api.ErrType)
	checkPrint(t, nested(17, number(1)), "", api.ErrType)
	right, wrong := pool()
	for _, d := range right {
		checkPrint(t, d, slowText(d), api.OK)
		for _, x := range within(d) {
			checkPrint(t, x, slowText(x), api.OK)
		}
	}
	for _, d := range wrong {
		checkPrint(t, d, "", api.ErrType)
		for _, x := range within(d) {
			checkPrint(t, x, "", api.ErrType)
		}
	}
}

// compareLists compares two lists by the words of the chapter.
func compareLists[T any](a, b []T, compare func(a, b T) int) int {
	for i := range min(len(a), len(b)) {
		if c := compare(a[i], b[i]); c != 0 {
			return c
		}
	}
	return compareInts(len(a), len(b))
}

func compareInts(a, b int) int {
	if a < b {
		return -1
	}
	if a > b {
		return 1
	}
	return 0
}

// slowCompare compares two valid values by the words of the chapter.
func slowCompare(a, b api.Datum) int {
	compareStrings := func(a, b string) int {
		return compareLists([]byte(a), []byte(b), func(a, b byte) int { return compareInts(int(a), int(b)) })
	}
	if c := compareInts(a.Kind, b.Kind); c != 0 {
		return c
	}
	if c := compareInts(a.Num, b.Num); c != 0 {
		return c
	}
	if c := compareStrings(a.Text, b.Text); c != 0 {
		return c
	}
	if c := compareLists(a.Names, b.Names, compareStrings); c != 0 {
		return c
	}
	return compareLists(a.List, b.List, slowCompare)
}

func TestCompareOrder(t *testing.T) { // 16.3
	// Each one is less than all that follow.
	ascending := []api.Datum{
		{}, truth(0), truth(1),
		number(math.MinInt), number(-10), number(-9), number(0), number(9), number(10), number(math.MaxInt),
		text(""), text("\x00"), text("A"), text("a"), text("a\x00"), text("ab"), text("b"), text("\x7f"), text("\x80"), text("\xff"),
		list(), list(api.Datum{}), list(api.Datum{}, api.Datum{}), list(api.Datum{}, number(5)), list(truth(1)), list(number(1), number(9)), list(number(2)), list(list()), list(list(number(1))), list(list(number(1)), number(0)), list(list(number(2))), list(record("")),
		record(""), record("a", api.Datum{}), record("a", number(8)), record("a", list()), record("a,b", api.Datum{}, api.Datum{}), record("a,b", api.Datum{}, number(1)), record("a,b", number(1), number(0)), record("a,b,c", api.Datum{}, api.Datum{}, api.Datum{}), record("a,c", api.Datum{}, api.Datum{}),
		record("aa", api.Datum{}), record("b", api.Datum{}),
	}
	for i, a := range ascending {
		for j, b := range ascending {
			if got := Compare(a, b); got != compareInts(i, j) {
				t.Errorf("Compare(%s, %s) = %d", short(a), short(b), got)
			}
		}
	}
}

func TestComparePool(t *testing.T) { // 16.3
	right, wrong := pool()
	all := slices.Clone(right)
	for _, d := range right {
		all = append(all, within(d)...)
	}
	for _, a := range all {
		for _, b := range all {
			if got := Compare(a, b); got != slowCompare(a, b) {
				t.Errorf("Compare(%s, %s) = %d", short(a), short(b), got)
			}
		}
	}
	// Values that are not valid.
	for _, a := range wrong {
		for _, b := range append(right, wrong...) {
			if Compare(a, b) != 0 || Compare(b, a) != 0 || Compare(list(b), list(a)) != 0 {
				t.Errorf("%s and %s are compared", short(a), short(b))
			}
		}
	}
	for _, d := range []api.Datum{many(2000), nested(17, api.Datum{})} {
		if Compare(d, api.Datum{}) != 0 || Compare(api.Datum{}, d) != 0 || Compare(d, list()) != 0 {
			t.Errorf("%s is compared", short(d))
		}
	}
	if Compare(many(1999), many(1998)) != 1 || Compare(nested(16, number(1)), nested(16, number(2))) != -1 {
		t.Error("the largest values are not compared")
	}
}

func TestTotalOrder(t *testing.T) { // 16.4
	right, _ := pool()
	for _, d := range right[len(right)-8:] {
		right = append(right, within(d)[:4]...)
	}
	for _, a := range right {
		for _, b := range right {
			ab := Compare(a, b)
			if (ab == 0) != same(a, b) || Compare(b, a) != -ab {
				t.Errorf("Compare(%s, %s) = %d", short(a), short(b), ab)
			}
			for _, c := range right {
				if ab <= 0 && Compare(b, c) <= 0 && Compare(a, c) > 0 {
					t.Errorf("%s, %s and %s are in no order", short(a), short(b), short(c))
				}
			}
		}
	}
}

// checkGet compares the answer of Get.
func checkGet(t *testing.T, d api.Datum, name string, want api.Datum, wantOK bool) {
	t.Helper()
	if got, ok := Get(d, name); !same(got, want) || ok != wantOK {
		t.Errorf("Get(%s, %.40q) = %s, %v", short(d), name, short(got), ok)
	}
}

func TestGet(t *testing.T) { // 16.3
	for i, name := range sample().Names {
		checkGet(t, sample(), name, sample().List[i], true)
	}
	d := record("a,b,c,c.c,d", number(1), api.Datum{}, list(number(3), record("a", text("x"))), truth(1), text("y"))
	for i, name := range d.Names {
		checkGet(t, d, name, d.List[i], true)
	}
	checkGet(t, record(fullName, text(fullText)), fullName, text(fullText), true)
	checkGet(t, record("a", nested(15, number(7))), "a", nested(15, number(7)), true)
	checkGet(t, record("a", many(1998)), "a", many(1998), true)
	for _, name := range []string{"", "A", "aa", "bb", "c.", "e", "a,b", "a=1", " a", "\xff", longName, longText} {
		checkGet(t, d, name, api.Datum{}, false)
		checkGet(t, record(""), name, api.Datum{}, false)
	}
	// What is further within does not count.
	checkGet(t, record("a", record("b", number(1))), "b", api.Datum{}, false)
	right, wrong := pool()
	for _, d := range right {
		if d.Kind != 5 {
			checkGet(t, d, "a", api.Datum{}, false)
			checkGet(t, d, "", api.Datum{}, false)
		}
		checkGet(t, record("a,b", api.Datum{}, d), "b", d, true)
	}
	for _, d := range wrong {
		checkGet(t, d, "a", api.Datum{}, false)
		checkGet(t, d, "b", api.Datum{}, false)
		checkGet(t, record("a,b", number(1), d), "a", api.Datum{}, false)
		checkGet(t, record("a,b", number(1), d), "b", api.Datum{}, false)
	}
	checkGet(t, record("a", many(1999)), "a", api.Datum{}, false)
	checkGet(t, record("a,b", nested(16, number(1)), number(1)), "b", api.Datum{}, false)
	checkGet(t, api.Datum{Kind: 4, Names: []string{"a"}, List: []api.Datum{{}}}, "a", api.Datum{}, false)
}

// roomy returns the same value, each of whose lists has room for more, and in it what is not of the value.
func roomy(d api.Datum) api.Datum {
	d.Names = append(slices.Clone(d.Names), "spare")[:len(d.Names)]
	l := append(slices.Clone(d.List), text("spare"))
	for i, x := range d.List {
		l[i] = roomy(x)
	}
	d.List = l[:len(d.List)]
	return d
}

// whole prints a value with what stands in the room of its lists.
func whole(d api.Datum) string {
	out := fmt.Sprintf("(%d %d %q %q", d.Kind, d.Num, d.Text, d.Names[:cap(d.Names)])
	for _, x := range d.List[:cap(d.List)] {
		out += whole(x)
	}
	return out + ")"
}

// spoil overwrites all lists of a value and what room they have.
func spoil(d api.Datum) {
	for _, x := range d.List {
		spoil(x)
	}
	for i := range d.Names[:cap(d.Names)] {
		d.Names[:cap(d.Names)][i] = "mine"
	}
	for i := range d.List[:cap(d.List)] {
		d.List[:cap(d.List)][i] = text("mine")
	}
}

func TestMemoryOfArguments(t *testing.T) { // R4
	d, other := roomy(list(sample(), sample())), roomy(list(sample(), sample()))
	before := whole(d)
	Right(d)
	Print(d)
	Compare(d, other)
	Get(d, "a")
	x, _ := Get(d.List[0], "a")
	y, _ := Get(d.List[0], "d:e-1")
	spoil(x)
	spoil(y)
	if whole(d) != before || whole(other) != before {
		t.Errorf("the value was\n%s and is\n%s", before, whole(d))
	}
	x, _ = Get(d.List[0], "a")
	y, _ = Get(d.List[0], "d:e-1")
	spoil(d)
	if !same(x, sample().List[0]) || !same(y, sample().List[2]) {
		t.Errorf("the values are %s and %s when the record is changed", short(x), short(y))
	}
	// One list stands in two places of the record, but not of the result.
	l := list(number(1), number(2)).List
	x, _ = Get(record("a", list(list(l...), list(l...))), "a")
	spoil(x.List[0])
	if !same(x.List[1], list(number(1), number(2))) {
		t.Errorf("two lists of a value share memory")
	}
}
