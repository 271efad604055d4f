package terms

import (
	"fmt"
	"math"
	"regexp"
	"slices"
	"strconv"
	"strings"
	"testing"

	"tendril/api"
)

// The calls keep the signatures that the chapter lists.
var (
	_ func(Term) bool                            = Right
	_ func(Term) (string, api.Errno)             = Print
	_ func(string) (Term, api.Errno)             = Parse
	_ func(Term, ...Bind) (api.Datum, api.Errno) = Eval
)

var (
	fullText = strings.Repeat("v", api.MaxText)
	longText = fullText + "v"
	fullName = strings.Repeat("n", api.MaxTag)
	longName = fullName + "n"
)

var none = api.Datum{}

func truthValue(num int) api.Datum {
	return api.Datum{Kind: 1, Num: num}
}

func numberValue(num int) api.Datum {
	return api.Datum{Kind: 2, Num: num}
}

func textValue(s string) api.Datum {
	return api.Datum{Kind: 3, Text: s}
}

func list(l ...api.Datum) api.Datum {
	return api.Datum{Kind: 4, List: l}
}

// record makes a record of names that are separated by commas.
func record(names string, l ...api.Datum) api.Datum {
	if names == "" {
		return api.Datum{Kind: 5, List: l}
	}
	return api.Datum{Kind: 5, Names: strings.Split(names, ","), List: l}
}

// many makes a list of n numbers.
func many(n int) api.Datum {
	return list(slices.Repeat([]api.Datum{numberValue(7)}, n)...)
}

func constant(d api.Datum) Term {
	return Term{Datum: d}
}

func num(n int) Term {
	return constant(numberValue(n))
}

// path makes a path of names that are separated by commas.
func path(names string) Term {
	return Term{Op: "@", Path: strings.Split(names, ",")}
}

func call(op string, kids ...Term) Term {
	return Term{Op: op, Kids: kids}
}

// nested puts a term into that many calls.
func nested(levels int, t Term) Term {
	for range levels {
		t = call("not", t)
	}
	return t
}

// tree makes calls with exactly n terms in all, nested as little as they can be.
func tree(n int) Term {
	if n == 1 {
		return num(7)
	}
	if n == 2 {
		return call("size", num(7))
	}
	t, kids := call("add"), min(9, n-1)
	for i := range kids {
		t.Kids = append(t.Kids, tree((n-1+i)/kids))
	}
	return t
}

// short prints the outer part of a term, without its long strings.
func short(t Term) string {
	return outer(t, 4)
}

func outer(t Term, levels int) string {
	out := fmt.Sprintf("%.20q %s %.20q", t.Op, shortValue(t.Datum), t.Path[:min(len(t.Path), 4)])
	if len(t.Kids) > 10 || levels == 0 {
		return fmt.Sprintf("%s over %d", out, len(t.Kids))
	}
	for _, kid := range t.Kids {
		out += " (" + outer(kid, levels-1) + ")"
	}
	return out
}

func shortValue(d api.Datum) string {
	return fmt.Sprintf("%d %d %.20q %.20q %d", d.Kind, d.Num, d.Text, d.Names[:min(len(d.Names), 4)], len(d.List))
}

func sameValue(a, b api.Datum) bool {
	return a.Kind == b.Kind && a.Num == b.Num && a.Text == b.Text &&
		slices.Equal(a.Names, b.Names) && slices.EqualFunc(a.List, b.List, sameValue)
}

// same compares terms, whether or not they are valid.
func same(a, b Term) bool {
	return a.Op == b.Op && sameValue(a.Datum, b.Datum) && slices.Equal(a.Path, b.Path) && slices.EqualFunc(a.Kids, b.Kids, same)
}

// kidsOf is the table of the chapter.
var kidsOf = map[string][2]int{
	"not": {1, 1}, "and": {2, 9}, "or": {2, 9}, "eq": {2, 2}, "less": {2, 2}, "add": {2, 9},
	"sub": {2, 2}, "cat": {1, 9}, "size": {1, 1}, "at": {2, 2}, "if": {3, 3},
}

// pool is terms with nothing or little within them, valid and not.
func pool() (right, wrong []Term) {
	right = []Term{
		{}, {Datum: api.Datum{Names: []string{}, List: []api.Datum{}}, Path: []string{}, Kids: []Term{}},
		constant(truthValue(0)), constant(truthValue(1)), num(0), num(-12), num(math.MaxInt), num(math.MinInt),
		constant(textValue("")), constant(textValue("(not \"x\") <&>\n\xff")), constant(textValue(fullText)),
		path("a"), path("a,b-1,c:d"), path("not"), path("none,no"), path(fullName), path(strings.Repeat("a,", 15) + "a"), {Op: "@", Path: []string{"a"}, Kids: []Term{}, Datum: api.Datum{Names: []string{}}},
		call("not", num(1)), call("cat", path("a")), call("if", num(1), num(2), num(3)), call("size", call("size", call("at", num(1), path("a")))), {Op: "not", Path: []string{}, Kids: []Term{{}}},
	}
	wrong = []Term{
		// No constants.
		constant(list()), constant(list(none)), constant(record("")), constant(record("a", none)), constant(truthValue(2)), constant(truthValue(-1)), constant(textValue(longText)),
		constant(api.Datum{Kind: 6}), constant(api.Datum{Kind: -1}), constant(api.Datum{Num: 1}), constant(api.Datum{Text: "x"}), constant(api.Datum{Kind: 2, Text: "1"}), constant(api.Datum{Kind: 3, Num: 1}),
		constant(api.Datum{Kind: 2, List: []api.Datum{{}}}), constant(api.Datum{Kind: 3, Names: []string{"a"}}), constant(api.Datum{Kind: 4, Num: 1}),
		{Path: []string{"a"}}, {Kids: []Term{{}}}, {Datum: numberValue(1), Path: []string{""}}, {Datum: numberValue(1), Kids: []Term{num(1)}},
		// No paths.
		{Op: "@"}, {Op: "@", Path: []string{}}, path(""), path("A"), path("1"), path("-a"), path(":a"), path("a.b"), path("a."), path(".a"), path("a b"), path("a)"), path("@a"), path("é"), path(longName),
		path("a,"), path(",a"), path("a,b.c"), path("a,B"), path("a,,b"), path("a,b,c,d e"), path(strings.Repeat("a,", 16) + "a"), path(strings.Repeat("a,", 15) + "A"),
		{Op: "@", Path: []string{"a"}, Datum: numberValue(1)}, {Op: "@", Path: []string{"a"}, Datum: api.Datum{Num: 1}}, {Op: "@", Path: []string{"a"}, Datum: api.Datum{Text: "x"}}, {Op: "@", Path: []string{"a"}, Datum: list()},
		{Op: "@", Path: []string{"a"}, Datum: api.Datum{Names: []string{"a"}}}, {Op: "@", Path: []string{"a"}, Datum: api.Datum{List: []api.Datum{{}}}}, {Op: "@", Path: []string{"a"}, Kids: []Term{{}}}, {Op: "@", Kids: []Term{num(1)}},
		// No calls.
		call("nor", num(1), num(2)), call("Not", num(1)), call("no", num(1)), call("nott", num(1)), call("not ", num(1)), call(" not", num(1)), call("(not", num(1)), call("eq\x00", num(1), num(2)), call("@a", num(1)), call("@@"), call(" "), call("none"), call("yes"), call("1"),
		{Op: "not", Kids: []Term{{}}, Path: []string{"a"}}, {Op: "not", Kids: []Term{{}}, Path: []string{""}}, {Op: "not", Path: []string{"a"}}, {Op: "not", Kids: []Term{{}}, Datum: numberValue(1)}, {Op: "not", Kids: []Term{{}}, Datum: api.Datum{Num: 1}},
		{Op: "not", Kids: []Term{{}}, Datum: api.Datum{Text: "x"}}, {Op: "not", Kids: []Term{{}}, Datum: list()}, {Op: "not", Kids: []Term{{}}, Datum: api.Datum{List: []api.Datum{{}}}}, {Op: "not", Kids: []Term{{}}, Datum: api.Datum{Names: []string{"a"}}}, {Op: "not", Kids: []Term{{}}, Datum: truthValue(0)},
	}
	return right, wrong
}

// within lists terms that have t somewhere within them, and nothing else that is not valid.
func within(t Term) []Term {
	return []Term{
		call("not", t), call("size", t), call("eq", num(1), t), call("sub", t, path("a,b")), call("at", t, call("not", num(1))),
		call("if", t, num(1), num(2)), call("if", num(1), t, num(2)), call("if", num(1), num(2), t),
		call("cat", num(1), num(2), num(3), num(4), num(5), num(6), num(7), num(8), t), call("and", call("or", call("less", num(1), t), num(2)), num(3)),
	}
}

func checkRight(t *testing.T, x Term, want bool) {
	t.Helper()
	if got := Right(x); got != want {
		t.Errorf("Right(%s) = %v", short(x), got)
	}
}

func TestRight(t *testing.T) { // 17.1
	right, wrong := pool()
	for _, x := range right {
		checkRight(t, x, true)
		for _, y := range within(x) {
			checkRight(t, y, true)
		}
	}
	for _, x := range wrong {
		checkRight(t, x, false)
		for _, y := range within(x) {
			checkRight(t, y, false)
		}
	}
}

func TestRightBytes(t *testing.T) { // 17.1
	// Whatever byte a name of a path has.
	for c := range 256 {
		one := string([]byte{byte(c)})
		first := c >= 'a' && c <= 'z'
		checkRight(t, Term{Op: "@", Path: []string{one}}, first)
		checkRight(t, Term{Op: "@", Path: []string{"a", one + "a"}}, first)
		checkRight(t, Term{Op: "@", Path: []string{"a", "a" + one, "b"}}, first || c >= '0' && c <= '9' || c == '-' || c == ':')
	}
}

func TestRightKids(t *testing.T) { // 17.1
	for op, limits := range kidsOf {
		for n := range 300 {
			x := call(op, slices.Repeat([]Term{num(1)}, n)...)
			checkRight(t, x, limits[0] <= n && n <= limits[1])
			if n < 12 {
				checkRight(t, call("not", x), limits[0] <= n && n <= limits[1])
			}
		}
	}
}

func TestRightLimits(t *testing.T) { // 17.1
	// Terms are counted wherever they are, with the outermost one.
	for n := range 40 {
		checkRight(t, tree(n+1), true)
	}
	for _, n := range []int{1990, 1998, 1999, 2000} {
		checkRight(t, tree(n), true)
	}
	for _, n := range []int{2001, 2002, 2003, 4000, 1 << 20} {
		checkRight(t, tree(n), false)
	}
	checkRight(t, call("eq", tree(999), tree(1000)), true)
	checkRight(t, call("eq", tree(1000), tree(1000)), false)
	checkRight(t, call("eq", tree(1998), path("a")), true)
	checkRight(t, call("eq", path("a,b"), tree(1998)), true)
	checkRight(t, call("eq", tree(1999), path("a")), false)
	checkRight(t, call("eq", constant(none), tree(1999)), false)
	checkRight(t, call("not", tree(1999)), true)
	checkRight(t, call("not", tree(2000)), false)
	checkRight(t, call("if", tree(1), tree(1), tree(1997)), true)
	checkRight(t, call("if", tree(1), tree(1997), tree(2)), false)
	// Calls are nested, other terms are not.
	for _, x := range []Term{{}, num(1), path("a,b,c")} {
		checkRight(t, nested(15, x), true)
		checkRight(t, nested(16, x), true)
		checkRight(t, nested(17, x), false)
		checkRight(t, nested(1<<16, x), false)
	}
	for _, x := range []Term{call("not", num(1)), call("eq", num(1), num(1)), call("if", num(1), num(1), num(1)), call("cat", path("a"))} {
		checkRight(t, nested(15, x), true)
		checkRight(t, nested(16, x), false)
		// The deepest ones count, side by side with others.
		checkRight(t, call("eq", nested(14, x), nested(14, x)), true)
		checkRight(t, call("if", num(1), nested(15, x), num(1)), false)
		checkRight(t, call("eq", nested(14, x), nested(15, x)), false)
		checkRight(t, call("eq", nested(15, x), nested(14, x)), false)
	}
}

func TestExaminesLittle(t *testing.T) { // R1
	// Terms without an end: what is within one is the term again.
	ring := make([]Term, 9)
	for i := range ring {
		ring[i] = call("add", ring...)
	}
	loop := make([]Term, 1)
	loop[0] = call("not", loop...)
	// A great many terms by few lists.
	x := num(1)
	for range 16 {
		x = call("add", slices.Repeat([]Term{x}, 9)...)
	}
	values := make([]api.Datum, 1)
	values[0] = list(values...)
	huge := strings.Repeat("a", 1<<26)
	for _, x := range []Term{
		ring[0], loop[0], x, nested(1<<16, num(1)), call("add", make([]Term, 1<<22)...), {Kids: make([]Term, 1<<22)}, {Op: "@", Path: make([]string, 1<<22)}, {Path: make([]string, 1<<22)},
		constant(values[0]), constant(textValue(huge)), constant(many(1 << 20)), {Op: huge}, {Op: "@", Path: []string{huge}}, {Op: "@", Path: []string{huge + "."}},
		{Op: "not", Kids: []Term{{}}, Datum: values[0]}, {Op: "@", Path: []string{"a"}, Datum: many(1 << 20)},
	} {
		checkRight(t, x, false)
		if s, err := Print(x); s != "" || err != api.ErrForm {
			t.Errorf("Print(%s) = %.20q, %v", short(x), s, err)
		}
		if d, err := Eval(x, Bind{"a", list(values...)}); !sameValue(d, none) || err != api.ErrForm {
			t.Errorf("Eval(%s) = %s, %v", short(x), shortValue(d), err)
		}
	}
}

var slowName = regexp.MustCompile(`^[a-z][a-z0-9:-]{0,31}$`)

// slowRight is Right by the words of the chapter, for terms of few terms.
func slowRight(x Term) bool {
	bare := func(d api.Datum) bool { return len(d.Names) == 0 && len(d.List) == 0 }
	zero := x.Datum.Kind == 0 && x.Datum.Num == 0 && x.Datum.Text == "" && bare(x.Datum)
	limits, isOperator := kidsOf[x.Op]
	switch {
	case x.Op == "":
		d := x.Datum
		isValue := zero || d.Kind == 1 && (d.Num == 0 || d.Num == 1) && d.Text == "" || d.Kind == 2 && d.Text == "" || d.Kind == 3 && d.Num == 0 && len(d.Text) <= 65536
		return isValue && bare(d) && len(x.Path) == 0 && len(x.Kids) == 0
	case x.Op == "@":
		for _, name := range x.Path {
			zero = zero && slowName.MatchString(name)
		}
		return zero && len(x.Path) >= 1 && len(x.Path) <= 16 && len(x.Kids) == 0
	case isOperator:
		for _, kid := range x.Kids {
			zero = zero && slowRight(kid)
		}
		return zero && len(x.Path) == 0 && limits[0] <= len(x.Kids) && len(x.Kids) <= limits[1]
	}
	return false
}

func TestRightFields(t *testing.T) { // 17.1
	// Every combination of a few contents of each field.
	ops := []string{"", "@", "not", "eq", "cat", "if", "x"}
	paths := [][]string{nil, {"a"}, {"a", "b"}, {"a", ""}, {"a.b"}}
	kids := [][]Term{nil, {{}}, {num(1), path("a")}, {num(1), path("A")}, {num(1), call("not", num(2)), num(3)}, {num(1), call("not"), num(3)}}
	tried := 0
	for _, op := range ops {
		for _, path := range paths {
			for _, kids := range kids {
				for kind := range 7 {
					for num := range 3 {
						for _, text := range []string{"", "x"} {
							for inside := range 3 {
								d := api.Datum{Kind: kind, Num: num, Text: text, Names: []string{"a"}[:inside/2], List: []api.Datum{{}}[:min(inside, 1)]}
								x := Term{Op: op, Datum: d, Path: path, Kids: kids}
								checkRight(t, x, slowRight(x))
								tried++
							}
						}
					}
				}
			}
		}
	}
	if tried != 7*5*6*7*3*2*3 {
		t.Error("not all combinations were tried")
	}
}

// slowValueText is the text of a value that is not composed.
func slowValueText(d api.Datum) string {
	switch d.Kind {
	case 0:
		return "none"
	case 1:
		return []string{"no", "yes"}[d.Num]
	case 2:
		return strconv.Itoa(d.Num)
	}
	var out strings.Builder
	for i := range len(d.Text) {
		switch c := d.Text[i]; {
		case c == '&':
			out.WriteString("&amp;")
		case c == '<':
			out.WriteString("&lt;")
		case c == '>':
			out.WriteString("&gt;")
		case c == '"':
			out.WriteString("&quot;")
		case c < 32 || c == 127:
			out.WriteString(fmt.Sprintf("&#%d;", c))
		default:
			out.WriteString(d.Text[i : i+1])
		}
	}
	return `"` + out.String() + `"`
}

// slowText is the text of a valid term by the words of the chapter.
func slowText(x Term) string {
	switch x.Op {
	case "":
		return slowValueText(x.Datum)
	case "@":
		return "@" + strings.Join(x.Path, ".")
	}
	out := "(" + x.Op
	for _, kid := range x.Kids {
		out += " " + slowText(kid)
	}
	return out + ")"
}

// checkPrint compares the answer of Print.
func checkPrint(t *testing.T, x Term, want string, wantErr api.Errno) {
	t.Helper()
	if got, err := Print(x); got != want || err != wantErr {
		t.Errorf("Print(%s) = %.100q, %v; want %.100q, %v", short(x), got, err, want, wantErr)
	}
}

func TestPrint(t *testing.T) { // 17.1
	checkPrint(t, call("if", call("less", path("n"), num(10)), constant(textValue("few")), call("cat", path("n"), constant(textValue(" of them")))), `(if (less @n 10) "few" (cat @n " of them"))`, api.OK)
	checkPrint(t, Term{}, "none", api.OK)
	checkPrint(t, constant(truthValue(0)), "no", api.OK)
	checkPrint(t, constant(truthValue(1)), "yes", api.OK)
	checkPrint(t, num(-70), "-70", api.OK)
	checkPrint(t, num(math.MinInt), "-9223372036854775808", api.OK)
	checkPrint(t, constant(textValue("a\"b) \n\x80")), "\"a&quot;b) &#10;\x80\"", api.OK)
	checkPrint(t, path("a"), "@a", api.OK)
	checkPrint(t, path("row,id-1,x:y"), "@row.id-1.x:y", api.OK)
	checkPrint(t, call("not", constant(none)), "(not none)", api.OK)
	checkPrint(t, call("add", num(1), call("size", path("a")), num(2)), "(add 1 (size @a) 2)", api.OK)
	checkPrint(t, nested(16, path("a,b")), strings.Repeat("(not ", 16)+"@a.b"+strings.Repeat(")", 16), api.OK)
	checkPrint(t, tree(2000), slowText(tree(2000)), api.OK)
	checkPrint(t, tree(2001), "", api.ErrForm)
	checkPrint(t, nested(17, num(1)), "", api.ErrForm)
	right, wrong := pool()
	for _, x := range right {
		checkPrint(t, x, slowText(x), api.OK)
		for _, y := range within(x) {
			checkPrint(t, y, slowText(y), api.OK)
		}
	}
	for _, x := range wrong {
		checkPrint(t, x, "", api.ErrForm)
		for _, y := range within(x) {
			checkPrint(t, y, "", api.ErrForm)
		}
	}
}

// roomy returns the same term, each of whose lists has room for more, and in it what is not of the term.
func roomy(t Term) Term {
	t.Path = append(slices.Clone(t.Path), "spare")[:len(t.Path)]
	t.Datum = roomyValue(t.Datum)
	l := append(slices.Clone(t.Kids), path("spare"))
	for i, x := range t.Kids {
		l[i] = roomy(x)
	}
	t.Kids = l[:len(t.Kids)]
	return t
}

func roomyValue(d api.Datum) api.Datum {
	d.Names = append(slices.Clone(d.Names), "spare")[:len(d.Names)]
	l := append(slices.Clone(d.List), textValue("spare"))
	for i, x := range d.List {
		l[i] = roomyValue(x)
	}
	d.List = l[:len(d.List)]
	return d
}

// whole prints a term with what stands in the room of its lists.
func whole(t Term) string {
	out := fmt.Sprintf("(%q %s %q", t.Op, wholeValue(t.Datum), t.Path[:cap(t.Path)])
	for _, x := range t.Kids[:cap(t.Kids)] {
		out += whole(x)
	}
	return out + ")"
}

func wholeValue(d api.Datum) string {
	out := fmt.Sprintf("(%d %d %q %q", d.Kind, d.Num, d.Text, d.Names[:cap(d.Names)])
	for _, x := range d.List[:cap(d.List)] {
		out += wholeValue(x)
	}
	return out + ")"
}

// spoil overwrites all lists of a term and what room they have.
func spoil(t Term) {
	for _, x := range t.Kids {
		spoil(x)
	}
	spoilValue(t.Datum)
	for i := range t.Path[:cap(t.Path)] {
		t.Path[:cap(t.Path)][i] = "mine"
	}
	for i := range t.Kids[:cap(t.Kids)] {
		t.Kids[:cap(t.Kids)][i] = path("mine")
	}
}

func spoilValue(d api.Datum) {
	for _, x := range d.List {
		spoilValue(x)
	}
	for i := range d.Names[:cap(d.Names)] {
		d.Names[:cap(d.Names)][i] = "mine"
	}
	for i := range d.List[:cap(d.List)] {
		d.List[:cap(d.List)][i] = textValue("mine")
	}
}

func TestMemoryOfArguments(t *testing.T) { // R4
	x := roomy(call("if", call("less", path("n,a"), num(10)), call("at", path("l"), num(0)), call("cat", path("n"), constant(textValue("x")))))
	env := append(make([]Bind, 0, 4), Bind{"n", roomyValue(record("a", numberValue(1)))}, Bind{"l", roomyValue(list(list(none, record("b,c", none, list(numberValue(3)))), none))})
	before := whole(x) + wholeValue(env[0].Datum) + wholeValue(env[1].Datum)
	Right(x)
	Print(x)
	first, err := Eval(x, env...)
	second, _ := Eval(path("l"), env...)
	if err != api.OK || !sameValue(first, env[1].Datum.List[0]) || !sameValue(second, env[1].Datum) {
		t.Fatalf("the values are %s and %s, %v", shortValue(first), shortValue(second), err)
	}
	want := wholeValue(second)
	spoilValue(first)
	if wholeValue(second) != want {
		t.Error("a value changes when another one is changed")
	}
	spoilValue(second)
	if whole(x)+wholeValue(env[0].Datum)+wholeValue(env[1].Datum) != before || env[:4][2].Name != "" {
		t.Error("the arguments have changed")
	}
	third, _ := Eval(x, env...)
	fourth, _ := Eval(path("l"), env...)
	want = wholeValue(third) + wholeValue(fourth)
	spoil(x)
	spoilValue(env[0].Datum)
	spoilValue(env[1].Datum)
	if wholeValue(third)+wholeValue(fourth) != want {
		t.Error("the values change when the arguments are changed")
	}
}

func TestMemoryOfValues(t *testing.T) { // R4
	// One list stands in several places of the environment, but not of the result.
	l := list(list(numberValue(1)), record("a,b", list(numberValue(2)), none))
	shared := list(l, l, record("a,b", l, l))
	shared.List[2].List[0] = l.List[1]
	for _, s := range []string{"@x", "(at @y 0)", "@z.a", `(at @z "a")`, "(if yes @x 1)"} {
		x, _ := Parse(s)
		d, err := Eval(x, Bind{"x", shared}, Bind{"y", list(shared)}, Bind{"z", record("a", shared)})
		if err != api.OK || !sameValue(d, shared) {
			t.Fatalf("%s = %s, %v", s, shortValue(d), err)
		}
		seen := map[any]bool{}
		note := func(element any) {
			if seen[element] {
				t.Errorf("two lists of the value of %s share an element", s)
			}
			seen[element] = true
		}
		var collect func(d api.Datum)
		collect = func(d api.Datum) {
			for i := range d.Names[:cap(d.Names)] {
				note(&d.Names[:cap(d.Names)][i])
			}
			for i := range d.List[:cap(d.List)] {
				note(&d.List[:cap(d.List)][i])
				collect(d.List[:cap(d.List)][i])
			}
		}
		collect(d)
		if len(seen) < 20 {
			t.Errorf("the value of %s has only %d elements", s, len(seen))
		}
	}
}
