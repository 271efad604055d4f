package terms

import (
	"fmt"
	"math"
	"math/big"
	"reflect"
	"slices"
	"strings"
	"testing"

	"tendril/api"
	"tendril/datum"
)

// slowEval evaluates a valid term by the words of the chapter.
func slowEval(x Term, env []Bind) (api.Datum, api.Errno) {
	switch x.Op {
	case "":
		return x.Datum, api.OK
	case "@":
		return slowPath(x.Path, env)
	case "and", "or":
		for i, kid := range x.Kids {
			d, err := slowEval(kid, env)
			if err == api.OK && d.Kind != 1 {
				err = api.ErrType
			}
			if err != api.OK {
				return none, err
			}
			if i == len(x.Kids)-1 || d.Num == map[string]int{"and": 0, "or": 1}[x.Op] {
				return d, api.OK
			}
		}
	case "if":
		d, err := slowEval(x.Kids[0], env)
		if err == api.OK && d.Kind != 1 {
			err = api.ErrType
		}
		if err != api.OK {
			return none, err
		}
		return slowEval(x.Kids[2-d.Num], env)
	}
	var values []api.Datum
	for _, kid := range x.Kids {
		d, err := slowEval(kid, env)
		if err != api.OK {
			return none, err
		}
		values = append(values, d)
	}
	return slowResult(x.Op, values)
}

func slowPath(names []string, env []Bind) (api.Datum, api.Errno) {
	d, found := none, false
	for _, b := range env {
		if b.Name == names[0] {
			d, found = b.Datum, true
		}
	}
	for _, name := range names[1:] {
		at := slices.Index(d.Names, name)
		if !found || d.Kind != 5 || at < 0 {
			return none, api.ErrNone
		}
		d = d.List[at]
	}
	if !found {
		return none, api.ErrNone
	}
	return d, api.OK
}

// slowResult is the table of the chapter for the operators that evaluate all their kids.
func slowResult(op string, values []api.Datum) (api.Datum, api.Errno) {
	var kinds []int
	for _, d := range values {
		kinds = append(kinds, d.Kind)
	}
	only := func(allowed ...int) bool {
		return !slices.ContainsFunc(kinds, func(kind int) bool { return !slices.Contains(allowed, kind) })
	}
	first, last := values[0], values[len(values)-1]
	switch {
	case op == "not" && only(1):
		return truthValue(1 - first.Num), api.OK
	case op == "eq":
		return truthValue(map[int]int{0: 1}[datum.Compare(first, last)]), api.OK
	case op == "less":
		return truthValue(map[int]int{-1: 1}[datum.Compare(first, last)]), api.OK
	case op == "add" && only(2), op == "sub" && only(2):
		return slowSum(op, values)
	case op == "cat" && only(0, 1, 2, 3):
		out := ""
		for _, d := range values {
			out += map[int]string{1: []string{"no", "yes"}[d.Num&1], 2: fmt.Sprint(d.Num), 3: d.Text}[d.Kind]
		}
		if len(out) > 65536 {
			return none, api.ErrLong
		}
		return textValue(out), api.OK
	case op == "size" && only(3):
		return numberValue(len(first.Text)), api.OK
	case op == "size" && only(4, 5):
		return numberValue(len(first.List)), api.OK
	case op == "at" && first.Kind == 4 && last.Kind == 2:
		for i, d := range first.List {
			if i == last.Num {
				return d, api.OK
			}
		}
		return none, api.OK
	case op == "at" && first.Kind == 5 && last.Kind == 3:
		for i, name := range first.Names {
			if name == last.Text {
				return first.List[i], api.OK
			}
		}
		return none, api.OK
	}
	return none, api.ErrType
}

func slowSum(op string, values []api.Datum) (api.Datum, api.Errno) {
	sum := big.NewInt(int64(values[0].Num))
	for _, d := range values[1:] {
		n := big.NewInt(int64(d.Num))
		if op == "sub" {
			n.Neg(n)
		}
		if sum.Add(sum, n); !sum.IsInt64() {
			return none, api.ErrRange
		}
	}
	return numberValue(int(sum.Int64())), api.OK
}

// environment binds a value of each Kind, some of them once more.
func environment() []Bind {
	row := record("a,b,id", list(numberValue(1), list(), record("a", textValue("deep"))), record("a,b", truthValue(1), none), textValue("x1"))
	return []Bind{
		{"none", none}, {"no", truthValue(0)}, {"yes", truthValue(1)}, {"num", numberValue(7)}, {"text", textValue("a")}, {"list", list(textValue("zero"), numberValue(1), row)}, {"row", numberValue(3)},
		{"empty", list()}, {"blank", record("")}, {"row", row}, {"last", textValue("first")}, {"full", textValue(fullText)}, {"last", numberValue(2)}, {"last", record("a", row)},
	}
}

// checkEval compares the answer of Eval.
func checkEval(t *testing.T, s string, env []Bind, want api.Datum, wantErr api.Errno) {
	t.Helper()
	x, err := Parse(s)
	if err != api.OK {
		t.Fatalf("%.100q is no term", s)
	}
	checkTerm(t, x, env, want, wantErr)
}

func checkTerm(t *testing.T, x Term, env []Bind, want api.Datum, wantErr api.Errno) {
	t.Helper()
	got, err := Eval(x, env...)
	if !sameValue(got, want) || err != wantErr {
		t.Errorf("the value of %s is %s, %v; want %s, %v", short(x), shortValue(got), err, shortValue(want), wantErr)
	}
	if !datum.Right(got) || err != api.OK && !reflect.DeepEqual(got, none) {
		t.Errorf("the value of %s, %v is not valid: %s", short(x), err, shortValue(got))
	}
}

func TestEvalPaths(t *testing.T) { // 17.2
	env := environment()
	row := env[9].Datum
	for s, want := range map[string]api.Datum{
		"@none": none, "@no": truthValue(0), "@num": numberValue(7), "@text": textValue("a"), "@empty": list(), "@blank": record(""), "@list": env[5].Datum, "@full": textValue(fullText),
		// The last bind of a name.
		"@row": row, "@row.id": textValue("x1"), "@row.a": row.List[0], "@row.b": row.List[1], "@row.b.a": truthValue(1), "@row.b.b": none, "@last.a.b.a": truthValue(1), "@last.a": row,
	} {
		checkEval(t, s, env, want, api.OK)
	}
	for _, s := range []string{
		"@x", "@nones", "@ro", "@x.a", "@none.a", "@no.no", "@num.a", "@text.a", "@text.text", "@list.a", "@list.zero", "@empty.a", "@blank.a",
		"@row.c", "@row.a.a", "@row.a.b", "@row.b.c", "@row.id.a", "@row.b.a.a", "@row.b.b.a", "@last.b", "@last.a.b.c", "@last.a.c.a", "@row.row", "@row.ro.id",
	} {
		checkEval(t, s, env, none, api.ErrNone)
	}
	checkEval(t, "@a", nil, none, api.ErrNone)
	// As long as a path may be.
	deep := numberValue(5)
	for range 15 {
		deep = record("a", deep)
	}
	checkEval(t, "@"+strings.Repeat("a.", 15)+"a", []Bind{{"a", deep}}, numberValue(5), api.OK)
	checkEval(t, "@"+strings.Repeat("a.", 14)+"a", []Bind{{"a", deep}}, record("a", numberValue(5)), api.OK)
	checkEval(t, "@"+strings.Repeat("a.", 15)+"b", []Bind{{"a", deep}}, none, api.ErrNone)
	checkEval(t, "@"+strings.Repeat("a.", 14)+"b.a", []Bind{{"a", deep}}, none, api.ErrNone)
}

func TestEvalEnvironment(t *testing.T) { // 17.2, 17.3
	// Names that no path can have do not matter, nor do earlier binds.
	for _, name := range []string{"", "A", "a.b", "@a", "a ", " a", "\xff", longName, longText} {
		checkEval(t, "@a", []Bind{{"a", numberValue(1)}, {name, numberValue(2)}}, numberValue(1), api.OK)
		checkEval(t, "@a.b", []Bind{{"a", record("b", numberValue(1))}, {name, numberValue(2)}}, numberValue(1), api.OK)
		checkEval(t, "@a", []Bind{{name, numberValue(2)}}, none, api.ErrNone)
	}
	env := slices.Repeat([]Bind{{"a", numberValue(1)}, {"b", truthValue(1)}, {"a", list()}}, 5000)
	checkEval(t, "@a", env, list(), api.OK)
	checkEval(t, "@a", append(env, Bind{"a", textValue("last")}), textValue("last"), api.OK)
	checkEval(t, "@b", append(env, Bind{"a", textValue("last")}), truthValue(1), api.OK)
	checkEval(t, "(add @a @a)", []Bind{{"a", textValue("x")}, {"a", numberValue(4)}}, numberValue(8), api.OK)
	checkEval(t, "@a", []Bind{{"a", record("x", none)}, {"a", none}}, none, api.OK)
	checkEval(t, "@a.x", []Bind{{"a", record("x", none)}, {"a", none}}, none, api.ErrNone)
}

func TestEvalWrong(t *testing.T) { // 17.2
	_, wrong := pool()
	var values []api.Datum
	for _, x := range wrong {
		if !datum.Right(x.Datum) {
			values = append(values, x.Datum)
		}
	}
	values = append(values, many(2000), record("b,a", none, none), record("A", none), list(list(textValue(longText))), list(list(api.Datum{Kind: 9})))
	for _, d := range values {
		// All values of the environment count, used or not, ahead of the evaluation.
		for _, s := range []string{"1", "@a", "@b", "@z", "(not 1)", "(if yes 1 @a)"} {
			checkEval(t, s, []Bind{{"a", d}}, none, api.ErrType)
			checkEval(t, s, []Bind{{"a", d}, {"a", none}}, none, api.ErrType)
			checkEval(t, s, []Bind{{"a", none}, {"A", d}, {"b", none}}, none, api.ErrType)
			checkEval(t, s, append(slices.Repeat([]Bind{{"a", none}}, 99), Bind{"", d}), none, api.ErrType)
		}
		// A term that is not valid counts ahead of them.
		for _, x := range wrong {
			checkTerm(t, x, []Bind{{"a", d}}, none, api.ErrForm)
		}
	}
	for _, x := range wrong {
		checkTerm(t, x, nil, none, api.ErrForm)
		for _, y := range within(x) {
			checkTerm(t, y, environment(), none, api.ErrForm)
		}
		// Even where it would not be evaluated.
		checkTerm(t, call("if", constant(truthValue(1)), num(1), x), nil, none, api.ErrForm)
		checkTerm(t, call("and", constant(truthValue(0)), x), nil, none, api.ErrForm)
	}
	checkTerm(t, tree(2001), nil, none, api.ErrForm)
	checkTerm(t, nested(17, constant(truthValue(0))), nil, none, api.ErrForm)
	checkTerm(t, nested(16, constant(truthValue(1))), nil, truthValue(1), api.OK)
	checkTerm(t, nested(15, constant(truthValue(1))), nil, truthValue(0), api.OK)
}

// kids are terms with values of all Kinds, and terms with each of the errors.
func kids() []Term {
	var out []Term
	for _, s := range []string{
		"none", "no", "yes", "0", "1", "-1", "7", "9223372036854775807", "-9223372036854775808", `""`, `"a"`, `"id"`, `"b"`, "@list", "@empty", "@row", "@blank", "@row.b", "@full", "@list.x", "@missing",
		"(not 1)", "(add 9223372036854775807 1)", `(cat @full "x")`, "(not no)", "(size @full)",
	} {
		x, _ := Parse(s)
		out = append(out, x)
	}
	return out
}

func checkSlowEval(t *testing.T, x Term, env []Bind) {
	t.Helper()
	want, wantErr := slowEval(x, env)
	checkTerm(t, x, env, want, wantErr)
}

func TestEvalEveryCall(t *testing.T) { // 17.2
	// Every operator with all ones, twos and threes of kids that it takes.
	env, tried := environment(), 0
	for op, limits := range kidsOf {
		var extend func(l []Term)
		extend = func(l []Term) {
			if limits[0] <= len(l) && len(l) <= limits[1] {
				checkSlowEval(t, call(op, l...), env)
				tried++
			}
			if len(l) == min(3, limits[1]) {
				return
			}
			for _, kid := range kids() {
				extend(append(slices.Clone(l), kid))
			}
		}
		extend(nil)
	}
	one, two, three := len(kids()), len(kids())*len(kids()), len(kids())*len(kids())*len(kids())
	if tried != 3*one+8*two+5*three {
		t.Errorf("%d calls were tried", tried)
	}
}

func TestEvalLazily(t *testing.T) { // 17.2
	// Each kid that is evaluated shows by its own error that it is.
	for s, want := range map[string]any{
		"(and no @x)": 0, "(and yes no @x)": 0, "(and yes yes)": 1, "(and yes @x no)": api.ErrNone, "(and @x no)": api.ErrNone, "(and yes yes yes yes yes yes yes yes no)": 0, "(and yes 1 @x)": api.ErrType, "(and 1 @x)": api.ErrType, "(and @x 1)": api.ErrNone, "(and yes 1)": api.ErrType, "(and no 1)": 0, "(and yes none)": api.ErrType,
		"(and (sub 1 1) no)": api.ErrType, "(and yes yes @x 1)": api.ErrNone, "(and no (add 9223372036854775807 1))": 0,
		"(or yes @x)": 1, "(or no yes @x)": 1, "(or no no)": 0, "(or no @x yes)": api.ErrNone, "(or @x yes)": api.ErrNone, "(or no no no no no no no no yes)": 1, "(or no 1 @x)": api.ErrType, "(or 1 @x)": api.ErrType, "(or @x 1)": api.ErrNone, "(or no 1)": api.ErrType, "(or yes 1)": 1, `(or no "yes")`: api.ErrType,
		"(if yes 1 @x)": 1, "(if no @x 1)": 1, "(if yes @x 1)": api.ErrNone, "(if no 1 @x)": api.ErrNone, "(if @x 1 (not 1))": api.ErrNone, "(if 1 @x @x)": api.ErrType, "(if none 1 1)": api.ErrType, "(if 0 @x (add 9223372036854775807 1))": api.ErrType, "(if (not 1) @x @x)": api.ErrType, "(if (not yes) @x 0)": 0, "(if yes (if no @x 1) @x)": 1,
		// The first error of all kids counts ahead of their Kinds.
		"(add yes @x)": api.ErrNone, "(add yes 1)": api.ErrType, "(sub none @x)": api.ErrNone, "(eq @x (not 1))": api.ErrNone, "(eq (not 1) @x)": api.ErrType, "(less (add 9223372036854775807 1) @x)": api.ErrRange, "(at 1 @x)": api.ErrNone, "(cat @l @x)": api.ErrNone, "(cat @l 1)": api.ErrType,
		"(add 9223372036854775807 1 @x)": api.ErrNone, "(add 9223372036854775807 1 yes)": api.ErrType, "(add 9223372036854775807 1 -1)": api.ErrRange, "(cat @f @f @l)": api.ErrType, "(cat @f @f @x)": api.ErrNone, "(cat @f @f)": api.ErrLong, "(at @x (not 1))": api.ErrNone, "(not @x)": api.ErrNone, "(size @x)": api.ErrNone,
	} {
		x, _ := Parse(s)
		d, err := Eval(x, Bind{"l", list()}, Bind{"f", textValue(fullText)})
		if e, isErr := want.(api.Errno); isErr && err != e || !isErr && (err != api.OK || d.Num != want) {
			t.Errorf("%s = %s, %v; want %v", s, shortValue(d), err, want)
		}
	}
}

func TestEvalSums(t *testing.T) { // 17.2
	numbers := []int{0, 1, -1, 2, -2, 1 << 62, -1 << 62, math.MaxInt, math.MinInt, math.MaxInt - 1, math.MinInt + 1}
	for _, a := range numbers {
		for _, b := range numbers {
			checkSlowEval(t, call("add", num(a), num(b)), nil)
			checkSlowEval(t, call("sub", num(a), num(b)), nil)
			for _, c := range numbers {
				checkSlowEval(t, call("add", num(a), num(b), num(c)), nil)
				checkSlowEval(t, call("add", num(a), num(b), num(c), num(a)), nil)
			}
		}
	}
	checkEval(t, "(add 1 2 3 4 5 6 7 8 9)", nil, numberValue(45), api.OK)
	checkEval(t, "(add 1 1 1 1 1 1 1 9223372036854775799 1)", nil, numberValue(math.MaxInt), api.OK)
	checkEval(t, "(add 1 1 1 1 1 1 1 1 9223372036854775800)", nil, none, api.ErrRange)
	// A partial sum from the left, not another one.
	checkEval(t, "(add 9223372036854775807 1 -1)", nil, none, api.ErrRange)
	checkEval(t, "(add 9223372036854775807 -1 1)", nil, numberValue(math.MaxInt), api.OK)
	checkEval(t, "(add -1 9223372036854775807 1)", nil, numberValue(math.MaxInt), api.OK)
	checkEval(t, "(sub 0 -9223372036854775808)", nil, none, api.ErrRange)
	checkEval(t, "(sub -1 -9223372036854775808)", nil, numberValue(math.MaxInt), api.OK)
}

func TestEvalTexts(t *testing.T) { // 17.2
	for s, want := range map[string]string{
		`(cat "a")`: "a", "(cat none)": "", "(cat yes no)": "yesno", "(cat 1 -2 0)": "1-20", "(cat none none)": "", `(cat "" "x" "" 1 none yes -9223372036854775808 "&lt;&amp;&gt;" "&quot;")`: `x1yes-9223372036854775808<&>"`,
	} {
		checkEval(t, s, nil, textValue(want), api.OK)
	}
	// Up to the limit of texts, and above it.
	for size, fits := range map[int]bool{65534: true, 65535: true, 65536: true, 65537: false, 65538: false, 131072: false} {
		l := []Bind{{"a", textValue(fullText[:size/2])}, {"b", textValue(fullText[:size-size/2])}}
		if fits {
			checkEval(t, "(cat @a @b)", l, textValue(fullText[:size]), api.OK)
			checkEval(t, "(size (cat @a none @b))", l, numberValue(size), api.OK)
		} else {
			checkEval(t, "(cat @a @b)", l, none, api.ErrLong)
			checkEval(t, "(size (cat @b none @a))", l, none, api.ErrLong)
		}
	}
	full := []Bind{{"a", textValue(fullText)}, {"l", list()}}
	checkEval(t, "(cat @a)", full, textValue(fullText), api.OK)
	checkEval(t, `(cat @a none "")`, full, textValue(fullText), api.OK)
	for _, s := range []string{"(cat @a 1)", "(cat no @a)", "(cat @a @a @a @a @a @a @a @a @a)"} {
		checkEval(t, s, full, none, api.ErrLong)
	}
	checkEval(t, "(cat @a @a @l)", full, none, api.ErrType)
	checkEval(t, "(size @a)", full, numberValue(65536), api.OK)
	// Bytes count.
	checkEval(t, `(size "é")`, nil, numberValue(2), api.OK)
	checkEval(t, `(size "&lt;")`, nil, numberValue(1), api.OK)
}

func TestEvalParts(t *testing.T) { // 17.2
	env := append(environment(), Bind{"many", many(1999)}, Bind{"wide", record("a,b,c", list(none), textValue("x"), record("a", none))})
	row := environment()[9].Datum
	for s, want := range map[string]api.Datum{
		"(size @list)": numberValue(3), "(size @empty)": numberValue(0), "(size @row)": numberValue(3), "(size @blank)": numberValue(0), "(size @many)": numberValue(1999), `(size "")`: numberValue(0), "(size @wide)": numberValue(3),
		"(at @list 0)": textValue("zero"), "(at @list 1)": numberValue(1), "(at @list 2)": row, "(at @list 3)": none, "(at @list -1)": none, "(at @list -9223372036854775808)": none, "(at @list 9223372036854775807)": none, "(at @list 4294967296)": none,
		"(at @empty 0)": none, "(at @many 1998)": numberValue(7), "(at @many 1999)": none,
		`(at @row "id")`: textValue("x1"), `(at @row "a")`: row.List[0], `(at @row "c")`: none, `(at @row "")`: none, `(at @row "i")`: none, `(at @row "b.a")`: none, `(at @row "A")`: none, `(at @blank "a")`: none, `(at (at @row "b") "a")`: truthValue(1), `(at (at @list 2) "id")`: textValue("x1"),
		`(at @row (cat "i" "d"))`: textValue("x1"), "(at @list (sub 2 1))": numberValue(1), "(at @row @full)": none,
	} {
		checkEval(t, s, env, want, api.OK)
	}
	for _, s := range []string{"(size none)", "(size yes)", "(size 1)", `(at "a" 1)`, `(at "a" "a")`, "(at none 0)", `(at none "a")`, "(at yes 0)", "(at 1 1)", `(at @list "a")`, `(at @list "0")`, "(at @row 0)", "(at @list none)", "(at @row none)", "(at @list yes)", "(at @row @row)", "(at @list @list)", "(at 0 @list)", `(at "id" @row)`} {
		checkEval(t, s, env, none, api.ErrType)
	}
}

func TestEvalOrder(t *testing.T) { // 17.2
	// Values of all Kinds are compared.
	values := []api.Datum{none, truthValue(0), truthValue(1), numberValue(-9), numberValue(5), numberValue(10), textValue(""), textValue("10"), textValue("9"), list(), list(none), list(numberValue(1)), list(list()), record(""), record("a", none), record("a", list()), record("b", none), many(1999)}
	values = append(values, list(numberValue(1), none))
	for _, a := range values {
		for _, b := range values {
			c, env := datum.Compare(a, b), []Bind{{"a", a}, {"b", b}}
			is := func(b bool) api.Datum { return truthValue(map[bool]int{true: 1}[b]) }
			checkEval(t, "(eq @a @b)", env, is(c == 0), api.OK)
			checkEval(t, "(less @a @b)", env, is(c < 0), api.OK)
			checkEval(t, "(less @b @a)", env, is(c > 0), api.OK)
		}
	}
}

func TestEvalWhole(t *testing.T) { // 17.2
	// The example of the chapter.
	s := `(if (less @n 10) "few" (cat @n " of them"))`
	checkEval(t, s, []Bind{{"n", numberValue(12)}}, textValue("12 of them"), api.OK)
	checkEval(t, s, []Bind{{"n", numberValue(9)}}, textValue("few"), api.OK)
	checkEval(t, s, []Bind{{"n", list()}}, none, api.ErrType)
	checkEval(t, s, nil, none, api.ErrNone)
	for _, x := range kids() {
		checkSlowEval(t, x, environment())
		for _, y := range within(x) {
			checkSlowEval(t, y, environment())
			for _, z := range within(y) {
				checkSlowEval(t, z, environment())
			}
		}
	}
	// The greatest terms.
	checkTerm(t, tree(1), nil, numberValue(7), api.OK)
	sevens, sum := call("add"), 0
	for range 9 {
		nine := call("add")
		for range 9 {
			nine.Kids = append(nine.Kids, call("add", slices.Repeat([]Term{num(7)}, 9)...))
		}
		sevens.Kids = append(sevens.Kids, nine)
		sum += 7 * 81
	}
	checkTerm(t, sevens, nil, numberValue(sum), api.OK)
}

func TestEvalConstants(t *testing.T) { // 17.2
	right, _ := pool()
	for _, x := range right {
		if x.Op == "" {
			checkTerm(t, x, nil, x.Datum, api.OK)
			checkTerm(t, x, environment(), x.Datum, api.OK)
		}
	}
	if d, err := Eval(Term{Datum: api.Datum{Names: []string{}, List: []api.Datum{}}}); err != api.OK || !sameValue(d, none) {
		t.Error(d, err)
	}
}
