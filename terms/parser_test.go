package terms

import (
	"math"
	"reflect"
	"regexp"
	"slices"
	"strconv"
	"strings"
	"testing"

	"tendril/api"
)

var (
	slowDecimal = regexp.MustCompile(`^(?:0|-?[1-9][0-9]*)$`)
	slowQuoted  = regexp.MustCompile(`^"(?:[^&<>"\x00-\x1f\x7f]|&amp;|&lt;|&gt;|&quot;|&#(?:[0-9]|[12][0-9]|3[01]|127);)*"$`)
	slowForms   = strings.NewReplacer(append([]string{"&amp;", "&", "&lt;", "<", "&gt;", ">", "&quot;", "\"", "&#127;", "\x7f"}, controls()...)...)
)

// controls lists the forms of the bytes below 32, each with its byte.
func controls() []string {
	var out []string
	for c := range 32 {
		out = append(out, "&#"+strconv.Itoa(c)+";", string(rune(c)))
	}
	return out
}

// slowParse finds the term with a text by trying all ways to divide the text.
func slowParse(s string) (Term, bool) {
	x, ok := slowConstant(s)
	if names, isPath := strings.CutPrefix(s, "@"); isPath {
		x, ok = Term{Op: "@", Path: strings.Split(names, ".")}, true
	}
	if strings.HasPrefix(s, "(") && strings.HasSuffix(s, ")") {
		op, _, _ := strings.Cut(s[1:len(s)-1], " ")
		kids, whole := slowKids(s[1+len(op) : len(s)-1])
		x, ok = Term{Op: op, Kids: kids}, whole && kidsOf[op] != [2]int{}
	}
	if !ok || !slowRight(x) {
		return Term{}, false
	}
	return x, true
}

// slowKids finds the terms whose texts, each behind a space, make up a string.
func slowKids(s string) ([]Term, bool) {
	if s == "" {
		return nil, true
	}
	for end := 1; s[0] == ' ' && end <= len(s); end++ {
		if end < len(s) && s[end] != ' ' {
			continue
		}
		first, ok := slowParse(s[1:end])
		if !ok {
			continue
		}
		if rest, ok := slowKids(s[end:]); ok {
			return append([]Term{first}, rest...), true
		}
	}
	return nil, false
}

func slowConstant(s string) (Term, bool) {
	word, isWord := map[string]Term{"none": {}, "no": constant(truthValue(0)), "yes": constant(truthValue(1))}[s]
	n, err := strconv.Atoi(s)
	switch {
	case isWord:
		return word, true
	case slowDecimal.MatchString(s) && err == nil:
		return num(n), true
	case slowQuoted.MatchString(s):
		return constant(textValue(slowForms.Replace(s[1 : len(s)-1]))), true
	}
	return Term{}, false
}

// checkParse compares the answer of Parse.
func checkParse(t *testing.T, s string, want Term) {
	t.Helper()
	if x, err := Parse(s); !same(x, want) || err != api.OK {
		t.Errorf("Parse(%.100q) = %s, %v; want %s", s, short(x), err, short(want))
	}
}

// checkBad compares the answer of Parse for what is no text of a valid term.
func checkBad(t *testing.T, s string) {
	t.Helper()
	if x, err := Parse(s); !reflect.DeepEqual(x, Term{}) || err != api.ErrForm {
		t.Errorf("Parse(%.100q) = %s, %v", s, short(x), err)
	}
}

// checkSlow compares the answers of Parse and slowParse.
func checkSlow(t *testing.T, s string) {
	t.Helper()
	if want, ok := slowParse(s); ok {
		checkParse(t, s, want)
	} else {
		checkBad(t, s)
	}
}

func TestParse(t *testing.T) { // 17.1
	for s, want := range map[string]Term{
		`(if (less @n 10) "few" (cat @n " of them"))`: call("if", call("less", path("n"), num(10)), constant(textValue("few")), call("cat", path("n"), constant(textValue(" of them")))),
		"none":                                {},
		"no":                                  constant(truthValue(0)),
		"yes":                                 constant(truthValue(1)),
		"0":                                   num(0),
		"-1":                                  num(-1),
		"9223372036854775807":                 num(math.MaxInt),
		"-9223372036854775808":                num(math.MinInt),
		`""`:                                  constant(textValue("")),
		`" none) (not 1 @a.b,[]{}=' "`:        constant(textValue(" none) (not 1 @a.b,[]{}=' ")),
		"\"&lt;&gt;&amp;&quot;&#0;\x80\"":     constant(textValue("<>&\"\x00\x80")),
		`"` + fullText + `"`:                  constant(textValue(fullText)),
		"@a":                                  path("a"),
		"@none":                               path("none"),
		"@not":                                path("not"),
		"@a.b-1.c:d.x9":                       path("a,b-1,c:d,x9"),
		"@" + fullName + "." + fullName:       path(fullName + "," + fullName),
		"@" + strings.Repeat("a.", 15) + "a":  path(strings.Repeat("a,", 15) + "a"),
		"(not yes)":                           call("not", constant(truthValue(1))),
		"(and no @a)":                         call("and", constant(truthValue(0)), path("a")),
		"(or no no no no no no no no no)":     call("or", slices.Repeat([]Term{constant(truthValue(0))}, 9)...),
		`(eq "" none)`:                        call("eq", constant(textValue("")), Term{}),
		"(less -1 -2)":                        call("less", num(-1), num(-2)),
		"(add @add (add 1 2) 3)":              call("add", path("add"), call("add", num(1), num(2)), num(3)),
		"(sub (sub 3 2) (sub 1 0))":           call("sub", call("sub", num(3), num(2)), call("sub", num(1), num(0))),
		`(cat ")")`:                           call("cat", constant(textValue(")"))),
		`(cat "a b" "c) d")`:                  call("cat", constant(textValue("a b")), constant(textValue("c) d"))),
		"(size @a.b)":                         call("size", path("a,b")),
		"(at @l 0)":                           call("at", path("l"), num(0)),
		"(if (not (not no)) 1 (if @a @b @c))": call("if", call("not", call("not", constant(truthValue(0)))), num(1), call("if", path("a"), path("b"), path("c"))),
	} {
		checkParse(t, s, want)
		checkPrint(t, want, s, api.OK)
	}
}

func TestParseForm(t *testing.T) { // 17.1
	for _, s := range []string{
		// No constants.
		"", " ", "n", "non", "nonee", "true", "x", "No", "NONE", "yesno", "-", "--1", "-0", "+1", "00", "007", "1-", "1.5", "9223372036854775808", "-9223372036854775809", "1x",
		`"`, `"a`, `a"`, `"a" `, `"a""b"`, `"a"b`, `b"a"`, `"a<"`, `"&"`, `"&apos;"`, `"&#65;"`, "\"\n\"", `'a'`, `"` + longText + `"`, `"` + strings.Repeat("&lt;", 65537) + `"`,
		"[]", "[1]", `["a"]`, "{}", "{a=1}", "[ ]", "[1", "{a=[1,2]}", "1,2", "a=1",
		// No paths.
		"@", "@.", "@a.", "@.a", "@a..b", "@A", "@1", "@a.1", "@-a", "@a b", "@a ", " @a", "@a)", "@@a", "@a@b", "@a,b", "@é", "@a\n", "@a.B", "a", "a.b", "@" + longName, "@a." + longName, "@" + strings.Repeat("a.", 16) + "a", "@" + strings.Repeat("a.", 15) + "A", `@"a"`, "@(a)", "@a_b", "@a.b.", "@a\x00",
		// No calls.
		"(", ")", "()", "( )", "(not", "not 1", "(not)", "(not )", "(not 1", "(not 1))", "(not 1) ", " (not 1)", "(not 1 )", "(not  1)", "( not 1)", "(not\t1)", "(not\n1)", "(not,1)", "(not1)", "((not 1))", "(not(not 1))", "(not 1)(not 1)", "(not 1 2)", "(NOT 1)", "(Not 1)", "(nor 1 2)", "(@ 1)", "(@a 1)", "(1 2)", "(none)", `("not" 1)`, "(not [1])", "(not {})", "(not x)", "(not @)", "(not (not))", "(not ())", "(not ( 1))", "(no 1)", "(nott 1)", "(not 1", `(not "1)`, `(not "1"`, `(cat "a""b")`, `(cat "a"1)`, `(cat 1"a")`, "(add 1 2(add 1 2))",
		"(and)", "(and no)", "(or no)", "(eq 1)", "(eq 1 2", "(eq 1 2 3)", "(less 1)", "(less 1 2 3)", "(add 1)", "(sub 1)", "(sub 1 2 3)", "(cat)", "(size)", "(size 1 2)", "(at 1)", "(at 1 2 3)", "(if 1 2)", "(if 1 2 3 4)", "(if)",
		"(and 1 1 1 1 1 1 1 1 1 1)", "(or 1 1 1 1 1 1 1 1 1 1)", "(add 1 1 1 1 1 1 1 1 1 1)", "(cat 1 1 1 1 1 1 1 1 1 1)",
		"\xff", "\x00", "(not 1)\n", "(not 1)\x00", "none none", "no)", "1 1", "@a @b",
	} {
		checkBad(t, s)
		checkBad(t, "(not "+s+" )")
	}
}

func TestParseKids(t *testing.T) { // 17.1
	for op, limits := range kidsOf {
		for n := range 40 {
			s := "(" + op + strings.Repeat(" 1", n) + ")"
			if limits[0] <= n && n <= limits[1] {
				checkParse(t, s, call(op, slices.Repeat([]Term{num(1)}, n)...))
			} else {
				checkBad(t, s)
				checkBad(t, "(not "+s+")")
			}
		}
	}
}

func TestParseLimits(t *testing.T) { // 17.1, R1
	for _, n := range []int{1, 2, 100, 1999, 2000, 2001, 2002, 2009} {
		s := slowText(tree(n))
		if n <= 2000 {
			checkParse(t, s, tree(n))
		} else {
			checkBad(t, s)
		}
	}
	open, closed := strings.Repeat("(not ", 16), strings.Repeat(")", 16)
	checkParse(t, open+"1"+closed, nested(16, num(1)))
	checkParse(t, open+"@a.b"+closed, nested(16, path("a,b")))
	checkBad(t, open+"(not 1)"+closed)
	checkBad(t, open+"(cat 1)"+closed)
	checkParse(t, "(eq "+open[5:]+"1"+closed[1:]+" "+open[5:]+"1"+closed[1:]+")", call("eq", nested(15, num(1)), nested(15, num(1))))
	checkBad(t, "(eq "+open+"1"+closed+" 1)")
	checkBad(t, "(eq 1 "+open+"1"+closed+")")
	// Far beyond the limits.
	huge := strings.Repeat("a", 1<<22)
	for _, s := range []string{
		huge, "@" + huge, "@a." + huge, "@" + strings.Repeat("a.", 1<<20) + "a", "(" + huge + " 1)", `"` + huge + `"`, `"` + huge, strings.Repeat("1", 1<<22), "-" + strings.Repeat("0", 1<<22),
		strings.Repeat("(", 1<<22), strings.Repeat("(not ", 1<<22) + "1" + strings.Repeat(")", 1<<22), "(add" + strings.Repeat(" 1", 1<<20) + ")", "(cat" + strings.Repeat(" ", 1<<22), strings.Repeat(" ", 1<<22), strings.Repeat("[", 1<<22), "[" + strings.Repeat("1,", 1<<22) + "1]",
	} {
		checkBad(t, s)
		checkBad(t, "(not "+s+")")
	}
}

func TestParseEveryString(t *testing.T) { // 17.1
	// Every string of a few pieces, also behind some beginnings.
	pieces := []string{"(", ")", " ", "not", "eq", "@", ".", "a", "1", "-", "no", `"`, "[", "&amp;"}
	accepted := 0
	var extend func(s, end string, left int)
	extend = func(s, end string, left int) {
		checkSlow(t, s+end)
		if x, err := Parse(s + end); err == api.OK {
			accepted++
			checkPrint(t, x, s+end, api.OK)
		}
		if left == 0 {
			return
		}
		for _, piece := range pieces {
			extend(s+piece, end, left-1)
		}
	}
	extend("", "", 4)
	extend("(not ", "", 4)
	extend("(not ", ")", 4)
	extend("(eq @a ", ")", 4)
	extend("(eq ", " 1)", 4)
	extend(`(cat "`, ")", 4)
	extend("@a", "", 4)
	if accepted < 1000 {
		t.Errorf("only %d strings were accepted", accepted)
	}
}

func TestParseSpoilt(t *testing.T) { // 17.1
	// Whatever a single change makes of a text.
	for _, s := range []string{`(if (less @n 10) "few" (cat @n " of them"))`, `(cat @row.id ":" (add 1 -2) (or no yes))`, `(at @a.b-1 (sub none "&#10;"))`} {
		for at := range len(s) + 1 {
			checkSlow(t, s[:at])
			checkSlow(t, s[at:])
			for c := range 256 {
				insert := s[:at] + string([]byte{byte(c)}) + s[at:]
				checkSlow(t, insert)
				if at < len(s) {
					checkSlow(t, insert[:at+1]+s[at+1:])
				}
			}
			for end := at; end <= len(s); end++ {
				checkSlow(t, s[:at]+s[end:])
				checkSlow(t, s[:end]+s[at:])
			}
		}
	}
}

func TestInverse(t *testing.T) { // 17.3
	right, _ := pool()
	for _, x := range right {
		right = append(right, within(x)...)
	}
	for _, x := range append(right, nested(16, num(1)), tree(2000), tree(1999)) {
		s, err := Print(x)
		if err != api.OK {
			t.Fatalf("Print(%s) = %v", short(x), err)
		}
		checkParse(t, s, x)
	}
	every := ""
	for c := range 256 {
		every += string([]byte{byte(c)})
	}
	for i := range len(every) {
		x := call("cat", constant(textValue(every[i:i+1])), constant(textValue(every[i:])), constant(textValue(every[:i])))
		s, _ := Print(x)
		checkParse(t, s, x)
	}
}

func TestMemoryOfTerms(t *testing.T) { // R4
	s := `(if (less @n.a 10) "few" (cat @n.a " of them"))`
	first, _ := Parse(s)
	second, _ := Parse(s)
	spoil(first)
	checkPrint(t, second, s, api.OK)
	// No two lists of one term share memory.
	seen := map[any]bool{}
	note := func(element any) {
		if seen[element] {
			t.Error("two lists share an element")
		}
		seen[element] = true
	}
	var collect func(x Term)
	collect = func(x Term) {
		for i := range x.Path[:cap(x.Path)] {
			note(&x.Path[:cap(x.Path)][i])
		}
		for i := range x.Kids[:cap(x.Kids)] {
			note(&x.Kids[:cap(x.Kids)][i])
			collect(x.Kids[:cap(x.Kids)][i])
		}
	}
	collect(second)
	if len(seen) < 7+4 {
		t.Errorf("there are only %d elements", len(seen))
	}
}
