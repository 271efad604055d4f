package datum

import (
	"fmt"
	"math"
	"reflect"
	"regexp"
	"slices"
	"strconv"
	"strings"
	"testing"

	"tendril/api"
)

var (
	slowLetters = regexp.MustCompile(`^[a-z]+`)
	slowDigits  = regexp.MustCompile(`^[-0-9]+`)
	slowName    = regexp.MustCompile(`^[a-z0-9:.-]+`)
	slowSpan    = regexp.MustCompile(`^[^<>"]*`)
	slowEscaped = regexp.MustCompile(`^(?:[^&<>"\x00-\x1f\x7f]|&amp;|&lt;|&gt;|&quot;|&#(?:[0-9]|[12][0-9]|3[01]|127);)*`)
	isDecimal   = regexp.MustCompile(`^(?:0|-?[1-9][0-9]*)$`)
	isName      = regexp.MustCompile(`^[a-z][a-z0-9:.-]{0,31}$`)
	slowForms   = strings.NewReplacer(append([]string{"&amp;", "&", "&lt;", "<", "&gt;", ">", "&quot;", "\"", "&#127;", "\x7f"}, controls()...)...)
)

// controls lists the forms of the bytes below 32, each with its byte.
func controls() []string {
	var out []string
	for c := range 32 {
		out = append(out, fmt.Sprintf("&#%d;", c), string(rune(c)))
	}
	return out
}

// slowValue reads a value at an index by the words of the chapter, in so many lists and records: it returns
// the index behind it, or the index of the error.
func slowValue(s string, at, open int) (api.Datum, int, api.Errno) {
	none, rest := api.Datum{}, s[at:]
	if run := slowLetters.FindString(rest); run != "" {
		d, there := map[string]api.Datum{"none": none, "no": truth(0), "yes": truth(1)}[run]
		if !there {
			return none, at, api.ErrForm
		}
		return d, at + len(run), api.OK
	}
	if run := slowDigits.FindString(rest); run != "" {
		n, err := strconv.Atoi(run)
		if err != nil || !isDecimal.MatchString(run) {
			return none, at, api.ErrForm
		}
		return number(n), at + len(run), api.OK
	}
	switch {
	case strings.HasPrefix(rest, `"`):
		span := slowSpan.FindString(rest[1:])
		right := slowEscaped.FindString(span)
		if end := at + 1 + len(right); len(right) < len(span) || !strings.HasPrefix(s[end:], `"`) {
			return none, end, api.ErrForm
		}
		return text(slowForms.Replace(span)), at + len(span) + 2, api.OK
	case strings.HasPrefix(rest, "["), strings.HasPrefix(rest, "{"):
		if open == 16 {
			return none, at, api.ErrDeep
		}
		return slowWithin(s, at, open+1)
	}
	return none, at, api.ErrForm
}

// slowWithin reads a list or a record.
func slowWithin(s string, at, open int) (api.Datum, int, api.Errno) {
	d, closing := api.Datum{Kind: 4}, "]"
	if s[at] == '{' {
		d.Kind, closing = 5, "}"
	}
	begins := func(piece string) bool { return strings.HasPrefix(s[at:], piece) }
	at++
	for !begins(closing) {
		if len(d.List) > 0 {
			if !begins(",") {
				return d, at, api.ErrForm
			}
			at++
		}
		if d.Kind == 5 {
			name := slowName.FindString(s[at:])
			if !isName.MatchString(name) {
				return d, at, api.ErrForm
			}
			d.Names = append(d.Names, name)
			if at += len(name); !begins("=") {
				return d, at, api.ErrForm
			}
			at++
		}
		x, end, err := slowValue(s, at, open)
		if at = end; err != api.OK {
			return d, at, err
		}
		d.List = append(d.List, x)
	}
	return d, at + 1, api.OK
}

// slowParse is Parse by the words of the chapter.
func slowParse(s string) (api.Datum, int, api.Errno) {
	d, at, err := slowValue(s, 0, 0)
	if err == api.OK && at < len(s) {
		err = api.ErrForm
	}
	if err != api.OK {
		return api.Datum{}, at, err
	}
	if !Right(d) {
		return api.Datum{}, 0, api.ErrType
	}
	return d, 0, api.OK
}

// checkParse compares the answer of Parse.
func checkParse(t *testing.T, s string, want api.Datum, wantAt int, wantErr api.Errno) {
	t.Helper()
	d, at, err := Parse(s)
	if !same(d, want) || at != wantAt || err != wantErr {
		t.Errorf("Parse(%.100q) = %s, %d, %v; want %s, %d, %v", s, short(d), at, err, short(want), wantAt, wantErr)
	}
}

// checkBad compares the answer of Parse for what is no text of a valid value.
func checkBad(t *testing.T, s string, wantAt int, wantErr api.Errno) {
	t.Helper()
	checkParse(t, s, api.Datum{}, wantAt, wantErr)
}

// checkSlow compares the answers of Parse and slowParse.
func checkSlow(t *testing.T, s string) {
	t.Helper()
	want, wantAt, wantErr := slowParse(s)
	checkParse(t, s, want, wantAt, wantErr)
}

func TestParse(t *testing.T) { // 16.2
	for s, want := range map[string]api.Datum{
		`{a=1,b=[yes,"x"]}`:                 record("a,b", number(1), list(truth(1), text("x"))),
		"none":                              {},
		"no":                                truth(0),
		"yes":                               truth(1),
		"0":                                 number(0),
		"-1":                                number(-1),
		"100":                               number(100),
		"9223372036854775807":               number(math.MaxInt),
		"-9223372036854775808":              number(math.MinInt),
		`""`:                                text(""),
		`"x"`:                               text("x"),
		`" none,[]{}=' "`:                   text(" none,[]{}=' "),
		"\"&lt;&gt;&amp;&quot;&#0;\x80\"":   text("<>&\"\x00\x80"),
		`"` + fullText + `"`:                text(fullText),
		"[]":                                list(),
		"[[]]":                              list(list()),
		"[[],{},none]":                      list(list(), record(""), api.Datum{}),
		"[no,-7]":                           list(truth(0), number(-7)),
		"{}":                                record(""),
		"{none=none}":                       record("none", api.Datum{}),
		"{a-:.9=9}":                         record("a-:.9", number(9)),
		"{a={a={}},b={a=[]}}":               record("a,b", record("a", record("")), record("a", list())),
		"{" + fullName + "=no}":             record(fullName, truth(0)),
		`{a=none,a0=no,aa=yes,b=0,c="d=e"}`: record("a,a0,aa,b,c", api.Datum{}, truth(0), truth(1), number(0), text("d=e")),
		sampleText:                          sample(),
	} {
		checkParse(t, s, want, 0, api.OK)
	}
}

func TestParseForm(t *testing.T) { // 16.2
	for s, at := range map[string]int{
		// No value begins here.
		"": 0, " ": 0, "]": 0, "}": 0, ",": 0, "=": 0, "+1": 0, ".5": 0, ":": 0, "N": 0, "\n1": 0, "\xff": 0, "é": 0, "'x'": 0, "<": 0, "&quot;": 0, "(": 0,
		// A run that is not what it must be.
		"n": 0, "non": 0, "nonee": 0, "yesno": 0, "noyes": 0, "nono": 0, "true": 0, "x": 0, "yesx": 0, "a=1": 0,
		"-": 0, "--": 0, "--1": 0, "-0": 0, "00": 0, "007": 0, "01": 0, "-01": 0, "1-": 0, "1-2": 0, "9223372036854775808": 0, "-9223372036854775809": 0, "18446744073709551616": 0, "1" + strings.Repeat("0", 100): 0,
		"[x]": 1, "[1,007]": 3, "[none,nonee,-]": 6, "{a=-0}": 3, "[yes,x": 5, "[1-,x]": 1,
		// A text.
		"\"": 1, "\"a": 2, "\"a<\"": 2, "\"a>\"": 2, "\"&\"": 1, "\"a&lt\"": 2, "\"&lt;&gt": 5, "\"&lt;&#65;\"": 5, "\"\n\"": 1, "\"a\x7f\"": 2, "\"&#010;\"": 1, "\"&apos;\"": 1, "\"a\"\"": 3, "\"a&<": 2, "[\"x\",\"y]": 8,
		// A list.
		"[": 1, "[,]": 1, "[,1]": 1, "[ ]": 1, "[}": 1, "[=": 1, "[1": 2, "[1}": 2, "[1 ]": 2, "[1 ,2]": 2, "[1=2]": 2, "[1,": 3, "[1,]": 3, "[1,,2]": 3, "[1, 2]": 3, "[1,}": 3, "[[]": 3, "[[]]]": 4, "[[1]": 4, "[none1]": 5, "[1x]": 2, "[\"x\"1]": 4, "[a=1]": 1, "[[],[}": 5,
		// A record.
		"{": 1, "{,": 1, "{ }": 1, "{]": 1, "{=1}": 1, "{A=1}": 1, "{1=1}": 1, "{-a=1}": 1, "{:=1}": 1, "{.a=1}": 1, "{0a=1}": 1, "{\"a\"=1}": 1, "{" + longName + "=1}": 1, "{" + longName: 1, "{\xff=1}": 1,
		"{a": 2, "{a}": 2, "{a,": 2, "{a1}": 3, "{a =1}": 2, "{aB=1}": 2, "{a_=1}": 2, "{a:1}": 4, "{a==1}": 3, "{a=": 3, "{a=}": 3, "{a=,": 3, "{a= 1}": 3, "{a=x}": 3, "{a=b=1}": 3,
		"{a=1": 4, "{a=1]": 4, "{a=1 }": 4, "{a=1=2}": 4, "{a=1,": 5, "{a=1,}": 5, "{a=1,,b=2}": 5, "{a=1, b=2}": 5, "{a=1,B=2}": 5, "{a=1,b": 6, "{a=1,b}": 6, "{a=1,b=": 7, "{a=1;b=2}": 4, "{a={}": 5, "{a=[1}": 5, "{a=1,1}": 5,
		// Something behind the value.
		"none ": 4, "none,": 4, "no1": 2, "no-": 2, "yes ": 3, "yesX": 3, "1 ": 1, "1x": 1, "1.5": 1, "1,2": 1, "\"\"\"": 2, "\"\"x": 2, "[]x": 2, "[],": 2, "{}{}": 2, "{}]": 2, "[]\n": 2, "none\x00": 4,
	} {
		checkBad(t, s, at, api.ErrForm)
	}
}

func TestParseDeep(t *testing.T) { // 16.2
	open := strings.Repeat("[", 16)
	closed := strings.Repeat("]", 16)
	checkParse(t, open+closed, nested(15, list()), 0, api.OK)
	checkParse(t, open+"1"+closed, nested(16, number(1)), 0, api.OK)
	for _, d := range []string{"[", "{", "[]", "{}", "[1]", "[x", "{1", "[&", strings.Repeat("[", 1<<16), strings.Repeat("{", 1<<24)} {
		checkBad(t, open+d, 16, api.ErrDeep)
		checkBad(t, open+d+closed, 16, api.ErrDeep)
		checkBad(t, open+"[[]", 16, api.ErrDeep)
		checkBad(t, open[1:]+"{a="+d, 18, api.ErrDeep)
		checkBad(t, open[1:]+"{aa=1,b="+d, 23, api.ErrDeep)
		checkBad(t, open+"1,"+d, 18, api.ErrDeep)
		// Only what is open counts.
		checkBad(t, open+closed[1:]+","+open[1:]+d, 47, api.ErrDeep)
	}
	// In records.
	checkParse(t, strings.Repeat("{a=", 15)+"{}"+strings.Repeat("}", 15), func() api.Datum {
		d := record("")
		for range 15 {
			d = record("a", d)
		}
		return d
	}(), 0, api.OK)
	checkBad(t, strings.Repeat("{a=", 16)+"{}"+strings.Repeat("}", 16), 48, api.ErrDeep)
	// Side by side they are not nested.
	wide := "[" + strings.Repeat("[],", 99) + "[]]"
	checkParse(t, wide, list(slices.Repeat([]api.Datum{list()}, 100)...), 0, api.OK)
	// The leftmost error counts.
	checkBad(t, "[x,"+open+"[", 1, api.ErrForm)
	checkBad(t, "[1"+open, 2, api.ErrForm)
	checkBad(t, open+"[x", 16, api.ErrDeep)
	checkBad(t, open+"x,[", 16, api.ErrForm)
	checkBad(t, "{b=1,a="+open, 7+15, api.ErrDeep)
	checkBad(t, `["`+longText+`",`+open, 2+len(longText)+2+15, api.ErrDeep)
}

func TestParseType(t *testing.T) { // 16.2
	for _, s := range []string{
		"{b=1,a=2}", "{a=1,a=1}", "{a=1,c=2,b=3}", "{aa=1,a=1}", "[{b=1,a=2}]", "{a={b=1,a=2}}", "{a:=1,a.=1}",
		`"` + longText + `"`, `["x","` + longText + `"]`, `{a="` + longText + `"}`, `"&lt;` + fullText + `"`,
	} {
		checkBad(t, s, 0, api.ErrType)
		// The other errors count ahead, wherever they are.
		checkBad(t, s+" ", len(s), api.ErrForm)
		checkBad(t, "["+s, 1+len(s), api.ErrForm)
		checkBad(t, "["+s+",x]", 1+len(s)+1, api.ErrForm)
		checkBad(t, "["+s+","+strings.Repeat("[", 16)+"]", 1+len(s)+1+15, api.ErrDeep)
	}
	// The text itself counts, not its escaped form.
	checkParse(t, `"`+strings.Repeat("&quot;", api.MaxText)+`"`, text(strings.Repeat("\"", api.MaxText)), 0, api.OK)
	checkBad(t, `"`+strings.Repeat("&quot;", api.MaxText+1)+`"`, 0, api.ErrType)
}

func TestParseMany(t *testing.T) { // 16.2, R1
	sevens := func(n int) string { return "[" + strings.Repeat("7,", n-1) + "7]" }
	checkParse(t, sevens(1998), many(1998), 0, api.OK)
	checkParse(t, sevens(1999), many(1999), 0, api.OK)
	for _, n := range []int{2000, 2001, 2002, 1 << 22} {
		s := sevens(n)
		checkBad(t, s, 0, api.ErrType)
		checkBad(t, s+",", len(s), api.ErrForm)
		checkBad(t, s[:len(s)-1], len(s)-1, api.ErrForm)
		checkBad(t, s[:len(s)-2]+"07]", len(s)-2, api.ErrForm)
		checkBad(t, s[:len(s)-2]+strings.Repeat("[", 16), len(s)-2+15, api.ErrDeep)
	}
	// All values count, not only those of one list.
	checkParse(t, "["+sevens(998)+","+sevens(999)+"]", list(many(998), many(999)), 0, api.OK)
	checkBad(t, "["+sevens(999)+","+sevens(999)+"]", 0, api.ErrType)
	checkParse(t, "{a="+sevens(1996)+",b=[1]}", record("a,b", many(1996), list(number(1))), 0, api.OK)
	checkBad(t, "{a="+sevens(1996)+",b=[1,1]}", 0, api.ErrType)
	checkBad(t, "{a="+sevens(1998)+",b=none}", 0, api.ErrType)
	checkBad(t, "[[],"+sevens(1998)+"]", 0, api.ErrType)
	checkBad(t, "["+sevens(1998)+",{}]", 0, api.ErrType)
	checkBad(t, "{a="+sevens(5000)+",b=[1,1],c={}}", 0, api.ErrType)
	// A record with that many names.
	fields, d := "", record("")
	for i := range 2000 {
		if i == 1999 {
			checkParse(t, "{"+fields[1:]+"}", d, 0, api.OK)
		}
		name := fmt.Sprintf("n%04d", i)
		fields += "," + name + "=" + strconv.Itoa(i)
		d.Names, d.List = append(d.Names, name), append(d.List, number(i))
	}
	checkBad(t, "{"+fields[1:]+"}", 0, api.ErrType)
	checkBad(t, "{"+fields[1:]+",A=1}", len(fields)+1, api.ErrForm)
}

func TestParseHuge(t *testing.T) { // R1
	huge := strings.Repeat("a", 1<<26)
	digits := strings.Repeat("1", 1<<26)
	checkBad(t, huge, 0, api.ErrForm)
	checkBad(t, digits, 0, api.ErrForm)
	checkBad(t, "-"+digits, 0, api.ErrForm)
	checkBad(t, "{"+huge+"=1}", 1, api.ErrForm)
	checkBad(t, `"`+huge+`"`, 0, api.ErrType)
	checkBad(t, `"`+huge, 1+len(huge), api.ErrForm)
}

func TestParseEveryString(t *testing.T) { // 16.2
	// Every string of a few pieces, also behind some beginnings.
	pieces := []string{"[", "]", "{", "}", ",", "=", `"`, "a", "b:", "no", "none", "1", "0", "-", "&amp;", "&", " "}
	var extend func(s string, left int)
	extend = func(s string, left int) {
		checkSlow(t, s)
		if left == 0 {
			return
		}
		for _, piece := range pieces {
			extend(s+piece, left-1)
		}
	}
	extend("", 4)
	extend("[1,", 4)
	extend("{a=1", 4)
	extend("{a=", 4)
	extend("{a=no,b", 4)
	extend(strings.Repeat("[", 15), 4)
}

func TestParseSpoilt(t *testing.T) { // 16.2
	// Whatever a single change makes of a text.
	for _, s := range []string{sampleText, `[{a=none,b=["&amp;",-12]},[[],{}],yes]`, `{b=1,a=2}`, strings.Repeat("[", 16) + strings.Repeat("]", 16)} {
		for at := range len(s) + 1 {
			checkSlow(t, s[:at])
			checkSlow(t, s[at:])
			for c := range 256 {
				insert := s[:at] + string([]byte{byte(c)}) + s[at:]
				checkSlow(t, insert)
				if at < len(s) {
					checkSlow(t, insert[:at+1]+s[at+1:])
				}
			}
			for end := at; end <= min(len(s), at+12); end++ {
				checkSlow(t, s[:at]+s[end:])
				checkSlow(t, s[:end]+s[at:])
			}
		}
	}
}

func TestInverse(t *testing.T) { // 16.4
	right, _ := pool()
	for _, d := range right {
		right = append(right, within(d)...)
	}
	for _, d := range append(right, sample(), nested(16, number(1)), many(1999)) {
		s, err := Print(d)
		if err != api.OK {
			t.Fatalf("Print(%s) = %v", short(d), err)
		}
		checkParse(t, s, d, 0, api.OK)
	}
	every := ""
	for c := range 256 {
		every += string([]byte{byte(c)})
	}
	for i := range len(every) {
		d := list(text(every[i:i+1]), text(every[i:]), text(every[:i]))
		s, _ := Print(d)
		checkParse(t, s, d, 0, api.OK)
	}
}

func TestReproduced(t *testing.T) { // 16.4
	pieces := []string{"[", "]", "{", "}", ",", "a=", "b=", `"x`, `"`, "no", "none", "1", "0", "-"}
	accepted := 0
	var extend func(s string, left int)
	extend = func(s string, left int) {
		if d, _, err := Parse(s); err == api.OK {
			accepted++
			checkPrint(t, d, s, api.OK)
		}
		if left == 0 {
			return
		}
		for _, piece := range pieces {
			extend(s+piece, left-1)
		}
	}
	extend("", 5)
	if accepted < 200 {
		t.Errorf("only %d strings were accepted", accepted)
	}
}

func TestZeroBesideErrors(t *testing.T) { // R2
	for _, s := range []string{"", "[1,2", "{b=1,a=2}", `"x`, sampleText + " ", "{a=[1],b=" + strings.Repeat("[", 16)} {
		if d, _, err := Parse(s); err == api.OK || !reflect.DeepEqual(d, api.Datum{}) {
			t.Errorf("Parse(%q) = %s, %v", s, short(d), err)
		}
	}
}

func TestMemoryOfResults(t *testing.T) { // R4
	first, _, _ := Parse(sampleText)
	second, _, _ := Parse(sampleText)
	spoil(first)
	if !same(second, sample()) {
		t.Errorf("the value is %s when others are changed", short(second))
	}
	// No two lists of one value share memory.
	d, _, _ := Parse("[" + strings.Repeat(sampleText+",", 20) + "[]]")
	seen := map[any]bool{}
	note := func(element any) {
		if seen[element] {
			t.Error("two lists share an element")
		}
		seen[element] = true
	}
	var collect func(d api.Datum)
	collect = func(d api.Datum) {
		for i := range d.Names[:cap(d.Names)] {
			note(&d.Names[:cap(d.Names)][i])
		}
		for i := range d.List[:cap(d.List)] {
			note(&d.List[:cap(d.List)][i])
			collect(d.List[:cap(d.List)][i])
		}
	}
	collect(d)
	if len(seen) < 20*(3+3+4+2) {
		t.Errorf("there are only %d elements", len(seen))
	}
}
