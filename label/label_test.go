package label

import (
	"fmt"
	"math"
	"slices"
	"strings"
	"testing"

	"tendril/api"
	"tendril/escape"
)

// The calls keep the signatures that the chapter lists.
var (
	_ func([]api.Node) []api.Label         = Of
	_ func([]api.Label, []api.Label) []int = Kept
	_ func(api.Label) string               = Text
	_ func(string) (api.Label, api.Errno)  = Read
)

var (
	fullText = strings.Repeat("v", api.MaxText)
	fullTag  = strings.Repeat("t", api.MaxTag)
)

// siblings makes nodes of tags and keys in turn.
func siblings(words ...string) []api.Node {
	var out []api.Node
	for i := 0; i+1 < len(words); i += 2 {
		out = append(out, api.Node{Tag: words[i], Key: words[i+1]})
	}
	return out
}

// counted makes a label without a key.
func counted(tag string, n int) api.Label {
	return api.Label{Tag: tag, N: n}
}

// keyed makes a label with a key.
func keyed(tag, key string) api.Label {
	return api.Label{Tag: tag, Key: key}
}

// over returns every list of at most n of the things.
func over[T any](l []T, n int) [][]T {
	out := [][]T{nil}
	from := 0
	for range n {
		to := len(out)
		for _, before := range out[from:to] {
			for _, x := range l {
				out = append(out, append(slices.Clone(before), x))
			}
		}
		from = to
	}
	return out
}

// short prints the beginning of anything.
func short(x any) string {
	return fmt.Sprintf("%.200s", fmt.Sprintf("%+v", x))
}

// checkOf compares the answer of Of.
func checkOf(t *testing.T, kids []api.Node, want ...api.Label) {
	t.Helper()
	if got := Of(kids); !slices.Equal(got, want) {
		t.Errorf("Of(%s) = %s; want %s", short(kids), short(got), short(want))
	}
}

func TestOf(t *testing.T) { // 12.1
	// The example of the chapter.
	checkOf(t, siblings("li", "", "li", "k", "p", "", "li", ""), counted("li", 1), keyed("li", "k"), counted("p", 1), counted("li", 2))
	checkOf(t, nil)
	checkOf(t, []api.Node{})
	checkOf(t, siblings("a", ""), counted("a", 1))
	checkOf(t, siblings("a", "k"), keyed("a", "k"))
	checkOf(t, siblings("a", "", "b", "", "a", "", "b", "", "a", ""),
		counted("a", 1), counted("b", 1), counted("a", 2), counted("b", 2), counted("a", 3))
	// Nodes with keys are not counted, neither before nor after.
	checkOf(t, siblings("a", "k", "a", "m", "a", "", "a", "n", "a", ""),
		keyed("a", "k"), keyed("a", "m"), counted("a", 1), keyed("a", "n"), counted("a", 2))
	// Only the tag and the key matter, and only of the siblings themselves.
	checkOf(t, []api.Node{
		{Tag: "a", Text: "x", Attrs: []api.Attr{{Name: "n"}}, Kids: siblings("a", "", "b", "")},
		{Tag: "b", Text: "y"},
		{Tag: "a"},
	}, counted("a", 1), counted("b", 1), counted("a", 2))
}

func TestOfAnyNodes(t *testing.T) { // 12.1
	checkOf(t, siblings("", "", "", "", "", "k"), counted("", 1), counted("", 2), keyed("", "k"))
	checkOf(t, siblings("a", "k", "a", "k", "b", "k"), keyed("a", "k"), keyed("a", "k"), keyed("b", "k"))
	checkOf(t, siblings("A\xff", "", "a#", "\x00", "A\xff", "", "A\xfe", ""), counted("A\xff", 1), keyed("a#", "\x00"), counted("A\xff", 2), counted("A\xfe", 1))
	long := fullText + fullText
	checkOf(t, siblings(long, "", "a", long, long, ""), counted(long, 1), keyed("a", long), counted(long, 2))
}

// slowOf is Of by the words of the chapter.
func slowOf(kids []api.Node) []api.Label {
	var out []api.Label
	for i, kid := range kids {
		x := api.Label{Tag: kid.Tag, Key: kid.Key}
		for _, other := range kids[:i+1] {
			if kid.Key == "" && other.Tag == kid.Tag && other.Key == "" {
				x.N++
			}
		}
		out = append(out, x)
	}
	return out
}

func TestOfEveryList(t *testing.T) { // 12.1
	for _, kids := range over(siblings("a", "", "a", "k", "b", "", "b", "k", "b", "a", "", ""), 5) {
		checkOf(t, kids, slowOf(kids)...)
	}
}

func TestOfMany(t *testing.T) { // 12.1, R1
	const n = 1 << 18
	kids := make([]api.Node, n)
	for i := range kids {
		kids[i].Tag = fmt.Sprint(i % 1000)
	}
	for i, x := range Of(kids) {
		if x != counted(fmt.Sprint(i%1000), i/1000+1) {
			t.Fatalf("label %d is %v", i, x)
		}
	}
}

// checkKept compares the answer of Kept.
func checkKept(t *testing.T, a, b []api.Label, want ...int) {
	t.Helper()
	if got := Kept(a, b); !slices.Equal(got, want) {
		t.Errorf("Kept(%s, %s) = %v; want %v", short(a), short(b), got, want)
	}
}

func TestKept(t *testing.T) { // 12.2
	a := []api.Label{counted("li", 1), keyed("li", "k"), counted("p", 1), counted("li", 2)}
	checkKept(t, a, a, 0, 1, 2, 3)
	checkKept(t, a, []api.Label{a[3], a[0], a[2]}, 3, 0, 2)
	checkKept(t, a, nil)
	checkKept(t, nil, nil)
	checkKept(t, []api.Label{}, []api.Label{})
	checkKept(t, nil, a, -1, -1, -1, -1)
	// A label of b several times.
	checkKept(t, a, []api.Label{a[1], a[1], a[1]}, 1, 1, 1)
	// A label of a several times: the first one counts.
	checkKept(t, []api.Label{a[0], a[1], a[0], a[1], a[2]}, []api.Label{a[2], a[1], a[0]}, 4, 1, 0)
	// Each field counts.
	checkKept(t, a, []api.Label{counted("li", 3), counted("li", 0), keyed("p", "k"), keyed("li", "K"), counted("p", 2), {}}, -1, -1, -1, -1, -1, -1)
	checkKept(t, []api.Label{{Tag: "a", Key: "k", N: 1}, {}, {N: -1}}, []api.Label{keyed("a", "k"), {Tag: "a", Key: "k", N: 1}, {N: -1}, {}, {N: 1}}, -1, 0, 2, 1, -1)
	checkKept(t, []api.Label{keyed("ab", "c")}, []api.Label{keyed("a", "bc"), keyed("ab", "c"), keyed("abc", "")}, -1, 0, -1)
}

func TestKeptEveryPair(t *testing.T) { // 12.2
	all := over([]api.Label{counted("a", 1), counted("a", 2), keyed("a", "k"), keyed("b", "k")}, 4)
	for _, a := range all {
		for _, b := range all {
			var want []int
			for _, x := range b {
				want = append(want, slices.Index(a, x))
			}
			if got := Kept(a, b); !slices.Equal(got, want) {
				t.Fatalf("Kept(%v, %v) = %v; want %v", a, b, got, want)
			}
		}
	}
}

func TestKeptMany(t *testing.T) { // 12.2, R1
	const n = 1 << 18
	a := make([]api.Label, n)
	for i := range a {
		a[i] = counted("a", i%(n/2))
	}
	b := slices.Clone(a)
	slices.Reverse(b)
	for i, at := range Kept(a, b) {
		if at != n/2-1-i%(n/2) {
			t.Fatalf("label %d of b is told to be at %d", i, at)
		}
	}
}

// checkText compares the answer of Text.
func checkText(t *testing.T, x api.Label, want string) {
	t.Helper()
	if got := Text(x); got != want {
		t.Errorf("Text(%s) = %.60q; want %.60q", short(x), got, want)
	}
}

func TestText(t *testing.T) { // 12.3
	checkText(t, counted("li", 1), "li:1")
	checkText(t, counted("li", 20), "li:20")
	checkText(t, keyed("li", "k"), "li#k")
	checkText(t, keyed("a", "<"), "a#&lt;")
	checkText(t, keyed("a", "&\"\n:#\x7f\xff 1"), "a#&amp;&quot;&#10;:#&#127;\xff 1")
	// Any labels have a text.
	checkText(t, api.Label{}, ":0")
	checkText(t, counted("a", 0), "a:0")
	checkText(t, counted("", -7), ":-7")
	checkText(t, counted("a", math.MinInt), "a:-9223372036854775808")
	checkText(t, counted("a", math.MaxInt), "a:9223372036854775807")
	checkText(t, api.Label{Tag: "a", Key: "k", N: 5}, "a#k")
	checkText(t, counted("<#:", 3), "<#::3")
	checkText(t, keyed("", "k"), "#k")
	checkText(t, keyed(fullText+"v", fullText+"w"), fullText+"v#"+fullText+"w")
}

// checkRead compares the answer of Read.
func checkRead(t *testing.T, s string, want api.Label, wantErr api.Errno) {
	t.Helper()
	if got, err := Read(s); got != want || err != wantErr {
		t.Errorf("Read(%.60q) = %s, %v; want %s, %v", s, short(got), err, short(want), wantErr)
	}
}

func TestRead(t *testing.T) { // 12.3
	for s, want := range map[string]api.Label{
		"li:1":                       counted("li", 1),
		"li:10":                      counted("li", 10),
		"a:9223372036854775807":      counted("a", math.MaxInt),
		"h1-:2":                      counted("h1-", 2),
		fullTag + ":1":               counted(fullTag, 1),
		"li#k":                       keyed("li", "k"),
		"li#1":                       keyed("li", "1"),
		"li#k:1":                     keyed("li", "k:1"),
		"li##":                       keyed("li", "#"),
		"li#:":                       keyed("li", ":"),
		"li# ":                       keyed("li", " "),
		"a#&lt;":                     keyed("a", "<"),
		"a#&#10;&amp;lt;\xff":        keyed("a", "\n&lt;\xff"),
		"a#" + fullText:              keyed("a", fullText),
		fullTag + "#" + fullText:     keyed(fullTag, fullText),
		"a#" + escaped(api.MaxText):  keyed("a", strings.Repeat("\"", api.MaxText)),
		"a#" + numbered(api.MaxText): keyed("a", strings.Repeat("\x7f", api.MaxText)),
	} {
		checkRead(t, s, want, api.OK)
	}
}

// escaped returns that many quotes, escaped.
func escaped(n int) string {
	return strings.Repeat("&quot;", n)
}

// numbered returns that many bytes 127, escaped.
func numbered(n int) string {
	return strings.Repeat("&#127;", n)
}

func TestReadRefuses(t *testing.T) { // 12.3
	for _, s := range []string{
		// No mark.
		"", "a", "li1", "a&#35;k", fullTag,
		// No tag.
		":1", "#k", ":", "#", "A:1", "1:1", "-a:1", "a b:1", " a:1", "a.b#k", "a\xff:1", "a\x00#k", "é:1", "a&amp;:1", fullTag + "t:1", fullTag + "t#k", fullText + ":1", fullText + "#k",
		// No number, or one that no sibling has.
		"a:", "a:0", "a:-1", "a:-0", "a:+1", "a:01", "a:00", "a: 1", "a:1 ", "a:1.", "a:x", "a:0x1", "a:1_0", "a:\xb2", "a::1", "a:1:1", "a:1#k", "a:#k", "a:k",
		"a:9223372036854775808", "a:-9223372036854775808", "a:18446744073709551617", "a:1" + strings.Repeat("0", 100), "a:" + strings.Repeat("0", 100) + "1", "a:" + fullText,
		// No key, or one that is not escaped.
		"a#", "a#<", "a#k<", "a#>", "a#\"", "a#&", "a#&lt", "a#&lt;&", "a#&LT;", "a#&#65;", "a#&#010;", "a#\n", "a#k\x00", "a#\x7f", "a#&amp", "a#&apos;",
		// A key that does not fit.
		"a#" + fullText + "v", "a#" + fullText + "&lt;", "a#" + escaped(api.MaxText) + "v", "a#" + escaped(api.MaxText+1), "a#" + numbered(api.MaxText+1),
	} {
		checkRead(t, s, api.Label{}, api.ErrForm)
	}
}

func TestReadHuge(t *testing.T) { // R1
	huge := strings.Repeat("a", 1<<26)
	for _, s := range []string{huge, huge + ":1", "a#" + huge, "a:" + huge, "a#" + strings.Repeat("&lt;", 1<<24)} {
		checkRead(t, s, api.Label{}, api.ErrForm)
	}
}

// isOfSibling reports whether a label is one that Read may return.
func isOfSibling(x api.Label) bool {
	isTag := x.Tag != "" && len(x.Tag) <= 32 && x.Tag[0] >= 'a' && x.Tag[0] <= 'z' &&
		strings.Trim(x.Tag, "abcdefghijklmnopqrstuvwxyz0123456789-") == ""
	return isTag && (x.Key != "" && len(x.Key) <= 65536 && x.N == 0 || x.Key == "" && x.N >= 1)
}

func TestReadEveryText(t *testing.T) { // 12.3
	// All strings over a few bytes; the labels are sought among all labels whose text might be one of them.
	const bytes = "a1-0#:k&;\n"
	byText := map[string]api.Label{}
	for _, tag := range words(bytes, 4) {
		if !isOfSibling(counted(tag, 1)) {
			continue
		}
		for _, key := range words(bytes, 3) {
			if x := keyed(tag, key); len(tag)+len(key) <= 4 && isOfSibling(x) {
				byText[tag+"#"+escape.Escape(key)] = x
			}
		}
		for n := -9; n <= 1111; n++ {
			if x := counted(tag, n); isOfSibling(x) {
				byText[fmt.Sprintf("%s:%d", tag, n)] = x
			}
		}
	}
	for _, s := range words(bytes, 5) {
		want, there := byText[s]
		err := api.OK
		if !there {
			err = api.ErrForm
		}
		checkRead(t, s, want, err)
	}
}

// words returns every string of at most n of the bytes.
func words(bytes string, n int) []string {
	var out []string
	for _, l := range over([]byte(bytes), n) {
		out = append(out, string(l))
	}
	return out
}

func TestReadAfterText(t *testing.T) { // 12.3, R2
	for _, tag := range []string{"a", "h1", fullTag, "", "A", "a#", "a:1", "a#k", fullTag + "t"} {
		for _, key := range []string{"", "k", "1", "<>\"&\x00\x1f\x7f\xff", "#", ":1", fullText, fullText + "v"} {
			for _, n := range []int{0, 1, 2, 99, -1, math.MaxInt, math.MinInt} {
				x := api.Label{Tag: tag, Key: key, N: n}
				got, err := Read(Text(x))
				if isOfSibling(x) {
					if got != x || err != api.OK {
						t.Errorf("Read of the text of %s is %s, %v", short(x), short(got), err)
					}
				} else if err == api.OK && (!isOfSibling(got) || Text(got) != Text(x)) {
					t.Errorf("Read of %.40q is %s", Text(x), short(got))
				} else if err != api.OK && (err != api.ErrForm || got != api.Label{}) {
					t.Errorf("Read of %.40q is %s, %v", Text(x), short(got), err)
				}
			}
		}
	}
}

// canBeSiblings reports whether nodes may stand side by side in a valid tree.
func canBeSiblings(kids []api.Node) bool {
	for i, kid := range kids {
		for _, other := range kids[:i] {
			if kid.Key != "" && kid.Key == other.Key {
				return false
			}
		}
	}
	return true
}

func TestLabelsOfValidSiblings(t *testing.T) { // 12.4
	pool := siblings("a", "", "b", "", "a", "k", "b", "k", "b", "1", "a", "<\n")
	for _, kids := range over(pool, 5) {
		if !canBeSiblings(kids) {
			continue
		}
		l := Of(kids)
		for i, x := range l {
			if slices.Contains(l[:i], x) {
				t.Fatalf("two labels of %v are %v", kids, x)
			}
			checkRead(t, Text(x), x, api.OK)
		}
		for i, at := range Kept(l, l) {
			if at != i {
				t.Fatalf("Kept of %v with itself has %d at %d", l, at, i)
			}
		}
	}
}

func TestMemory(t *testing.T) { // R4
	kids := append(siblings("a", "", "a", "k", "b", ""), siblings("spare", "room")...)
	was := fmt.Sprint(kids)
	first, second := Of(kids[:3]), Of(kids[:3])
	for i := range first[:cap(first)] {
		first[:cap(first)][i] = keyed("mine", "mine")
	}
	if fmt.Sprint(kids) != was {
		t.Errorf("the nodes were %s and are %v", was, kids)
	}
	clear(kids)
	want := []api.Label{counted("a", 1), keyed("a", "k"), counted("b", 1)}
	if !slices.Equal(second, want) {
		t.Errorf("the labels are %v when others are changed", second)
	}
	a := append(slices.Clone(want), keyed("spare", "room"))
	b := append(slices.Clone(want), keyed("spare", "room"))
	one, two := Kept(a[:3], b[:3]), Kept(a[:3], b[:3])
	if !slices.Equal(a, b) || a[3] != keyed("spare", "room") || !slices.Equal(a[:3], want) {
		t.Errorf("the labels are %v and %v after Kept", a, b)
	}
	for i := range one[:cap(one)] {
		one[:cap(one)][i] = 77
	}
	if !slices.Equal(two, []int{0, 1, 2}) {
		t.Errorf("the indices are %v when others are changed", two)
	}
}
