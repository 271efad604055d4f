package markup

import (
	"fmt"
	"reflect"
	"regexp"
	"slices"
	"strings"
	"testing"

	"tendril/api"
	"tendril/vtree"
)

// The calls keep the signatures that the chapter lists.
var (
	_ func(api.Node) (string, api.Errno)      = Print
	_ func(string) (api.Node, int, api.Errno) = Parse
)

var (
	fullText = strings.Repeat("v", api.MaxText)
	longText = fullText + "v"
	fullTag  = strings.Repeat("t", api.MaxTag)
	longTag  = fullTag + "t"
)

// node makes a node without a key.
func node(tag string, kids ...api.Node) api.Node {
	return api.Node{Tag: tag, Kids: kids}
}

// keyed makes a node with a key.
func keyed(tag, key string, kids ...api.Node) api.Node {
	return api.Node{Tag: tag, Key: key, Kids: kids}
}

// text makes a node with a text.
func text(tag, text string, kids ...api.Node) api.Node {
	return api.Node{Tag: tag, Text: text, Kids: kids}
}

// attrs makes a node with attributes, whose names and values are given in turn.
func attrs(tag string, words ...string) api.Node {
	n := node(tag)
	for i := 0; i+1 < len(words); i += 2 {
		n.Attrs = append(n.Attrs, api.Attr{Name: words[i], Value: words[i+1]})
	}
	return n
}

// chain makes a tree of that depth in which each node has one child.
func chain(depth int) api.Node {
	n := node("a")
	for range depth - 1 {
		n = node("a", n)
	}
	return n
}

// wide makes a node with that many children.
func wide(kids int) api.Node {
	return node("p", slices.Repeat([]api.Node{node("b")}, kids)...)
}

// sample is a tree with something in each field.
func sample() api.Node {
	return api.Node{Tag: "p", Key: "k", Text: "x", Attrs: []api.Attr{{Name: "a", Value: "1"}, {Name: "b", Value: "<2>"}}, Kids: []api.Node{
		{Tag: "li", Key: "m&", Text: "y\n", Attrs: []api.Attr{{Name: "c:d", Value: ""}}},
		{Tag: "ul", Kids: []api.Node{{Tag: "li", Key: "m"}, {Tag: "h1-", Text: "\"z\""}}},
	}}
}

const sampleMarkup = `<p #="k" a="1" b="&lt;2&gt;">x<li #="m&amp;" c:d="">y&#10;</li><ul><li #="m"/><h1->&quot;z&quot;</h1-></ul></p>`

// forests returns every list of trees with exactly n nodes in all, each of them one of the pool.
func forests(pool []api.Node, n int) [][]api.Node {
	if n == 0 {
		return [][]api.Node{nil}
	}
	var out [][]api.Node
	for first := 1; first <= n; first++ {
		rests := forests(pool, n-first)
		for _, tree := range trees(pool, first) {
			for _, rest := range rests {
				out = append(out, append([]api.Node{tree}, rest...))
			}
		}
	}
	return out
}

// trees returns every tree with exactly n nodes, each of them one of the pool.
func trees(pool []api.Node, n int) []api.Node {
	var out []api.Node
	for _, kids := range forests(pool, n-1) {
		for _, root := range pool {
			root.Kids = kids
			out = append(out, root)
		}
	}
	return out
}

// smallTrees are all trees of at most four nodes of a pool; some have a tree's error, none one of syntax.
func smallTrees() []api.Node {
	pool := []api.Node{
		node("a"), keyed("a", "k"), keyed("b", "k"), keyed("b", "<\""), text("a", "x"), node("a.b"), attrs("a", "n", ""),
		{Tag: "b", Key: "m", Text: "&\x7f", Attrs: attrs("", "a", ">", "b:c", "\n").Attrs}, attrs("b", "b", "1", "a", "2"),
	}
	var out []api.Node
	for n := range 4 {
		out = append(out, trees(pool, n+1)...)
	}
	return out
}

// short prints the outer part of a tree, without its long strings.
func short(n api.Node) string {
	return outer(n, 4)
}

func outer(n api.Node, levels int) string {
	out := fmt.Sprintf("%.20q %.20q %.20q %.20q", n.Tag, n.Key, n.Text, n.Attrs[:min(len(n.Attrs), 4)])
	if len(n.Kids) > 4 || levels == 0 {
		return fmt.Sprintf("%s over %d", out, len(n.Kids))
	}
	for _, kid := range n.Kids {
		out += " (" + outer(kid, levels-1) + ")"
	}
	return out
}

// slowEscape escapes by the words of the chapter on escaping.
func slowEscape(s string) string {
	var out strings.Builder
	for i := range len(s) {
		switch c := s[i]; {
		case c == '&':
			out.WriteString("&amp;")
		case c == '<':
			out.WriteString("&lt;")
		case c == '>':
			out.WriteString("&gt;")
		case c == '"':
			out.WriteString("&quot;")
		case c < 32 || c == 127:
			out.WriteString(fmt.Sprintf("&#%d;", c))
		default:
			out.WriteString(s[i : i+1])
		}
	}
	return out.String()
}

// slowMarkup is the markup of any node by the words of the chapter.
func slowMarkup(n api.Node) string {
	out := "<" + n.Tag
	if n.Key != "" {
		out += ` #="` + slowEscape(n.Key) + `"`
	}
	for _, a := range n.Attrs {
		out += " " + a.Name + `="` + slowEscape(a.Value) + `"`
	}
	if n.Text == "" && len(n.Kids) == 0 {
		return out + "/>"
	}
	out += ">" + slowEscape(n.Text)
	for _, kid := range n.Kids {
		out += slowMarkup(kid)
	}
	return out + "</" + n.Tag + ">"
}

// checkPrint compares the answer of Print.
func checkPrint(t *testing.T, n api.Node, want string, wantErr api.Errno) {
	t.Helper()
	if got, err := Print(n); got != want || err != wantErr {
		t.Errorf("Print(%s) = %.300q, %v; want %.300q, %v", short(n), got, err, want, wantErr)
	}
}

func TestPrint(t *testing.T) { // 15.1
	checkPrint(t, api.Node{Tag: "p", Key: "k", Text: "x", Attrs: attrs("", "a", "1").Attrs, Kids: []api.Node{node("b")}}, `<p #="k" a="1">x<b/></p>`, api.OK)
	checkPrint(t, node("a"), `<a/>`, api.OK)
	checkPrint(t, api.Node{Tag: "a", Attrs: []api.Attr{}, Kids: []api.Node{}}, `<a/>`, api.OK)
	checkPrint(t, node("h1-"), `<h1-/>`, api.OK)
	checkPrint(t, keyed("a", "k"), `<a #="k"/>`, api.OK)
	checkPrint(t, attrs("a", "x:y.z-1", "", "z", " "), `<a x:y.z-1="" z=" "/>`, api.OK)
	checkPrint(t, text("a", "x"), `<a>x</a>`, api.OK)
	checkPrint(t, text("a", " "), `<a> </a>`, api.OK)
	checkPrint(t, node("a", node("b")), `<a><b/></a>`, api.OK)
	checkPrint(t, node("a", node("b", node("c")), text("d", "x", node("e")), node("f")), `<a><b><c/></b><d>x<e/></d><f/></a>`, api.OK)
	all := "\x00\t\n\x1f !#';/=&<>\"&amp;\x7f\x80\xff"
	escaped := "&#0;&#9;&#10;&#31; !#';/=&amp;&lt;&gt;&quot;&amp;amp;&#127;\x80\xff"
	checkPrint(t, api.Node{Tag: "a", Key: all, Text: all, Attrs: attrs("", "n", all).Attrs}, `<a #="`+escaped+`" n="`+escaped+`">`+escaped+`</a>`, api.OK)
	checkPrint(t, sample(), sampleMarkup, api.OK)
	checkPrint(t, api.Node{Tag: fullTag, Key: fullText, Text: fullText}, "<"+fullTag+` #="`+fullText+`">`+fullText+"</"+fullTag+">", api.OK)
	checkPrint(t, chain(64), strings.Repeat("<a>", 63)+"<a/>"+strings.Repeat("</a>", 63), api.OK)
	checkPrint(t, wide(4095), "<p>"+strings.Repeat("<b/>", 4095)+"</p>", api.OK)
}

func TestPrintRefuses(t *testing.T) { // 15.1
	for _, c := range []struct {
		n   api.Node
		err api.Errno
	}{
		{api.Node{}, api.ErrTag},
		{node("a:b"), api.ErrTag},
		{node(longTag), api.ErrTag},
		{keyed("a", longText), api.ErrLong},
		{text("a", longText), api.ErrLong},
		{attrs("a", "#", ""), api.ErrName},
		{attrs("a", "n", longText), api.ErrLong},
		{attrs("a", "n", "", "n", ""), api.ErrTwice},
		{attrs("a", "n", "", "m", ""), api.ErrOrder},
		{node("a", keyed("b", "k"), keyed("a", "k")), api.ErrTwice},
		{node("a", node("b"), node("A")), api.ErrTag},
		{chain(65), api.ErrDeep},
		{chain(1 << 16), api.ErrDeep},
		{wide(4096), api.ErrMany},
		{wide(1 << 20), api.ErrMany},
		{node("a", node("A"), keyed("a", longText)), api.ErrTag},
	} {
		checkPrint(t, c.n, "", c.err)
	}
	// A tree without an end.
	ring := make([]api.Node, 2)
	for i := range ring {
		ring[i] = node("a", ring...)
	}
	checkPrint(t, ring[0], "", api.ErrDeep)
}

func TestPrintEveryTree(t *testing.T) { // 15.1
	for _, n := range smallTrees() {
		if _, err := vtree.Check(n); err != api.OK {
			checkPrint(t, n, "", err)
		} else {
			checkPrint(t, n, slowMarkup(n), api.OK)
		}
	}
}

var (
	slowWord    = regexp.MustCompile(`^[a-z][a-z0-9:.-]*`)
	slowSpan    = regexp.MustCompile(`^[^<>"]*`)
	slowEscaped = regexp.MustCompile(`^(?:[^&<>"\x00-\x1f\x7f]|&amp;|&lt;|&gt;|&quot;|&#(?:[0-9]|[12][0-9]|3[01]|127);)*`)
	slowForms   = strings.NewReplacer(append([]string{"&amp;", "&", "&lt;", "<", "&gt;", ">", "&quot;", "\"", "&#127;", "\x7f"}, controls()...)...)
)

// controls lists the forms of the bytes below 32, each with its byte.
func controls() []string {
	var out []string
	for c := range 32 {
		out = append(out, fmt.Sprintf("&#%d;", c), string(rune(c)))
	}
	return out
}

// slowString reads an escaped string at an index: it returns what it stands for and the index behind it, or
// false and the index of the error.
func slowString(s string, at int) (string, int, bool) {
	span := slowSpan.FindString(s[at:])
	right := slowEscaped.FindString(span)
	if len(right) < len(span) {
		return "", at + len(right), false
	}
	return slowForms.Replace(span), at + len(span), true
}

// slowNode reads a node at an index by the words of the chapter: it returns the index behind it, or false
// and the index of the error.
func slowNode(s string, at int) (n api.Node, end int, ok bool) {
	begins := func(piece string) bool { return strings.HasPrefix(s[at:], piece) }
	atKid := func() bool { return begins("<") && !begins("</") }
	if !begins("<") {
		return n, at, false
	}
	at++
	if n.Tag = slowWord.FindString(s[at:]); n.Tag == "" {
		return n, at, false
	}
	at += len(n.Tag)
	if begins(` #="`) {
		at += 4
		if n.Key, end, ok = slowString(s, at); !ok || n.Key == "" {
			return n, end, false
		}
		if at = end; !begins(`"`) {
			return n, at, false
		}
		at++
	}
	for begins(" ") {
		at++
		a := api.Attr{Name: slowWord.FindString(s[at:])}
		if a.Name == "" {
			return n, at, false
		}
		if at += len(a.Name); !begins(`="`) {
			return n, at, false
		}
		if a.Value, end, ok = slowString(s, at+2); !ok {
			return n, end, false
		}
		if at = end; !begins(`"`) {
			return n, at, false
		}
		at++
		n.Attrs = append(n.Attrs, a)
	}
	if begins("/>") {
		return n, at + 2, true
	}
	if !begins(">") {
		return n, at, false
	}
	if n.Text, end, ok = slowString(s, at+1); !ok {
		return n, end, false
	}
	if at = end; n.Text == "" && !atKid() {
		return n, at, false
	}
	for atKid() {
		kid, behind, ok := slowNode(s, at)
		if at = behind; !ok {
			return n, at, false
		}
		n.Kids = append(n.Kids, kid)
	}
	for _, piece := range []string{"</", n.Tag, ">"} {
		if !begins(piece) {
			return n, at, false
		}
		at += len(piece)
	}
	return n, at, true
}

// slowParse is Parse by the words of the chapter.
func slowParse(s string) (api.Node, int, api.Errno) {
	n, at, ok := slowNode(s, 0)
	if !ok || at < len(s) {
		return api.Node{}, at, api.ErrForm
	}
	if at, err := vtree.Check(n); err != api.OK {
		return api.Node{}, at, err
	}
	return n, 0, api.OK
}

// same compares trees, whether or not they are valid.
func same(a, b api.Node) bool {
	return a.Tag == b.Tag && a.Key == b.Key && a.Text == b.Text &&
		slices.Equal(a.Attrs, b.Attrs) && slices.EqualFunc(a.Kids, b.Kids, same)
}

// checkParse compares the answer of Parse.
func checkParse(t *testing.T, s string, want api.Node, wantAt int, wantErr api.Errno) {
	t.Helper()
	n, at, err := Parse(s)
	if !same(n, want) || at != wantAt || err != wantErr {
		t.Errorf("Parse(%.100q) = %s, %d, %v; want %s, %d, %v", s, short(n), at, err, short(want), wantAt, wantErr)
	}
}

// checkBad compares the answer of Parse for what is no markup of a valid tree.
func checkBad(t *testing.T, s string, wantAt int, wantErr api.Errno) {
	t.Helper()
	checkParse(t, s, api.Node{}, wantAt, wantErr)
}

// checkSlow compares the answers of Parse and slowParse.
func checkSlow(t *testing.T, s string) {
	t.Helper()
	want, wantAt, wantErr := slowParse(s)
	checkParse(t, s, want, wantAt, wantErr)
}

func TestParse(t *testing.T) { // 15.2
	for s, want := range map[string]api.Node{
		`<p #="k" a="1">x<b/></p>`:           {Tag: "p", Key: "k", Text: "x", Attrs: attrs("", "a", "1").Attrs, Kids: []api.Node{node("b")}},
		`<a/>`:                               node("a"),
		`<h1-/>`:                             node("h1-"),
		`<a #="k"/>`:                         keyed("a", "k"),
		`<a #="#=' /"/>`:                     keyed("a", "#=' /"),
		`<a n=""/>`:                          attrs("a", "n", ""),
		`<a n="=" o="#"/>`:                   attrs("a", "n", "=", "o", "#"),
		`<a x:y.z-1="&#0;"/>`:                attrs("a", "x:y.z-1", "\x00"),
		`<a>x</a>`:                           text("a", "x"),
		`<a> /=#' </a>`:                      text("a", " /=#' "),
		"<a>&amp;lt;\xff</a>":                text("a", "&lt;\xff"),
		`<a><b/></a>`:                        node("a", node("b")),
		`<a><a><a/></a><a>x</a></a>`:         node("a", node("a", node("a")), text("a", "x")),
		`<a>&lt;b/&gt;<b/><c>&#127;</c></a>`: text("a", "<b/>", node("b"), text("c", "\x7f")),
		sampleMarkup:                         sample(),
		"<" + fullTag + ">" + fullText + "</" + fullTag + ">": text(fullTag, fullText),
		`<a #="` + fullText + `" n="` + fullText + `"/>`:      {Tag: "a", Key: fullText, Attrs: attrs("", "n", fullText).Attrs},
	} {
		checkParse(t, s, want, 0, api.OK)
	}
}

func TestParseForm(t *testing.T) { // 15.2
	for s, at := range map[string]int{
		// No piece begins here.
		"": 0, "x": 0, " <a/>": 0, ">": 0, "\n<a/>": 0, "/": 0,
		"<": 1, "</a>": 1, "<A/>": 1, "<1/>": 1, "<-/>": 1, "<:a/>": 1, "< a/>": 1, "</": 1, "<\xff": 1, "<é/>": 1, "<#": 1,
		"<a": 2, "<aB/>": 2, "<a_/>": 2, "<a\xff/>": 2, "<a\t/>": 2, "<a\n/>": 2, "<a/": 2, "<a/ >": 2, "<a//>": 2, "<a=": 2, `<a"/>`: 2, `<a#="k"/>`: 2, "<a<b/>": 2, "<a&gt;": 2,
		// A key.
		`<a #="/>`: 7, `<a #=""/>`: 6, `<a #="`: 6, `<a #="<"/>`: 6, `<a #=">`: 6, `<a #="k`: 7, `<a #="k>`: 7, `<a #="k<"/>`: 7, `<a #="k"`: 8, `<a #="k"x/>`: 8, `<a #="k"a="b"/>`: 8,
		`<a #="&"/>`: 6, `<a #="k&lt"/>`: 7, `<a #="&lt;&#10/>`: 10, "<a #=\"\n\"/>": 6, "<a #=\"&\n": 6,
		// No key: these would have to be attributes.
		`<a #`: 3, `<a #k="1"/>`: 3, `<a #='k'/>`: 3, `<a # ="k"/>`: 3, `<a #=k/>`: 3, `<a #/>`: 3, `<a  #="k"/>`: 3, `<a #="k" #="k"/>`: 9, `<a n="" #="k"/>`: 8,
		// An attribute.
		`<a `: 3, `<a />`: 3, `<a >x</a>`: 3, `<a  n=""/>`: 3, `<a N=""/>`: 3, `<a 1=""/>`: 3, `<a ="1"/>`: 3, `<a :n=""/>`: 3, `<a n="" />`: 8, `<a n=""  o=""/>`: 8,
		`<a n`: 4, `<a n/>`: 4, `<a n>`: 4, `<a n=/>`: 4, `<a n=1/>`: 4, `<a n='1'/>`: 4, `<a n= "1"/>`: 4, `<a n ="1"/>`: 4, `<a n"1"/>`: 4, `<a nO="1"/>`: 4, `<a n=`: 4,
		`<a n="`: 6, `<a n="<"/>`: 6, `<a n=">"/>`: 6, `<a n="x>`: 7, `<a n="x`: 7, `<a n="&"/>`: 6, `<a n="x&quot"/>`: 7, "<a n=\"x\x7f\"/>": 7, `<a n="&<`: 6,
		`<a n="x"`: 8, `<a n="x"o="y"/>`: 8, `<a n="x"/`: 8, `<a n="x""/>`: 8,
		// A text.
		"<a>": 3, "<a></a>": 3, "<a></b>": 3, "<a></": 3, "<a>>": 3, "<a>\"</a>": 3, `<a #="k"></a>`: 9, "<a><b></b></a>": 6,
		"<a>&x</a>": 3, "<a>x&</a>": 4, "<a>x\n</a>": 4, "<a>x&#65;</a>": 4, "<a>x&#010;</a>": 4, "<a>&lt</a>": 3, "<a>&LT;</a>": 3, "<a>x&apos;</a>": 4, "<a>&<": 3,
		"<a>x>": 4, "<a>x\"</a>": 4, "<a>x": 4, "<a>&lt;": 7, "<a>xy\"z</a>": 5,
		// Children.
		"<a><": 4, "<a>x<": 5, "<a><A/></a>": 4, "<a>< /a>": 4, "<a><b>": 6, "<a><b</a>": 5, "<a><b/>": 7, "<a><b/>x</a>": 7, "<a><b/> <b/></a>": 7, "<a><b/>>": 7, "<a><b/><": 8, "<a><b/>&": 7, "<a>x<b/>y</a>": 8,
		"<a><b>x</b>y</a>": 11, "<a><b>x</a></b>": 9,
		// An end.
		"<a>x</": 6, "<a>x</b>": 6, "<a>x</A>": 6, "<a>x</ a>": 6, "<a>x</>": 6, "<a>x<//a>": 6, "<a>x</a": 7, "<a>x</a >": 7, "<a>x</a/>": 7, "<a>x</ab>": 7, "<a>x</a<": 7,
		"<ab>x</a>": 7, "<ab>x</ac>": 7, "<ab>x</b>": 7, "<a><b/></b>": 9, "<a><b/></a": 10, "<a><b>x</b></b>": 13,
		// Something behind the tree.
		"<a/>x": 4, "<a/> ": 4, "<a/>\n": 4, "<a/><a/>": 4, "<a/></a>": 4, "<a/>>": 4, "<a>x</a>x": 8, "<a>x</a><": 8, "<a>x</a></a>": 8,
	} {
		checkBad(t, s, at, api.ErrForm)
	}
}

func TestParseErrors(t *testing.T) { // 15.2
	for _, c := range []struct {
		s   string
		at  int
		err api.Errno
	}{
		{`<a><b b="" a=""/></a>`, 1, api.ErrOrder},
		{`<a b="" b=""/>`, 0, api.ErrTwice},
		{`<a:b/>`, 0, api.ErrTag},
		{`<a.b>x</a.b>`, 0, api.ErrTag},
		{`<` + longTag + `/>`, 0, api.ErrTag},
		{`<a ` + longTag + `=""/>`, 0, api.ErrName},
		{`<a #="` + longText + `"/>`, 0, api.ErrLong},
		{`<a n="` + longText + `"/>`, 0, api.ErrLong},
		{`<a>` + longText + `</a>`, 0, api.ErrLong},
		{`<a><b #="k"/><c #="k"/></a>`, 2, api.ErrTwice},
		{`<a><b><c/></b><d><e/><f.g/></d></a>`, 5, api.ErrTag},
		// The first node with an error counts, and its first error.
		{`<a><b:c/><d n="" n=""/></a>`, 1, api.ErrTag},
		{`<a><b><c:d/></b><e:f/></a>`, 2, api.ErrTag},
		{`<a:b n="" n=""/>`, 0, api.ErrTag},
		// A syntax error counts ahead, wherever it is.
		{`<a:b>x</a:b`, 11, api.ErrForm},
		{`<a:b/> `, 6, api.ErrForm},
		{`<a b="" b=""><c></c></a>`, 16, api.ErrForm},
		{`<a><b #="k"/><c #="k"/></a`, 26, api.ErrForm},
		{`<a>` + longText + `</b>`, 3 + len(longText) + 2, api.ErrForm},
	} {
		checkBad(t, c.s, c.at, c.err)
	}
}

func TestParseEveryString(t *testing.T) { // 15.2
	// Every string of a few pieces, also behind some beginnings.
	pieces := []string{"<a", "<", "/>", "</a>", "</", ">", ` #="`, " b", `="`, `"`, "x", "&lt;", "&", "\n"}
	var extend func(s string, left int)
	extend = func(s string, left int) {
		checkSlow(t, s)
		if left == 0 {
			return
		}
		for _, piece := range pieces {
			extend(s+piece, left-1)
		}
	}
	extend("", 5)
	extend("<a>", 4)
	extend(`<a #="`, 4)
	extend(`<a b="`, 4)
	extend("<a>x</a", 3)
	extend("<a><b/>", 4)
}

func TestParseSpoilt(t *testing.T) { // 15.2
	// Whatever a single change makes of markup.
	for _, s := range []string{sampleMarkup, `<a:b b="" a="&amp;"/>`, `<a><b #="k">&#1;</b><c #="k"/>` + "<b>\xff</b></a>"} {
		for at := range len(s) + 1 {
			checkSlow(t, s[:at])
			checkSlow(t, s[at:])
			for c := range 256 {
				insert := s[:at] + string([]byte{byte(c)}) + s[at:]
				checkSlow(t, insert)
				if at < len(s) {
					checkSlow(t, insert[:at+1]+s[at+1:])
				}
			}
			for end := at; end <= min(len(s), at+12); end++ {
				checkSlow(t, s[:at]+s[end:])
				checkSlow(t, s[:end]+s[at:])
			}
		}
	}
}

func TestParseEveryTree(t *testing.T) { // 15.2
	for _, n := range smallTrees() {
		at, err := vtree.Check(n)
		if err != api.OK {
			checkBad(t, slowMarkup(n), at, err)
		} else {
			checkParse(t, slowMarkup(n), n, 0, api.OK)
		}
		checkBad(t, slowMarkup(n)+" ", len(slowMarkup(n)), api.ErrForm)
	}
}

// nested returns the markup of a chain of that depth.
func nested(depth int) string {
	return strings.Repeat("<a>", depth-1) + "<a/>" + strings.Repeat("</a>", depth-1)
}

func TestParseLarge(t *testing.T) { // 15.2, R1
	checkParse(t, nested(64), chain(64), 0, api.OK)
	for _, depth := range []int{65, 66, 5000, 1 << 16, 1 << 20} {
		s := nested(depth)
		checkBad(t, s, 64, api.ErrDeep)
		checkBad(t, s+"x", len(s), api.ErrForm)
		checkBad(t, s[:len(s)-2], len(s)-2, api.ErrForm)
		checkBad(t, s[:3*depth], 3*depth-1, api.ErrForm)
		checkBad(t, strings.Replace(s, "<a>", "<a b>", 1), 4, api.ErrForm)
	}
	kids := func(n int) string { return "<p>" + strings.Repeat("<b/>", n) + "</p>" }
	checkParse(t, kids(4095), wide(4095), 0, api.OK)
	for _, n := range []int{4096, 4097, 4098, 1 << 20} {
		s := kids(n)
		checkBad(t, s, 4096, api.ErrMany)
		checkBad(t, s+s, len(s), api.ErrForm)
		checkBad(t, s[:len(s)-4], len(s)-4, api.ErrForm)
		// What precedes the limit counts ahead, what follows does not count.
		at := 3 + 4*4094
		checkBad(t, s[:at]+"<b:c/>"+s[at+4:], 4095, api.ErrTag)
		checkBad(t, s[:at+4]+"<b:c/>"+s[at+8:], 4096, api.ErrMany)
		checkBad(t, s[:at+4]+"<b b/>"+s[at+8:], at+4+4, api.ErrForm)
	}
	// All nodes count, not only those of one parent.
	checkParse(t, "<p>"+kids(2047)+kids(2046)+"</p>", node("p", wide(2047), wide(2046)), 0, api.OK)
	checkBad(t, "<p>"+kids(2047)+kids(2047)+"</p>", 4096, api.ErrMany)
	checkBad(t, "<p>"+kids(2047)+kids(2045)+nested(63)+"</p>", 4096, api.ErrMany)
	checkBad(t, "<p>"+kids(4096)+nested(100)+"<p></p></p>", 3+len(kids(4096)+nested(100))+3, api.ErrForm)
}

func TestParseManyAttrs(t *testing.T) { // 15.2, R1
	list := func(n int) string {
		out := strings.Builder{}
		for i := range n {
			fmt.Fprintf(&out, ` n%07d="%d"`, i, i)
		}
		return out.String()
	}
	n, at, err := Parse("<a" + list(64) + "/>")
	if len(n.Attrs) != 64 || n.Attrs[63] != (api.Attr{Name: "n0000063", Value: "63"}) || at != 0 || err != api.OK {
		t.Errorf("64 attributes: %s, %d, %v", short(n), at, err)
	}
	for _, n := range []int{65, 66, 1 << 18} {
		s := "<p><a" + list(n)
		checkBad(t, s+"/></p>", 1, api.ErrMany)
		checkBad(t, s+"></a></p>", len(s)+1, api.ErrForm)
		checkBad(t, "<p><a m=\"\""+list(n)+" n=\"\"/></p>", 1, api.ErrMany)
		checkBad(t, "<p><a o=\"\""+list(n)+"/></p>", 1, api.ErrOrder)
	}
}

func TestParseHuge(t *testing.T) { // R1
	huge := strings.Repeat("a", 1<<26)
	checkBad(t, huge, 0, api.ErrForm)
	checkBad(t, "<"+huge, 1+len(huge), api.ErrForm)
	checkBad(t, "<"+huge+"/>", 0, api.ErrTag)
	checkBad(t, "<a>"+huge, 3+len(huge), api.ErrForm)
	checkBad(t, "<a>"+huge+"</a>", 0, api.ErrLong)
	checkBad(t, `<a #="`+huge+`"/>`, 0, api.ErrLong)
	checkBad(t, `<a `+huge+`=""/>`, 0, api.ErrName)
	checkBad(t, `<a n="`+huge, 6+len(huge), api.ErrForm)
}

func TestInverse(t *testing.T) { // 15.3
	for _, n := range append(smallTrees(), sample(), chain(64), wide(4095), keyed("a", fullText), text("a", strings.Repeat("\"", api.MaxText))) {
		s, err := Print(n)
		if err == api.OK {
			checkParse(t, s, n, 0, api.OK)
		}
	}
	every := ""
	for c := range 256 {
		every += string([]byte{byte(c)})
	}
	for i := range len(every) {
		n := api.Node{Tag: "a", Key: every[i : i+1], Text: every[i:], Attrs: attrs("", "n", every[:i]).Attrs}
		s, _ := Print(n)
		checkParse(t, s, n, 0, api.OK)
	}
}

func TestReproduced(t *testing.T) { // 15.3
	accepted := 0
	for _, n := range append(smallTrees(), sample()) {
		s := slowMarkup(n)
		for _, s := range []string{s, strings.Replace(s, "/>", "></a>", 1), strings.Replace(s, "&lt;", "&#60;", 1), strings.Replace(s, "k", "\t", 1), strings.ReplaceAll(s, "x", "")} {
			if back, _, err := Parse(s); err == api.OK {
				accepted++
				checkPrint(t, back, s, api.OK)
			}
		}
	}
	if accepted < 1000 {
		t.Errorf("only %d strings were accepted", accepted)
	}
}

// roomy returns the same tree, each of whose lists has room for more, and in it what is not of the tree.
func roomy(n api.Node) api.Node {
	n.Attrs = append(slices.Clone(n.Attrs), api.Attr{Name: "spare"})[:len(n.Attrs)]
	kids := append(slices.Clone(n.Kids), node("spare"))
	for i, kid := range n.Kids {
		kids[i] = roomy(kid)
	}
	n.Kids = kids[:len(n.Kids)]
	return n
}

// whole prints a tree with what stands in the room of its lists.
func whole(n api.Node) string {
	out := fmt.Sprintf("(%q %q %q %q", n.Tag, n.Key, n.Text, n.Attrs[:cap(n.Attrs)])
	for _, kid := range n.Kids[:cap(n.Kids)] {
		out += whole(kid)
	}
	return out + ")"
}

// spoil overwrites all lists of a tree and what room they have.
func spoil(n api.Node) {
	for _, kid := range n.Kids {
		spoil(kid)
	}
	for i := range n.Attrs[:cap(n.Attrs)] {
		n.Attrs[:cap(n.Attrs)][i] = api.Attr{Name: "mine", Value: "mine"}
	}
	for i := range n.Kids[:cap(n.Kids)] {
		n.Kids[:cap(n.Kids)][i] = node("mine")
	}
}

func TestMemory(t *testing.T) { // R4
	n := roomy(sample())
	before := whole(n)
	s, _ := Print(n)
	if after := whole(n); after != before {
		t.Errorf("the tree was\n%s and is\n%s", before, after)
	}
	first, _, _ := Parse(s)
	second, _, _ := Parse(s)
	spoil(n)
	spoil(first)
	if s != sampleMarkup || !same(second, sample()) {
		t.Errorf("the tree is %s when others are changed", short(second))
	}
	// No two lists of one tree share memory.
	many, _, _ := Parse("<p>" + strings.Repeat(sampleMarkup[:2]+sampleMarkup[8:], 20) + "</p>")
	seen := map[any]bool{}
	note := func(element any) {
		if seen[element] {
			t.Error("two lists share an element")
		}
		seen[element] = true
	}
	var collect func(n api.Node)
	collect = func(n api.Node) {
		for i := range n.Attrs[:cap(n.Attrs)] {
			note(&n.Attrs[:cap(n.Attrs)][i])
		}
		for i := range n.Kids[:cap(n.Kids)] {
			note(&n.Kids[:cap(n.Kids)][i])
			collect(n.Kids[:cap(n.Kids)][i])
		}
	}
	collect(many)
	if len(seen) < 20*(4+3) {
		t.Errorf("there are only %d elements", len(seen))
	}
}

func TestZeroBesideErrors(t *testing.T) { // R2
	for _, s := range []string{"", sampleMarkup + "x", `<a><b c="d">x</b><b:c/></a>`} {
		if n, _, err := Parse(s); err == api.OK || !reflect.DeepEqual(n, api.Node{}) {
			t.Errorf("Parse(%q) = %s, %v", s, short(n), err)
		}
	}
}
