package stencil

import (
	"fmt"
	"reflect"
	"slices"
	"strings"
	"testing"

	"tendril/api"
	"tendril/attrs"
	"tendril/datum"
	"tendril/terms"
	"tendril/vtree"
)

// value makes a value of its text.
func value(s string) api.Datum {
	d, _, err := datum.Parse(s)
	if err != api.OK {
		panic(s)
	}
	return d
}

// bind makes binds of names and texts of values in turn.
func bind(words ...string) []terms.Bind {
	var out []terms.Bind
	for i := 0; i < len(words); i += 2 {
		out = append(out, terms.Bind{Name: words[i], Datum: value(words[i+1])})
	}
	return out
}

// written makes a node with a Key and a Text.
func written(tag, key, text string, words ...string) api.Node {
	return api.Node{Tag: tag, Key: key, Text: text, Attrs: attrsOf(words...)}
}

// slowRenderer renders by the words of the chapter.
type slowRenderer struct {
	counted int
}

func slowEval(s string, env []terms.Bind) (api.Datum, api.Errno) {
	t, _ := terms.Parse(s)
	return terms.Eval(t, env...)
}

// slowTextOf is the text of the result of a term.
func slowTextOf(s string, env []terms.Bind) (string, api.Errno) {
	d, err := slowEval(s, env)
	if err == api.OK && d.Kind >= api.List {
		err = api.ErrType
	}
	if err != api.OK {
		return "", err
	}
	if d.Kind == api.Text {
		return d.Text, api.OK
	}
	text, _ := datum.Print(d)
	return strings.TrimPrefix(text, "none"), api.OK
}

func (r *slowRenderer) node(n api.Node, env []terms.Bind) ([]api.Node, api.Errno) {
	each, repeated := attrs.Get(n.Attrs, "x:each")
	if !repeated {
		return r.once(n, env)
	}
	list, err := slowEval(each, env)
	if err == api.OK && list.Kind != api.List {
		err = api.ErrType
	}
	as, _ := attrs.Get(n.Attrs, "x:as")
	n.Attrs, _ = attrs.Without(n.Attrs, "x:each")
	var out []api.Node
	for _, x := range list.List {
		if err == api.OK {
			var more []api.Node
			more, err = r.once(n, slices.Concat(env, []terms.Bind{{Name: as, Datum: x}}))
			out = append(out, more...)
		}
	}
	return out, err
}

func (r *slowRenderer) once(n api.Node, env []terms.Bind) ([]api.Node, api.Errno) {
	if r.counted++; r.counted > 4096 {
		return nil, api.ErrMany
	}
	if s, ok := attrs.Get(n.Attrs, "x:if"); ok {
		d, err := slowEval(s, env)
		if err == api.OK && d.Kind != api.Truth {
			err = api.ErrType
		}
		if err != api.OK || d.Num == 0 {
			return nil, err
		}
	}
	out, err := api.Node{Tag: n.Tag, Key: n.Key, Text: n.Text}, api.OK
	if s, ok := attrs.Get(n.Attrs, "x:key"); ok {
		out.Key, err = slowTextOf(s, env)
	}
	if s, ok := attrs.Get(n.Attrs, "x:text"); ok && err == api.OK {
		out.Text, err = slowTextOf(s, env)
	}
	for _, a := range n.Attrs {
		if !strings.HasPrefix(a.Name, "x:") {
			out.Attrs = append(out.Attrs, a)
		}
	}
	for _, a := range n.Attrs {
		if name, sets := strings.CutPrefix(a.Name, "x:set:"); sets && err == api.OK {
			var d api.Datum
			d, err = slowEval(a.Value, env)
			if text, fault := slowTextOf(a.Value, env); d.Kind != api.None {
				out.Attrs, err = attrs.With(out.Attrs, name, text), fault
			}
		}
	}
	for _, kid := range n.Kids {
		if err == api.OK {
			var more []api.Node
			more, err = r.node(kid, env)
			out.Kids = append(out.Kids, more...)
		}
	}
	return []api.Node{out}, err
}

// slowRender is Render by the words of the chapter.
func slowRender(t api.Node, env []terms.Bind) (api.Node, api.Errno) {
	if _, err := Check(t); err != api.OK {
		return api.Node{}, err
	}
	for _, b := range env {
		if !datum.Right(b.Datum) {
			return api.Node{}, api.ErrType
		}
	}
	out, err := new(slowRenderer).node(t, env)
	if err == api.OK && len(out) != 1 {
		err = api.ErrRoots
	}
	if err == api.OK {
		_, err = vtree.Check(out[0])
	}
	if err != api.OK {
		return api.Node{}, err
	}
	return out[0], api.OK
}

// same compares trees.
func same(a, b api.Node) bool {
	return a.Tag == b.Tag && a.Key == b.Key && a.Text == b.Text && slices.Equal(a.Attrs, b.Attrs) && slices.EqualFunc(a.Kids, b.Kids, same)
}

// checkRender compares the answer of Render.
func checkRender(t *testing.T, n api.Node, env []terms.Bind, want api.Node, wantErr api.Errno) {
	t.Helper()
	got, err := Render(n, env...)
	if !same(got, want) || err != wantErr {
		t.Errorf("Render(%s) = %s, %v; want %s, %v", short(n), short(got), err, short(want), wantErr)
	}
	if err != api.OK && !reflect.DeepEqual(got, api.Node{}) {
		t.Errorf("beside %v there is %s", err, short(got))
	}
}

// checkFails compares the error of Render.
func checkFails(t *testing.T, n api.Node, env []terms.Bind, wantErr api.Errno) {
	t.Helper()
	checkRender(t, n, env, api.Node{}, wantErr)
}

// checkSlow compares the answers of Render and slowRender.
func checkSlow(t *testing.T, n api.Node, env []terms.Bind) {
	t.Helper()
	want, wantErr := slowRender(n, env)
	checkRender(t, n, env, want, wantErr)
}

func TestRender(t *testing.T) { // 18.2
	// The example of the chapter.
	n := over(node("ul"), node("li", "x:as", "r", "x:each", "@rows", "x:text", "@r"))
	checkRender(t, n, bind("rows", `["a","b"]`), over(node("ul"), written("li", "", "a"), written("li", "", "b")), api.OK)
	checkRender(t, n, bind("rows", "[]"), node("ul"), api.OK)
	checkFails(t, n, nil, api.ErrNone)
	checkFails(t, n, bind("rows", "{}"), api.ErrType)
	// The text of a result.
	for s, want := range map[string]string{"none": "", "no": "no", "yes": "yes", "-12": "-12", `""`: "", `"&lt;x&gt;"`: "<x>", "@s": "list", "@full": fullText, "(cat 1 @s)": "1list"} {
		env := append(bind("s", `"list"`), terms.Bind{Name: "full", Datum: api.Datum{Kind: api.Text, Text: fullText}})
		checkRender(t, written("a", "k", "t", "x:key", s), env, written("a", want, "t"), api.OK)
		checkRender(t, written("a", "k", "t", "x:text", s), env, written("a", "k", want), api.OK)
		checkRender(t, written("a", "k", "t", "x:text", s, "x:key", s), env, written("a", want, want), api.OK)
		set := node("a", "b", "1", "c", want, "d", "2")
		if s == "none" {
			set = node("a", "b", "1", "d", "2")
		}
		checkRender(t, node("a", "b", "1", "d", "2", "x:set:c", s), env, set, api.OK)
	}
	for _, s := range []string{"@l", "@r", "(at @r \"a\")"} {
		for _, name := range []string{"x:key", "x:text", "x:set:a"} {
			checkFails(t, over(node("p"), node("a", name, s)), bind("l", "[]", "r", "{a=[1]}"), api.ErrType)
		}
	}
	checkRender(t, over(node("p"), node("a", "x:if", "yes"), node("b", "x:if", "no"), node("c", "x:if", "(not no)")), nil, over(node("p"), node("a"), node("c")), api.OK)
	for _, s := range []string{"none", "1", `"yes"`, "0", `""`} {
		checkFails(t, node("a", "x:if", s), nil, api.ErrType)
		checkFails(t, node("a", "x:as", "r", "x:each", s), nil, api.ErrType)
	}
	checkFails(t, node("a", "x:if", "@l"), bind("l", "[]"), api.ErrType)
	checkFails(t, node("a", "x:as", "r", "x:each", "@r"), bind("r", "{}"), api.ErrType)
	checkFails(t, node("a", "x:as", "r", "x:each", "yes"), nil, api.ErrType)
	// What a node with no as its condition has is not evaluated, nor are its children.
	checkRender(t, over(node("p"), over(node("a", "x:if", "no", "x:key", "@x", "x:text", "@x", "x:set:a", "@x"), node("b", "x:if", "@x"))), nil, node("p"), api.OK)
}

func TestRenderAttributes(t *testing.T) { // 18.2
	for _, c := range []struct{ given, want []string }{
		{[]string{"a", "1", "x:set:a", "2"}, []string{"a", "2"}},
		{[]string{"a", "1", "x:set:a", "none"}, []string{"a", "1"}},
		{[]string{"a", "1", "x:set:a", `""`}, []string{"a", ""}},
		{[]string{"x:set:a", "none"}, nil},
		{[]string{"x:set:a", "none", "x:set:b", "1"}, []string{"b", "1"}},
		{[]string{"a", "1", "c", "2", "x:set:b", "3", "x:set:d", "4"}, []string{"a", "1", "b", "3", "c", "2", "d", "4"}},
		{[]string{"b", "1", "y", "2", "z", "3", "x:set:a", "4", "x:set:c", "5", "x:set:zz", "6"}, []string{"a", "4", "b", "1", "c", "5", "y", "2", "z", "3", "zz", "6"}},
		{[]string{"x", "1", "y", "2", "x:set:x", "3", "x:set:y", "4", "x:set:xx", "5"}, []string{"x", "3", "xx", "5", "y", "4"}},
		{[]string{"x:set:x:if", "no", "x:set:x:each", "1", "x:set:x:a", "2", "x:set:x:set:a", "3"}, []string{"x:a", "2", "x:each", "1", "x:if", "no", "x:set:a", "3"}},
		{[]string{"x:as", "a", "x:each", "@l", "x:if", "yes", "x:key", "1", "x:text", "1", "a", "x:"}, []string{"a", "x:"}},
		{[]string{"x:set:a", "@a", "x:set:a.b", "(cat @a 1)", "x:set:a-b", "(not yes)", "x:set:a:b", "2"}, []string{"a", "7", "a-b", "no", "a.b", "71", "a:b", "2"}},
	} {
		got, err := Render(node("p", c.given...), bind("a", "7", "l", "[1]")...)
		if err != api.OK || !slices.Equal(got.Attrs, attrsOf(c.want...)) {
			t.Errorf("%q becomes %q, %v; want %q", c.given, got.Attrs, err, c.want)
		}
	}
	// As many as there can be.
	many, want := node("a"), node("a")
	for i := range 64 {
		name := fmt.Sprintf("a%02d", i)
		want.Attrs = append(want.Attrs, api.Attr{Name: name, Value: "1"})
		if i%2 == 0 {
			name = "x:set:" + name
		}
		many.Attrs = append(many.Attrs, api.Attr{Name: name, Value: "1"})
	}
	many.Attrs = attrs.Norm(many.Attrs...)
	checkRender(t, many, nil, want, api.OK)
}

func TestRenderEach(t *testing.T) { // 18.2
	item := func(words ...string) api.Node { return node("li", append([]string{"x:as", "r"}, words...)...) }
	env := bind("rows", `[{id=1,kids=["a","b"]},{id=2,kids=[]},{id=3,kids=["c"]}]`, "r", `"outer"`, "none", "none")
	row := func(s string) api.Node { return written("li", "", s) }
	for _, c := range []struct {
		kids, want []api.Node
	}{
		{[]api.Node{item("x:each", "@rows", "x:text", "@r.id")}, []api.Node{row("1"), row("2"), row("3")}},
		// The bind holds for the node and below it, and only there.
		{[]api.Node{node("a", "x:text", "@r"), item("x:each", "@rows", "x:text", "@r.id"), node("b", "x:text", "@r")}, []api.Node{written("a", "", "outer"), row("1"), row("2"), row("3"), written("b", "", "outer")}},
		{[]api.Node{over(item("x:each", "@rows", "x:if", "(less 1 @r.id)"), node("b", "x:text", "@r.id"))}, []api.Node{over(node("li"), written("b", "", "2")), over(node("li"), written("b", "", "3"))}},
		// A name that is bound again below.
		{[]api.Node{over(item("x:each", "@rows", "x:set:a", "@r.id"), item("x:each", "@r.kids", "x:text", "@r"), node("b", "x:text", "@r.id"))}, []api.Node{
			over(node("li", "a", "1"), row("a"), row("b"), written("b", "", "1")), over(node("li", "a", "2"), written("b", "", "2")), over(node("li", "a", "3"), row("c"), written("b", "", "3")),
		}},
		// Another name below.
		{[]api.Node{over(item("x:each", "@rows"), node("b", "x:as", "s", "x:each", "@r.kids", "x:text", "(cat @r.id @s)"))}, []api.Node{
			over(node("li"), written("b", "", "1a"), written("b", "", "1b")), node("li"), over(node("li"), written("b", "", "3c")),
		}},
		// The list is that of the environment outside.
		{[]api.Node{node("b", "x:as", "rows", "x:each", "@rows", "x:text", "@rows.id"), item("x:each", "@rows")}, []api.Node{written("b", "", "1"), written("b", "", "2"), written("b", "", "3"), node("li"), node("li"), node("li")}},
		// A name that no path can have.
		{[]api.Node{node("b", "x:as", "r.id", "x:each", "@rows", "x:text", "@r")}, []api.Node{written("b", "", "outer"), written("b", "", "outer"), written("b", "", "outer")}},
	} {
		checkRender(t, over(node("ul"), c.kids...), env, over(node("ul"), c.want...), api.OK)
		checkSlow(t, over(node("ul"), c.kids...), env)
	}
	// A name that is not bound outside is not bound behind it either.
	checkFails(t, over(node("ul"), node("b", "x:as", "s", "x:each", "@rows", "x:text", "@s.id"), node("b", "x:text", "@s")), env, api.ErrNone)
	checkFails(t, over(node("ul"), node("b", "x:as", "s", "x:each", "@s")), env, api.ErrNone)
	checkFails(t, over(node("ul"), node("b", "x:text", "@r"), over(node("b", "x:as", "s", "x:each", "@rows"), node("b")), node("b", "x:if", "(eq @s none)")), env, api.ErrNone)
	// The root.
	checkRender(t, node("p", "x:as", "r", "x:each", "@l", "x:text", "@r"), bind("l", "[7]"), written("p", "", "7"), api.OK)
	checkRender(t, node("p", "x:as", "r", "x:each", "@l", "x:if", "(eq @r 2)", "x:text", "@r"), bind("l", "[1,2,3]"), written("p", "", "2"), api.OK)
	checkFails(t, node("p", "x:as", "r", "x:each", "@l"), bind("l", "[]"), api.ErrRoots)
	checkFails(t, node("p", "x:as", "r", "x:each", "@l"), bind("l", "[1,2]"), api.ErrRoots)
	checkFails(t, node("p", "x:if", "no"), nil, api.ErrRoots)
	checkFails(t, node("p", "x:as", "r", "x:each", "@l", "x:if", "@r"), bind("l", "[no,no]"), api.ErrRoots)
}

func TestRenderEnvironment(t *testing.T) { // 18.2
	checkRender(t, node("a", "x:text", "@a"), bind("a", "1", "b", "2", "a", "3"), written("a", "", "3"), api.OK)
	// Each value counts, used or not, ahead of rendering.
	wrong := terms.Bind{Name: "z", Datum: api.Datum{Kind: 9}}
	for _, n := range []api.Node{node("a"), node("a", "x:text", "@a"), node("a", "x:if", "no"), node("a", "x:text", "@missing"), node("a", "x:as", "r", "x:each", "@l")} {
		checkFails(t, n, append(bind("a", "1", "l", "[1,2]"), wrong), api.ErrType)
		checkFails(t, n, append([]terms.Bind{wrong}, bind("z", "1", "l", "[1,2]")...), api.ErrType)
		checkFails(t, n, []terms.Bind{{Name: "", Datum: api.Datum{Kind: 3, Text: longText}}}, api.ErrType)
	}
	// A stencil that is not valid counts ahead of them.
	checkFails(t, node("A"), []terms.Bind{wrong}, api.ErrTag)
	checkFails(t, node("a", "x:if", "("), []terms.Bind{wrong}, api.ErrForm)
	checkFails(t, node("a", "x:a", "("), []terms.Bind{wrong}, api.ErrName)
	// Far more of it than any stencil needs.
	env := append(slices.Repeat(bind("a", "1", "b", "[1,2]", "", "none"), 1<<16), bind("a", "5", "A", "6")...)
	checkRender(t, over(node("a", "x:text", "@a"), slices.Repeat([]api.Node{node("b", "x:text", "(cat @a @a)")}, 4095)...), env, over(written("a", "", "5"), slices.Repeat([]api.Node{written("b", "", "55")}, 4095)...), api.OK)
	env = nil
	for i := range 1 << 16 {
		env = append(env, terms.Bind{Name: fmt.Sprintf("n%d", i), Datum: value("[1,2,3]")})
	}
	checkRender(t, over(node("a"), slices.Repeat([]api.Node{node("b", "x:text", "(size @n65535)")}, 4095)...), env, over(node("a"), slices.Repeat([]api.Node{written("b", "", "3")}, 4095)...), api.OK)
}

func TestRenderFirstError(t *testing.T) { // 18.2, R2
	// Each directive of a node is absent, fine, or has an error that tells it from another one.
	fine := map[string]string{"x:each": "@l", "x:if": "yes", "x:key": "@n", "x:text": "@n", "x:set:a": "none", "x:set:b": "1"}
	order := []string{"x:each", "x:if", "x:key", "x:text", "x:set:a", "x:set:b"}
	wrong := []string{"@missing", "(add 9223372036854775807 1)", "(cat @full 1)", "@record"}
	env := append(bind("l", "[1]", "n", "7", "record", "{}"), terms.Bind{Name: "full", Datum: api.Datum{Kind: 3, Text: fullText}})
	tried := map[api.Errno]int{}
	var extend func(words []string, left []string)
	extend = func(words []string, left []string) {
		if len(left) > 0 {
			extend(words, left[1:])
			for _, s := range append([]string{fine[left[0]]}, wrong...) {
				extend(append(slices.Clone(words), left[0], s), left[1:])
			}
			return
		}
		n := node("a", words...)
		if slices.Contains(words, "x:each") {
			n = node("a", append(slices.Clone(words), "x:as", "r")...)
		}
		_, err := slowRender(n, env)
		tried[err]++
		checkSlow(t, n, env)
	}
	extend(nil, order)
	if tried[api.OK] != 64 || tried[api.ErrNone]+tried[api.ErrRange]+tried[api.ErrLong]+tried[api.ErrType] != 46656-64 {
		t.Errorf("the errors are %v", tried)
	}
	// Then the children, one after the other; the elements of a list likewise.
	for _, a := range wrong {
		for _, b := range append(wrong, "1") {
			checkSlow(t, over(node("p", "x:set:a", b), node("a", "x:key", a), node("b", "x:key", b)), env)
			checkSlow(t, over(node("p"), over(node("a", "x:text", "1"), node("b", "x:set:a", a)), node("b", "x:key", b)), env)
			checkSlow(t, over(node("p"), over(node("a", "x:as", "r", "x:each", "@two", "x:text", fmt.Sprintf("(if @r 1 %s)", a)), node("b", "x:set:a", b))), append(env, bind("two", "[yes,no]")...))
			checkSlow(t, over(node("p"), over(node("a", "x:as", "r", "x:each", "@two", "x:text", fmt.Sprintf("(if @r 1 %s)", a))), node("b", "x:set:a", b)), append(env, bind("two", "[yes,no,no]")...))
		}
	}
	// An error while rendering counts ahead of ErrRoots, and that ahead of those of the tree.
	checkFails(t, node("a", "x:as", "r", "x:each", "@two", "x:text", "(if @r 1 @missing)"), bind("two", "[yes,no]"), api.ErrNone)
	twice := over(node("p", "x:as", "r", "x:each", "@two"), written("a", "k", ""), node("a", "x:key", `"k"`))
	checkFails(t, twice, bind("two", "[1,1]"), api.ErrRoots)
	checkFails(t, twice, bind("two", "[]"), api.ErrRoots)
	checkFails(t, twice, bind("two", "[1]"), api.ErrTwice)
	checkFails(t, over(node("p"), written("a", "k", "", "x:as", "r", "x:each", "@two")), bind("two", "[1,1]"), api.ErrTwice)
	checkFails(t, over(node("p"), node("a", "x:as", "r", "x:each", "@two", "x:key", "@r")), bind("two", `[1,"1"]`), api.ErrTwice)
	checkRender(t, over(node("p"), written("a", "k", "", "x:as", "r", "x:each", "@two", "x:key", "none")), bind("two", `[1,"1"]`), over(node("p"), node("a"), node("a")), api.OK)
	checkFails(t, over(node("p"), written("a", "k", "", "x:as", "r", "x:each", "@two"), node("b", "x:if", "@missing")), bind("two", "[1,1]"), api.ErrNone)
}

func TestRenderMany(t *testing.T) { // 18.2
	list := func(n int) string { return "[" + strings.Repeat("1,", n-1) + "1]" }
	env := bind("half", list(1365), "most", list(1999), "ten", list(10), "one", "[1]", "empty", "[]", "list", "[]")
	each := func(name string, words ...string) api.Node {
		return node("b", append([]string{"x:as", "r", "x:each", "@" + name}, words...)...)
	}
	half := []api.Node{each("half"), each("half"), each("half")} // 4095 in all
	plain := func(n int) []api.Node { return slices.Repeat([]api.Node{node("b")}, n) }
	checkRender(t, over(node("p"), half...), env, over(node("p"), plain(4095)...), api.OK)
	for _, words := range [][]string{{}, {"x:if", "no"}, {"x:if", "@missing"}, {"x:key", "@missing"}} {
		checkFails(t, over(node("p"), append(slices.Clone(half), node("b", words...))...), env, api.ErrMany)
		checkFails(t, over(node("p"), append(slices.Clone(half), each("one", words...))...), env, api.ErrMany)
		checkFails(t, over(node("p"), append([]api.Node{node("b")}, append(slices.Clone(half)[1:], each("half", words...))...)...), env, map[bool]api.Errno{true: api.ErrMany, false: api.ErrNone}[len(words) == 0 || words[1] == "no"])
	}
	// Its list is evaluated before a node counts, and a node with x:each does not count for itself.
	checkRender(t, over(node("p"), append(slices.Clone(half), each("empty"), each("empty", "x:if", "@missing"))...), env, over(node("p"), plain(4095)...), api.OK)
	checkFails(t, over(node("p"), append(slices.Clone(half), each("missing"))...), env, api.ErrNone)
	checkFails(t, over(node("p"), append(slices.Clone(half), each("one.x"))...), env, api.ErrNone)
	checkFails(t, over(node("p"), append(slices.Clone(half), node("b", "x:as", "r", "x:each", "1"))...), env, api.ErrType)
	// Nodes count that yield nothing, but not what would be below them.
	gone := []api.Node{each("half", "x:if", "no"), over(each("half", "x:if", "no"), node("c")), each("half", "x:if", "no")}
	checkRender(t, over(node("p"), gone...), env, node("p"), api.OK)
	checkFails(t, over(node("p"), append(slices.Clone(gone), node("b"))...), env, api.ErrMany)
	checkFails(t, over(node("p"), append(slices.Clone(gone), node("b", "x:if", "no"))...), env, api.ErrMany)
	// As many as a stencil can have.
	checkRender(t, wide(4095, node("b")), nil, wide(4095, node("b")), api.OK)
	checkRender(t, wide(4095, node("b", "x:if", "no")), nil, node("p"), api.OK)
	checkFails(t, over(node("p"), append(plain(4094), each("ten"))...), env, api.ErrMany)
	checkRender(t, over(node("p"), append(plain(4094), each("one"))...), env, wide(4095, node("b")), api.OK)
	// Lists in lists, and many roots.
	checkRender(t, over(node("p"), over(each("ten"), over(each("ten"), append(plain(39), each("empty"))...))), env, over(node("p"), slices.Repeat([]api.Node{over(node("b"), slices.Repeat([]api.Node{over(node("b"), plain(39)...)}, 10)...)}, 10)...), api.OK)
	checkFails(t, over(node("p"), over(each("ten"), over(each("ten"), plain(40)...))), env, api.ErrMany)
	checkFails(t, over(each("most"), each("most")), env, api.ErrMany)
	checkFails(t, over(each("most"), node("b"), node("b")), env, api.ErrMany)
	checkFails(t, over(each("most"), node("b")), env, api.ErrRoots)
	checkFails(t, over(each("most", "x:if", "no"), node("b"), node("b")), env, api.ErrRoots)
	// An error ahead of the node that is one too many.
	checkFails(t, over(node("p"), append(append([]api.Node{node("a", "x:if", "1")}, half...), node("b"))...), env, api.ErrType)
	checkFails(t, over(node("p"), append(append([]api.Node{node("a", "x:if", "no")}, half...), node("b", "x:if", "1"))...), env, api.ErrMany)
}

func TestRenderEveryTree(t *testing.T) { // 18.2
	pool := []api.Node{
		node("a"), written("a", "k", "t", "a", "1"), written("b", "", "", "x:if", "@r.on"), node("b", "x:as", "r", "x:each", "@rows", "x:text", "@r.id"), node("b", "x:as", "r", "x:each", "@r.kids", "x:key", "@r"),
		written("b", "k", "x", "a", "1", "x:key", "@r.id", "x:set:a", "@r.id"), node("b", "x:text", "@r"), node("b", "x:as", "rows", "x:each", "@r.kids", "x:if", "@rows", "x:set:on", "(cat @rows)"), node("a", "x:as", "s", "x:each", "@one", "x:set:a", "@s"),
	}
	env := bind("rows", "[{id=1,kids=[yes,no],on=yes},{id=2,kids=[],on=no}]", "one", `["s"]`, "r", `{id="r",kids=[1,yes],on=yes}`)
	tried := map[api.Errno]int{}
	for n := range 3 {
		for _, tree := range trees(pool, n+1) {
			_, err := slowRender(tree, env)
			tried[err]++
			checkSlow(t, tree, env)
		}
	}
	for _, n := range trees(pool, 2) {
		for _, tree := range []api.Node{over(node("p"), over(pool[3], n)), over(node("p"), over(pool[4], n, pool[6])), over(node("p"), n, pool[3], n)} {
			_, err := slowRender(tree, env)
			tried[err]++
			checkSlow(t, tree, env)
		}
	}
	for _, err := range []api.Errno{api.OK, api.ErrNone, api.ErrType, api.ErrRoots, api.ErrTwice} {
		if tried[err] < 20 {
			t.Errorf("%v was tried %d times", err, tried[err])
		}
	}
}

func TestRenderedUnchanged(t *testing.T) { // 18.3
	pool := []api.Node{node("a"), written("a", "k", "<x>", "a", "@a", "b", "("), written("b", "m", fullText, "x", "", "y:if", "no"), node("b-1", "a:", "x:if")}
	for n := range 4 {
		for _, tree := range trees(pool, n+1) {
			if _, err := vtree.Check(tree); err == api.OK {
				checkRender(t, tree, nil, tree, api.OK)
				checkRender(t, tree, bind("a", "1"), tree, api.OK)
			}
		}
	}
	checkRender(t, chain(64), nil, chain(64), api.OK)
	checkRender(t, wide(4095, node("a", "a", "1")), nil, wide(4095, node("a", "a", "1")), api.OK)
	// Children with only x:each and x:as occur once for each element.
	for n := range 50 {
		list := strings.TrimSuffix("["+strings.Repeat("none,", n), ",") + "]"
		kid := over(written("b", "", "t", "a", "1"), node("c"))
		repeated := kid
		repeated.Attrs = attrsOf("a", "1", "x:as", "r", "x:each", "@l")
		checkRender(t, over(node("p"), node("a"), repeated, node("z")), bind("l", list), over(node("p"), append(append([]api.Node{node("a")}, slices.Repeat([]api.Node{kid}, n)...), node("z"))...), api.OK)
	}
}

func TestRenderGreat(t *testing.T) { // 18.2, R1
	// The greatest terms and values that there are.
	env := []terms.Bind{{Name: "full", Datum: api.Datum{Kind: 3, Text: fullText}}, {Name: "l", Datum: value("[" + strings.Repeat("1,", 1998) + "1]")}}
	nested := strings.Repeat("(not ", 16) + "yes" + strings.Repeat(")", 16)
	checkRender(t, node("a", "x:if", nested, "x:key", nested, "x:text", "@full", "x:set:a", nested, "x:set:b", "@full"), env, written("a", "yes", fullText, "a", "yes", "b", fullText), api.OK)
	wide := "(if (and" + strings.Repeat(" (and"+strings.Repeat(" (and yes yes yes yes yes yes yes yes yes)", 9)+")", 9) + ") @l 1)"
	got, err := Render(over(node("p"), node("b", "x:as", "r", "x:each", wide, "x:text", "(size @l)")), env...)
	if err != api.OK || len(got.Kids) != 1999 || got.Kids[1998].Text != "1999" {
		t.Errorf("Render = %s, %v", short(got), err)
	}
	deep := node("a", "x:as", "r", "x:each", "@one", "x:text", "@r")
	for range 63 {
		deep = over(node("a", "x:as", "r", "x:each", "@one"), deep)
	}
	want := chain(64)
	last := &want
	for len(last.Kids) > 0 {
		last = &last.Kids[0]
	}
	last.Text = "7"
	checkRender(t, deep, bind("one", "[7]"), want, api.OK)
}

// whole prints a tree with what stands in the room of its lists.
func whole(n api.Node) string {
	out := fmt.Sprintf("(%q %q %q %q", n.Tag, n.Key, n.Text, n.Attrs[:cap(n.Attrs)])
	for _, kid := range n.Kids[:cap(n.Kids)] {
		out += whole(kid)
	}
	return out + ")"
}

// roomy returns the same tree, each of whose lists has room for more, and in it what is not of the tree.
func roomy(n api.Node) api.Node {
	n.Attrs = append(slices.Clone(n.Attrs), api.Attr{Name: "spare"})[:len(n.Attrs)]
	kids := append(slices.Clone(n.Kids), node("spare"))
	for i, kid := range n.Kids {
		kids[i] = roomy(kid)
	}
	n.Kids = kids[:len(n.Kids)]
	return n
}

// spoil overwrites all lists of a tree and what room they have.
func spoil(n api.Node) {
	for _, kid := range n.Kids {
		spoil(kid)
	}
	for i := range n.Attrs[:cap(n.Attrs)] {
		n.Attrs[:cap(n.Attrs)][i] = api.Attr{Name: "mine"}
	}
	for i := range n.Kids[:cap(n.Kids)] {
		n.Kids[:cap(n.Kids)][i] = node("mine")
	}
}

func TestMemory(t *testing.T) { // R4
	n := roomy(over(node("ul", "a", "1", "b", "2"), over(node("li", "c", "1", "x:as", "r", "x:each", "@rows", "x:set:a", "@r.a", "x:key", "@r.a"), node("b", "d", "1"), written("b", "", "t", "x:text", "@r.l")), node("li", "x:if", "no"), node("b")))
	env := append(make([]terms.Bind, 0, 4), bind("rows", `[{a=1,l="x"},{a=2,l="y"},{a=3,l="z"}]`)...)
	before, values := whole(n), fmt.Sprint(env[:4])
	Check(n)
	first, err := Render(n, env...)
	second, _ := Render(n, env...)
	if err != api.OK || len(first.Kids) != 4 || !same(first, second) {
		t.Fatalf("Render = %s, %v", short(first), err)
	}
	want := whole(second)
	spoil(first)
	if whole(n) != before || fmt.Sprint(env[:4]) != values {
		t.Errorf("the stencil was\n%s and is\n%s", before, whole(n))
	}
	spoil(n)
	env[0].Datum.List[0].List[0] = api.Datum{}
	if whole(second) != want {
		t.Errorf("the tree was\n%s and is\n%s", want, whole(second))
	}
	// No two lists of one tree share memory.
	seen := map[any]bool{}
	note := func(element any) {
		if seen[element] {
			t.Error("two lists share an element")
		}
		seen[element] = true
	}
	var collect func(n api.Node)
	collect = func(n api.Node) {
		for i := range n.Attrs[:cap(n.Attrs)] {
			note(&n.Attrs[:cap(n.Attrs)][i])
		}
		for i := range n.Kids[:cap(n.Kids)] {
			note(&n.Kids[:cap(n.Kids)][i])
			collect(n.Kids[:cap(n.Kids)][i])
		}
	}
	collect(second)
	if len(seen) < 2+4+3*(2+2+1) {
		t.Errorf("there are only %d elements", len(seen))
	}
}
