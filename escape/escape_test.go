package escape

import (
	"math"
	"strconv"
	"strings"
	"testing"

	"tendril/api"
)

// The calls keep the signatures that the chapter lists.
var (
	_ func(string) string                   = Escape
	_ func(string) int                      = Length
	_ func(string) (string, int, api.Errno) = Unescape
	_ func(string, int) int                 = Span
)

// tableOf lists the forms of all bytes, written down one by one as the chapter defines them.
func tableOf() [256]string {
	var forms [256]string
	for c := range 256 {
		forms[c] = string([]byte{byte(c)})
	}
	for c := range 32 {
		forms[c] = "&#" + strconv.Itoa(c) + ";"
	}
	forms[127] = "&#127;"
	forms['&'] = "&amp;"
	forms['<'] = "&lt;"
	forms['>'] = "&gt;"
	forms['"'] = "&quot;"
	return forms
}

// peel takes form after form from the front of s, and stops where none begins.
func peel(forms [256]string, s string) (string, int, api.Errno) {
	var out []byte
	for at := 0; at < len(s); {
		found := -1
		for c := range 256 {
			if strings.HasPrefix(s[at:], forms[c]) {
				found = c
				break
			}
		}
		if found < 0 {
			return "", at, api.ErrForm
		}
		out = append(out, byte(found))
		at += len(forms[found])
	}
	return string(out), 0, api.OK
}

// over returns every string of at most n of the bytes of the alphabet.
func over(alphabet string, n int) []string {
	out := []string{""}
	from := 0
	for range n {
		to := len(out)
		for _, s := range out[from:to] {
			for i := range len(alphabet) {
				out = append(out, s+alphabet[i:i+1])
			}
		}
		from = to
	}
	return out
}

func everyByte() string {
	var all [256]byte
	for c := range 256 {
		all[c] = byte(c)
	}
	return string(all[:])
}

func TestEscape(t *testing.T) { // 3.1
	cases := []struct{ s, want string }{
		{"", ""},
		{"a<b\n", "a&lt;b&#10;"},
		{"a&\"\x7f", "a&amp;&quot;&#127;"},
		{"&lt;", "&amp;lt;"},
		{"<p a=\"1\">", "&lt;p a=&quot;1&quot;&gt;"},
		{"\x00\x09\x1f ~\x80\xff'", "&#0;&#9;&#31; ~\x80\xff'"},
		{"\u00e9\u20ac\U0001f600", "\u00e9\u20ac\U0001f600"},
		{"&&", "&amp;&amp;"},
	}
	for _, c := range cases {
		if got := Escape(c.s); got != c.want {
			t.Errorf("Escape(%q) = %q, want %q", c.s, got, c.want)
		}
		if got := Length(c.s); got != len(c.want) {
			t.Errorf("Length(%q) = %d, want %d", c.s, got, len(c.want))
		}
	}
}

func TestEscapeEveryByte(t *testing.T) { // 3.1
	forms := tableOf()
	for c := range 256 {
		one := string([]byte{byte(c)})
		for _, s := range []string{one, "x" + one, one + "x", one + one} {
			want := ""
			for i := range len(s) {
				want += forms[s[i]]
			}
			if got := Escape(s); got != want || Length(s) != len(want) {
				t.Errorf("Escape(%q) = %q of length %d, want %q", s, got, Length(s), want)
			}
		}
	}
}

func TestUnescape(t *testing.T) { // 3.2
	cases := []struct {
		s, want string
		at      int
		err     api.Errno
	}{
		{"", "", 0, api.OK},
		{"plain 'text' #1; \x80\xff", "plain 'text' #1; \x80\xff", 0, api.OK},
		{"&gt;&#9;z", ">\tz", 0, api.OK},
		{"&#0;&#31;&#127;", "\x00\x1f\x7f", 0, api.OK},
		{"&amp;lt;", "&lt;", 0, api.OK},
		{"&quot;&lt;", "\"<", 0, api.OK},
		{"&lt", "", 0, api.ErrForm},
		{"&", "", 0, api.ErrForm},
		{"&;", "", 0, api.ErrForm},
		{"&#;", "", 0, api.ErrForm},
		{"&#", "", 0, api.ErrForm},
		{"ab&", "", 2, api.ErrForm},
		{"<", "", 0, api.ErrForm},
		{"a>", "", 1, api.ErrForm},
		{"ab\"", "", 2, api.ErrForm},
		{"a\nb", "", 1, api.ErrForm},
		{"a\x00", "", 1, api.ErrForm},
		{"\x1f", "", 0, api.ErrForm},
		{"\x7f", "", 0, api.ErrForm},
		{"&amp;\x7f&amp;", "", 5, api.ErrForm},
		{"&#127;&#10;&bad;<", "", 11, api.ErrForm},
		{"&amp;<&", "", 5, api.ErrForm},
		{"a&b<", "", 1, api.ErrForm},
		{"&&amp;", "", 0, api.ErrForm},
		{"&a&lt;", "", 0, api.ErrForm},
		{"&#65;", "", 0, api.ErrForm},
		{"&#32;", "", 0, api.ErrForm},
		{"&#126;", "", 0, api.ErrForm},
		{"&#128;", "", 0, api.ErrForm},
		{"&#255;", "", 0, api.ErrForm},
		{"&#256;", "", 0, api.ErrForm},
		{"&#266;", "", 0, api.ErrForm},
		{"&#34;", "", 0, api.ErrForm},
		{"&#38;", "", 0, api.ErrForm},
		{"&#09;", "", 0, api.ErrForm},
		{"&#00;", "", 0, api.ErrForm},
		{"&#009;", "", 0, api.ErrForm},
		{"&#0127;", "", 0, api.ErrForm},
		{"&#+9;", "", 0, api.ErrForm},
		{"&#-0;", "", 0, api.ErrForm},
		{"&#x9;", "", 0, api.ErrForm},
		{"&# 9;", "", 0, api.ErrForm},
		{"&9;", "", 0, api.ErrForm},
		{"&AMP;", "", 0, api.ErrForm},
		{"&apos;", "", 0, api.ErrForm},
		{"&quot ;", "", 0, api.ErrForm},
		{"&quotes;", "", 0, api.ErrForm},
		{"x&#10", "", 1, api.ErrForm},
	}
	for _, c := range cases {
		if got, at, err := Unescape(c.s); got != c.want || at != c.at || err != c.err {
			t.Errorf("Unescape(%q) = %q, %d, %d, want %q, %d, %d", c.s, got, at, err, c.want, c.at, c.err)
		}
	}
}

func comparePeeled(t *testing.T, forms [256]string, s string) {
	t.Helper()
	want, wantAt, wantErr := peel(forms, s)
	if got, at, err := Unescape(s); got != want || at != wantAt || err != wantErr {
		t.Errorf("Unescape(%q) = %q, %d, %d, want %q, %d, %d", s, got, at, err, want, wantAt, wantErr)
	}
}

func TestUnescapeEverySmallString(t *testing.T) { // 3.2
	forms := tableOf()
	for _, s := range over("&#;12<", 6) {
		comparePeeled(t, forms, s)
	}
	for _, s := range over("&lgt;", 6) {
		comparePeeled(t, forms, s)
	}
}

func TestUnescapeSpoiltForms(t *testing.T) { // 3.2
	forms := tableOf()
	for c := range 128 {
		form := forms[c]
		for i := range len(form) {
			comparePeeled(t, forms, "a"+form[:i]+form[i+1:])
			for other := range 256 {
				put := string([]byte{byte(other)})
				comparePeeled(t, forms, "a"+form[:i]+put+form[i+1:]+"b")
				comparePeeled(t, forms, "a"+form[:i]+put+form[i:]+"b")
			}
		}
	}
	for n := range 1000 {
		comparePeeled(t, forms, "&#"+strconv.Itoa(n)+";")
		comparePeeled(t, forms, "&#0"+strconv.Itoa(n)+";")
	}
}

func TestUnescapeStopsAtTheFirstError(t *testing.T) { // 3.2, R1
	long := strings.Repeat("a", 1<<20)
	if got, at, err := Unescape("&" + long + ";"); got != "" || at != 0 || err != api.ErrForm {
		t.Errorf("a long form: %d bytes, %d, %d", len(got), at, err)
	}
	if got, at, err := Unescape(long + "<" + long + "&"); got != "" || at != len(long) || err != api.ErrForm {
		t.Errorf("a long text: %d bytes, %d, %d", len(got), at, err)
	}
	if got, at, err := Unescape(long); got != long || at != 0 || err != api.OK {
		t.Errorf("a long plain text: %d bytes, %d, %d", len(got), at, err)
	}
}

func TestSpan(t *testing.T) { // 3.3
	cases := []struct {
		s    string
		at   int
		want int
	}{
		{"", 0, 0},
		{"ab<c", 0, 2},
		{"ab<c", 1, 1},
		{"ab<c", 2, 0},
		{"ab<c", 3, 1},
		{"ab<c", 4, 0},
		{"ab<c", 5, 0},
		{"ab", 1, 1},
		{"ab", 2, 0},
		{"ab", -1, 0},
		{"ab", math.MinInt, 0},
		{"ab", math.MaxInt, 0},
		{"a>b\"c", 0, 1},
		{"a>b\"c", 2, 1},
		{"&lt;&amp;'\n\x00\x7f\xff", 0, 14},
	}
	for _, c := range cases {
		if got := Span(c.s, c.at); got != c.want {
			t.Errorf("Span(%q, %d) = %d, want %d", c.s, c.at, got, c.want)
		}
	}
}

func TestSpanEveryIndex(t *testing.T) { // 3.3
	for _, s := range append(over("a&<>\"\n", 4), everyByte()) {
		for at := -2; at <= len(s)+2; at++ {
			want := 0
			for i := at; i >= 0 && i < len(s) && s[i] != '<' && s[i] != '>' && s[i] != '"'; i++ {
				want++
			}
			if got := Span(s, at); got != want {
				t.Errorf("Span(%q, %d) = %d, want %d", s, at, got, want)
			}
		}
	}
}

func TestUnescapeUndoesEscape(t *testing.T) { // 3.4
	seen := map[string]string{}
	for _, s := range append(over("a&;l\"\n1", 5), everyByte(), strings.Repeat(everyByte(), 300)) {
		written := Escape(s)
		if got, at, err := Unescape(written); got != s || at != 0 || err != api.OK {
			t.Errorf("Unescape(%q) = %q, %d, %d, want %q", written, got, at, err, s)
		}
		if Length(s) != len(written) {
			t.Errorf("Length(%q) = %d, want %d", s, Length(s), len(written))
		}
		if Span(written, 0) != len(written) {
			t.Errorf("Escape(%q) has characters of markup", s)
		}
		if other, ok := seen[written]; ok {
			t.Errorf("%q is written for %q and for %q", written, s, other)
		}
		seen[written] = s
	}
}

func TestOneEscapedForm(t *testing.T) { // 3.4
	for _, s := range over("&#;10lt", 6) {
		if read, _, err := Unescape(s); err == api.OK && Escape(read) != s {
			t.Errorf("%q is read as %q, which is written %q", s, read, Escape(read))
		}
	}
}

func TestEscapeConcatenates(t *testing.T) { // 3.4
	pieces := append(over("a&<;\n", 2), everyByte())
	for _, a := range pieces {
		for _, b := range pieces {
			if got := Escape(a + b); got != Escape(a)+Escape(b) {
				t.Errorf("Escape(%q + %q) = %q", a, b, got)
			}
			if got := Length(a + b); got != Length(a)+Length(b) {
				t.Errorf("Length(%q + %q) = %d", a, b, got)
			}
		}
	}
}
