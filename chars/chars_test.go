package chars

import (
	"math"
	"slices"
	"strconv"
	"strings"
	"testing"
)

// The calls keep the signatures that the chapter lists.
var (
	_ func(string) bool               = Tag
	_ func(string) bool               = Name
	_ func(string) bool               = Fits
	_ func(string, string) int        = Compare
	_ func(string, string) (int, int) = Common
	_ func(string) ([]string, bool)   = Words
	_ func(int) string                = Decimal
	_ func(string) (int, bool)        = Whole
)

const (
	lower  = "abcdefghijklmnopqrstuvwxyz"
	digits = "0123456789"
)

// over returns every string of at most n of the bytes of the alphabet.
func over(alphabet string, n int) []string {
	out := []string{""}
	from := 0
	for range n {
		to := len(out)
		for _, s := range out[from:to] {
			for i := range len(alphabet) {
				out = append(out, s+alphabet[i:i+1])
			}
		}
		from = to
	}
	return out
}

func TestTagAndNameBytes(t *testing.T) { // 2.1
	for c := range 256 {
		one := string([]byte{byte(c)})
		first := strings.Contains(lower, one)
		if Tag(one) != first || Name(one) != first {
			t.Errorf("%q alone: Tag %v, Name %v", one, Tag(one), Name(one))
		}
		if Tag(one+"a") != first || Name(one+"a") != first {
			t.Errorf("%q first: Tag %v, Name %v", one, Tag(one+"a"), Name(one+"a"))
		}
		inTag := strings.Contains(lower+digits+"-", one)
		inName := inTag || one == ":" || one == "."
		for _, s := range []string{"a" + one, "a" + one + "b", "z9-" + one, strings.Repeat("q", 31) + one} {
			if Tag(s) != inTag || Name(s) != inName {
				t.Errorf("%q: Tag %v, Name %v", s, Tag(s), Name(s))
			}
		}
	}
}

func TestTagAndNameLengths(t *testing.T) { // 2.1
	for _, n := range []int{0, 1, 2, 31, 32, 33, 34, 64, 1 << 20} {
		want := n >= 1 && n <= 32
		s := strings.Repeat("a", n)
		if Tag(s) != want || Name(s) != want {
			t.Errorf("%d bytes: Tag %v, Name %v", n, Tag(s), Name(s))
		}
	}
	if !Name("a" + strings.Repeat(":.", 15) + ":") {
		t.Error("a name of 32 bytes with : and . is refused")
	}
}

func TestTagAndNameWhole(t *testing.T) { // 2.1
	for s, want := range map[string][2]bool{
		"x-1": {true, true}, "h1": {true, true}, "a-": {true, true}, "a--b": {true, true},
		"a:b": {false, true}, "a.b": {false, true}, "a:b.c": {false, true}, "a..": {false, true},
		"": {false, false}, "1x": {false, false}, "-x": {false, false}, ":x": {false, false}, ".x": {false, false},
		"A": {false, false}, "aB": {false, false}, "a b": {false, false}, "a_b": {false, false},
		"a\x00": {false, false}, "a\n": {false, false}, "aé": {false, false}, "é": {false, false},
	} {
		if Tag(s) != want[0] || Name(s) != want[1] {
			t.Errorf("%q: Tag %v, Name %v, want %v", s, Tag(s), Name(s), want)
		}
	}
}

func TestFits(t *testing.T) { // 2.1
	for n, want := range map[int]bool{0: true, 1: true, 65535: true, 65536: true, 65537: false, 1 << 20: false} {
		if Fits(strings.Repeat("\xff", n)) != want {
			t.Errorf("Fits of %d bytes is %v", n, !want)
		}
	}
	// The limit counts bytes, not runes.
	if !Fits(strings.Repeat("é", 32768)) || Fits(strings.Repeat("é", 32769)) {
		t.Error("Fits does not count bytes")
	}
}

// bytewise compares by the definition of R8.
func bytewise(a, b string) int {
	switch {
	case a == "" && b == "":
		return 0
	case a == "":
		return -1
	case b == "":
		return 1
	case a[0] < b[0]:
		return -1
	case a[0] > b[0]:
		return 1
	}
	return bytewise(a[1:], b[1:])
}

func TestCompare(t *testing.T) { // 2.2
	cases := []struct {
		a, b string
		want int
	}{
		{"", "", 0}, {"", "a", -1}, {"a", "", 1}, {"ab", "abc", -1}, {"abc", "ab", 1}, {"b", "abc", 1},
		{"a", "\x80", -1}, {"\xff", "z", 1}, {"\x7f", "\x80", -1}, {"", "\x00", -1}, {"a\x00", "a", 1},
		{"10", "9", -1}, {"Z", "a", -1}, {"same", "same", 0},
	}
	for _, c := range cases {
		if got := Compare(c.a, c.b); got != c.want {
			t.Errorf("Compare(%q, %q) = %d, want %d", c.a, c.b, got, c.want)
		}
	}
	all := over("\x00a\xff", 3)
	for _, a := range all {
		for _, b := range all {
			if got := Compare(a, b); got != bytewise(a, b) {
				t.Errorf("Compare(%q, %q) = %d", a, b, got)
			}
		}
	}
}

// longest tries every length, from the longest down.
func longest(a, b string, shared func(a, b string, n int) bool) int {
	n := min(len(a), len(b))
	for !shared(a, b, n) {
		n--
	}
	return n
}

func samePrefix(a, b string, n int) bool { return a[:n] == b[:n] }

func sameSuffix(a, b string, n int) bool { return a[len(a)-n:] == b[len(b)-n:] }

func TestCommon(t *testing.T) { // 2.2
	cases := []struct {
		a, b           string
		prefix, suffix int
	}{
		{"", "", 0, 0}, {"a", "", 0, 0}, {"", "a", 0, 0}, {"abcd", "abxd", 2, 1}, {"abc", "abc", 3, 0},
		{"aaa", "aa", 2, 0}, {"aa", "aaa", 2, 0}, {"xabc", "yabc", 0, 3}, {"abc", "xyz", 0, 0},
		{"aXa", "aa", 1, 1}, {"aba", "a", 1, 0}, {"abab", "ab", 2, 0}, {"é", "è", 1, 0},
		{"\xff\x00", "\x00", 0, 1},
	}
	for _, c := range cases {
		if p, s := Common(c.a, c.b); p != c.prefix || s != c.suffix {
			t.Errorf("Common(%q, %q) = %d, %d; want %d, %d", c.a, c.b, p, s, c.prefix, c.suffix)
		}
	}
	all := over("ab", 6)
	for _, a := range all {
		for _, b := range all {
			prefix := longest(a, b, samePrefix)
			suffix := longest(a[prefix:], b[prefix:], sameSuffix)
			if p, s := Common(a, b); p != prefix || s != suffix {
				t.Errorf("Common(%q, %q) = %d, %d; want %d, %d", a, b, p, s, prefix, suffix)
			}
		}
	}
}

func TestWords(t *testing.T) { // 2.3
	cases := []struct {
		s    string
		want []string
		ok   bool
	}{
		{"", nil, true},
		{"a", []string{"a"}, true},
		{"a b", []string{"a", "b"}, true},
		{"a bc d", []string{"a", "bc", "d"}, true},
		{"a\tb\nc d\x00\xff", []string{"a\tb\nc", "d\x00\xff"}, true},
		{"\t", []string{"\t"}, true},
		{"a\u00a0b", []string{"a\u00a0b"}, true},
		{" ", nil, false},
		{"  ", nil, false},
		{" a", nil, false},
		{"a ", nil, false},
		{"a b ", nil, false},
		{"a  b", nil, false},
		{"a b  c", nil, false},
		{" a b", nil, false},
	}
	for _, c := range cases {
		got, ok := Words(c.s)
		if ok != c.ok || !slices.Equal(got, c.want) {
			t.Errorf("Words(%q) = %q, %v; want %q, %v", c.s, got, ok, c.want, c.ok)
		}
	}
}

func TestWordsJoined(t *testing.T) { // 2.3, 2.5
	for _, s := range append(over(" a\t", 7), strings.Repeat("word ", 5000)+"end") {
		want := strings.Split(s, " ")
		fine := s == "" || !slices.Contains(want, "")
		got, ok := Words(s)
		if ok != fine {
			t.Errorf("Words(%q) tells %v", s, ok)
		}
		if ok && strings.Join(got, " ") != s {
			t.Errorf("the words of %q are joined as %q", s, strings.Join(got, " "))
		}
		if ok && s != "" && !slices.Equal(got, want) || (!ok || s == "") && len(got) != 0 {
			t.Errorf("Words(%q) = %q", s, got)
		}
	}
}

func TestDecimal(t *testing.T) { // 2.4
	for n, want := range map[int]string{
		0: "0", 1: "1", -1: "-1", 9: "9", 10: "10", -10: "-10", 1000: "1000", -12: "-12",
		math.MaxInt32: "2147483647", math.MinInt32: "-2147483648",
		math.MaxInt: strconv.FormatInt(math.MaxInt, 10), math.MinInt: strconv.FormatInt(math.MinInt, 10),
	} {
		if got := Decimal(n); got != want {
			t.Errorf("Decimal(%d) = %q, want %q", n, got, want)
		}
		if got, ok := Whole(want); got != n || !ok {
			t.Errorf("Whole(%q) = %d, %v", want, got, ok)
		}
	}
}

func TestWholeRefuses(t *testing.T) { // 2.4
	for _, s := range []string{
		"", "-", "+", "+1", "-0", "+0", "00", "007", "-007", "01", "--1", "1-", " 1", "1 ", "1\n", "\x001",
		"1_000", "0x1", "0b1", "1e3", "1.0", "1.", "a", "1a", "٣", "−1",
		"9223372036854775808", "-9223372036854775809", "18446744073709551616", "99999999999999999999",
		"00000000000000000001", strings.Repeat("0", 1<<20), "1" + strings.Repeat("0", 1<<20), strings.Repeat("9", 21),
	} {
		if n, ok := Whole(s); n != 0 || ok {
			t.Errorf("Whole(%.30q) = %d, %v", s, n, ok)
		}
	}
}

func TestWholeIsInverse(t *testing.T) { // 2.4
	numbers := map[string]int{}
	for n := -9999; n <= 9999; n++ {
		numbers[strconv.Itoa(n)] = n
	}
	for _, s := range over("-019+", 4) {
		want, fine := numbers[s]
		if got, ok := Whole(s); ok != fine || got != want {
			t.Errorf("Whole(%q) = %d, %v; want %d, %v", s, got, ok, want, fine)
		}
	}
	for shift := range strconv.IntSize - 1 {
		for _, n := range []int{1<<shift - 1, 1 << shift, -1 << shift, -1<<shift - 1} {
			if got, ok := Whole(Decimal(n)); got != n || !ok {
				t.Errorf("Whole(Decimal(%d)) = %d, %v", n, got, ok)
			}
		}
	}
}
