package wire

import (
	"bytes"
	"math"
	"slices"
	"strings"
	"testing"

	"tendril/api"
)

// The calls keep the signatures that the chapter lists.
var (
	_ func() *Writer                                = New
	_ func(*Writer, ...uint64)                      = (*Writer).Num
	_ func(*Writer, ...string)                      = (*Writer).Text
	_ func(*Writer) []byte                          = (*Writer).Bytes
	_ func(*Writer) int                             = (*Writer).Len
	_ func([]byte) *Reader                          = Read
	_ func(*Reader, uint64) (uint64, api.Errno)     = (*Reader).Num
	_ func(r *Reader, most int) (string, api.Errno) = (*Reader).Text
	_ func(*Reader) api.Errno                       = (*Reader).End
	_ func(*Reader) int                             = (*Reader).Left
)

// number is the encoding of n, made by division.
func number(n uint64) []byte {
	if n < 128 {
		return []byte{byte(n)}
	}
	return append([]byte{byte(n%128) + 128}, number(n/128)...)
}

// numbers are those at which an encoding grows, and others.
func numbers() []uint64 {
	out := []uint64{0, 1, 300, math.MaxUint32, math.MaxInt64, math.MaxUint64}
	for shift := 7; shift < 64; shift += 7 {
		out = append(out, 1<<shift-1, 1<<shift)
	}
	return out
}

// strs are strings at whose lengths an encoding grows, and others.
func strs() []string {
	out := []string{"", "a", "ab", "\x00", "\xff\x80", "a b\n", "\u20ac"}
	for _, n := range []int{127, 128, 300, 16383, 16384, api.MaxText, api.MaxText + 1} {
		out = append(out, strings.Repeat("x", n-1)+"y")
	}
	return out
}

func checkWritten(t *testing.T, w *Writer, want []byte) {
	t.Helper()
	if got := w.Bytes(); !bytes.Equal(got, want) {
		t.Errorf("written: %d bytes, want %d, or other ones", len(got), len(want))
	}
	if w.Len() != len(want) {
		t.Errorf("Len() = %d, want %d", w.Len(), len(want))
	}
}

func TestNewHasWrittenNothing(t *testing.T) { // 4.1
	w := New()
	checkWritten(t, w, nil)
	w.Num()
	w.Text()
	checkWritten(t, w, nil)
	w.Num(7)
	checkWritten(t, New(), nil)
	checkWritten(t, w, []byte{7})
}

func TestWriterExample(t *testing.T) { // 4.1
	w := New()
	w.Num(300)
	w.Text("ab")
	checkWritten(t, w, []byte{172, 2, 2, 97, 98})
	w.Text("", "c")
	w.Num(0, 128)
	checkWritten(t, w, []byte{172, 2, 2, 97, 98, 0, 1, 99, 0, 128, 1})
}

func TestWriterAppends(t *testing.T) { // 4.1
	w := New()
	var want []byte
	for _, n := range numbers() {
		w.Num(n)
		want = append(want, number(n)...)
		checkWritten(t, w, want)
	}
	for _, s := range strs() {
		w.Text(s)
		want = append(append(want, number(uint64(len(s)))...), s...)
		checkWritten(t, w, want)
	}
	w.Num(numbers()...)
	for _, n := range numbers() {
		want = append(want, number(n)...)
	}
	checkWritten(t, w, want)
	w.Text(strs()...)
	for _, s := range strs() {
		want = append(append(want, number(uint64(len(s)))...), s...)
	}
	checkWritten(t, w, want)
}

func TestNilWriter(t *testing.T) { // 4.1
	var w *Writer
	w.Num(1, 2)
	w.Text("a", "b")
	w.Num()
	w.Text()
	checkWritten(t, w, nil)
}

func TestBytesIsACopy(t *testing.T) { // 4.1, R4
	w := New()
	w.Num(1, 2, 3)
	first := w.Bytes()
	second := w.Bytes()
	clear(first[:cap(first)])
	_ = append(first[:1], 9, 9, 9, 9, 9)
	if !bytes.Equal(second, []byte{1, 2, 3}) {
		t.Errorf("one result hangs on the other: %v", second)
	}
	checkWritten(t, w, []byte{1, 2, 3})
	w.Num(4)
	if !bytes.Equal(second, []byte{1, 2, 3}) {
		t.Errorf("a result changed when more was written: %v", second)
	}
	_ = append(second, 8)
	w.Text("z")
	checkWritten(t, w, []byte{1, 2, 3, 4, 1, 'z'})
}

func TestWriterLeavesArguments(t *testing.T) { // R4
	n := []uint64{1, 300, 5, 6}
	l := []string{"a", "b", "c"}
	w := New()
	w.Num(n[:2]...)
	w.Text(l[:2]...)
	if !slices.Equal(n, []uint64{1, 300, 5, 6}) || !slices.Equal(l, []string{"a", "b", "c"}) {
		t.Error("an argument changed")
	}
	clear(n)
	clear(l)
	checkWritten(t, w, []byte{1, 172, 2, 1, 'a', 1, 'b'})
}

func TestReaderNum(t *testing.T) { // 4.2
	for _, n := range numbers() {
		for _, most := range append(numbers(), n, n+1, n-1) {
			r := Read(append(number(n), 255, 9))
			got, err := r.Num(most)
			if n <= most {
				if got != n || err != api.OK || r.Left() != 2 || r.End() != api.ErrForm {
					t.Errorf("Num(%d) of %d = %d, %d, then %d left", most, n, got, err, r.Left())
				}
				continue
			}
			if got != 0 || err != api.ErrRange || r.Left() != len(number(n))+2 || r.End() != api.ErrRange {
				t.Errorf("Num(%d) of %d = %d, %d, then %d left", most, n, got, err, r.Left())
			}
		}
	}
}

func TestReaderText(t *testing.T) { // 4.2
	for _, s := range strs() {
		n := len(s)
		for _, most := range []int{n, n + 1, math.MaxInt, n - 1, 0, -1, math.MinInt} {
			b := append(append(number(uint64(n)), s...), 1, 'q')
			r := Read(b)
			got, err := r.Text(most)
			if n <= most {
				if got != s || err != api.OK || r.Left() != 2 {
					t.Errorf("Text(%d) of %d bytes = %d bytes, %d, then %d left", most, n, len(got), err, r.Left())
				}
				if next, err := r.Text(1); next != "q" || err != api.OK || r.Left() != 0 || r.End() != api.OK {
					t.Errorf("behind %d bytes: %q, %d", n, next, err)
				}
				continue
			}
			if got != "" || err != api.ErrLong || r.Left() != len(b) || r.End() != api.ErrLong {
				t.Errorf("Text(%d) of %d bytes = %d bytes, %d, then %d left", most, n, len(got), err, r.Left())
			}
		}
	}
}

// refusal is a way to make a reader of b fail with err.
type refusal struct {
	name string
	b    []byte
	call func(r *Reader) (bool, api.Errno) // whether the other result is zero, and the error
	err  api.Errno
}

func numOf(most uint64) func(r *Reader) (bool, api.Errno) {
	return func(r *Reader) (bool, api.Errno) {
		n, err := r.Num(most)
		return n == 0, err
	}
}

func textOf(most int) func(r *Reader) (bool, api.Errno) {
	return func(r *Reader) (bool, api.Errno) {
		s, err := r.Text(most)
		return s == "", err
	}
}

func refusals() []refusal {
	endless := bytes.Repeat([]byte{128}, 10)
	tooGreat := append(bytes.Repeat([]byte{255}, 9), 2)
	all := number(math.MaxUint64)
	half := number(math.MaxInt64)
	return []refusal{
		{"Num of nothing", nil, numOf(9), api.ErrShort},
		{"Num cut off", []byte{200, 128}, numOf(9), api.ErrShort},
		{"Num endless", append(endless, 1), numOf(9), api.ErrLong},
		{"Num too great", append(tooGreat, 1), numOf(9), api.ErrRange},
		{"Num longer than need be", []byte{129, 0, 1}, numOf(0), api.ErrForm},
		{"Num above most", []byte{5, 1}, numOf(4), api.ErrRange},
		{"Num above 0", []byte{1}, numOf(0), api.ErrRange},
		{"Num just above most", all, numOf(math.MaxUint64 - 1), api.ErrRange},
		{"Text of nothing", nil, textOf(9), api.ErrShort},
		{"Text of nothing, most negative", nil, textOf(-1), api.ErrShort},
		{"Text's length cut off", []byte{200}, textOf(-1), api.ErrShort},
		{"Text's length endless", endless, textOf(9), api.ErrLong},
		{"Text's length too great", append(tooGreat, 1), textOf(9), api.ErrRange},
		{"Text's length longer than need be", []byte{129, 0, 1}, textOf(0), api.ErrForm},
		{"Text longer than most", []byte{3, 'a', 'b', 'c'}, textOf(2), api.ErrLong},
		{"Text longer than most, and cut off", []byte{3, 'a'}, textOf(2), api.ErrLong},
		{"Text cut off", []byte{3, 'a', 'b'}, textOf(3), api.ErrShort},
		{"Text without bytes", []byte{1}, textOf(3), api.ErrShort},
		{"empty Text, most negative", []byte{0}, textOf(-1), api.ErrLong},
		{"empty Text, most least", []byte{0}, textOf(math.MinInt), api.ErrLong},
		{"Text of 2^64 - 1", append(all, 'a'), textOf(math.MaxInt), api.ErrLong},
		{"Text of 2^64 - 1, most negative", append(all, 'a'), textOf(-1), api.ErrLong},
		{"Text of 2^63", append(number(1<<63), 'a'), textOf(math.MaxInt), api.ErrLong},
		{"Text of 2^63 - 1", append(half, 'a'), textOf(math.MaxInt), api.ErrShort},
	}
}

func TestReaderRefuses(t *testing.T) { // 4.2
	for _, c := range refusals() {
		r := Read(c.b)
		if zero, err := c.call(r); !zero || err != c.err || r.Left() != len(c.b) {
			t.Errorf("%s: %d with %d left, want %d with %d left", c.name, err, r.Left(), c.err, len(c.b))
		}
	}
}

func TestReaderRefusesBehindOthers(t *testing.T) { // 4.2
	for _, c := range refusals() {
		r := Read(append([]byte{7, 2, 'h', 'i', 0}, c.b...))
		if n, err := r.Num(7); n != 7 || err != api.OK {
			t.Errorf("%s: Num = %d, %d", c.name, n, err)
		}
		if s, err := r.Text(2); s != "hi" || err != api.OK {
			t.Errorf("%s: Text = %q, %d", c.name, s, err)
		}
		if s, err := r.Text(0); s != "" || err != api.OK {
			t.Errorf("%s: Text = %q, %d", c.name, s, err)
		}
		if zero, err := c.call(r); !zero || err != c.err || r.Left() != len(c.b) {
			t.Errorf("%s: %d with %d left, want %d with %d left", c.name, err, r.Left(), c.err, len(c.b))
		}
	}
}

func TestReaderKeepsItsError(t *testing.T) { // 4.2
	for _, first := range refusals() {
		for _, next := range append(refusals(), refusal{call: numOf(math.MaxUint64)}, refusal{call: textOf(math.MaxInt)}) {
			r := Read(first.b)
			first.call(r)
			for range 2 {
				if zero, err := next.call(r); !zero || err != first.err {
					t.Errorf("%s, then %s: %d, want %d", first.name, next.name, err, first.err)
				}
				if err := r.End(); err != first.err {
					t.Errorf("%s, then End: %d, want %d", first.name, err, first.err)
				}
				if r.Left() != len(first.b) {
					t.Errorf("%s, then %s: %d left", first.name, next.name, r.Left())
				}
			}
		}
	}
}

func TestEndIsNotKept(t *testing.T) { // 4.2
	r := Read([]byte{5, 1, 'a', 6})
	steps := []struct {
		call func(r *Reader) (bool, api.Errno)
		left int
		end  api.Errno
	}{
		{numOf(5), 3, api.ErrForm},
		{textOf(1), 1, api.ErrForm},
		{numOf(6), 0, api.OK},
	}
	if r.End() != api.ErrForm || r.End() != api.ErrForm || r.Left() != 4 {
		t.Error("End before anything was read")
	}
	for i, s := range steps {
		if _, err := s.call(r); err != api.OK || r.Left() != s.left || r.End() != s.end {
			t.Errorf("step %d: %d, %d left, End %d", i, err, r.Left(), r.End())
		}
	}
	if _, err := r.Num(9); err != api.ErrShort || r.End() != api.ErrShort {
		t.Errorf("behind the end: %d, %d", err, r.End())
	}
}

func TestEndOfNothing(t *testing.T) { // 4.2
	for _, b := range [][]byte{nil, {}} {
		if r := Read(b); r.End() != api.OK || r.Left() != 0 {
			t.Errorf("End() = %d, Left() = %d", r.End(), r.Left())
		}
	}
}

func TestNilReader(t *testing.T) { // 4.2
	var r *Reader
	if n, err := r.Num(9); n != 0 || err != api.ErrNil {
		t.Errorf("Num = %d, %d", n, err)
	}
	for _, most := range []int{9, 0, -1} {
		if s, err := r.Text(most); s != "" || err != api.ErrNil {
			t.Errorf("Text = %q, %d", s, err)
		}
	}
	if r.End() != api.ErrNil || r.Left() != 0 {
		t.Errorf("End = %d, Left = %d", r.End(), r.Left())
	}
}

func TestReaderLeavesItsBytes(t *testing.T) { // R4
	b := append(make([]byte, 0, 64), 5, 2, 'a', 'b', 6)
	was := bytes.Clone(b[:cap(b)])
	r, other := Read(b), Read(b)
	r.Num(9)
	if !bytes.Equal(b[:cap(b)], was) {
		t.Error("the argument changed")
	}
	for i := range b {
		b[i] = 255
	}
	if s, err := r.Text(2); s != "ab" || err != api.OK {
		t.Errorf("the argument was retained: %q, %d", s, err)
	}
	if n, err := other.Num(9); n != 5 || err != api.OK || other.Left() != 4 || r.Left() != 1 {
		t.Errorf("another reader of the same bytes: %d, %d", n, err)
	}
}

func TestWrittenIsReadBack(t *testing.T) { // 4.3
	ns, ss := numbers(), strs()
	w := New()
	for i := range 200 {
		w.Num(ns[i%len(ns)], ns[i*7%len(ns)])
		w.Text(ss[i%len(ss)])
		w.Text()
		w.Text(ss[i*5%len(ss)], "")
	}
	r := Read(w.Bytes())
	for i := range 200 {
		for _, want := range []uint64{ns[i%len(ns)], ns[i*7%len(ns)]} {
			if n, err := r.Num(want); n != want || err != api.OK {
				t.Fatalf("round %d: Num = %d, %d, want %d", i, n, err, want)
			}
		}
		for _, want := range []string{ss[i%len(ss)], ss[i*5%len(ss)], ""} {
			if s, err := r.Text(len(want)); s != want || err != api.OK {
				t.Fatalf("round %d: Text = %d bytes, %d, want %d bytes", i, len(s), err, len(want))
			}
		}
	}
	if r.End() != api.OK || r.Left() != 0 {
		t.Errorf("afterwards: %d, %d left", r.End(), r.Left())
	}
}

func TestNoPrefixIsReadBack(t *testing.T) { // 4.3
	w := New()
	w.Num(300)
	w.Text("abc")
	w.Num(128)
	all := w.Bytes()
	for cut := range len(all) {
		r := Read(all[:cut])
		r.Num(300)
		r.Text(3)
		r.Num(128)
		if r.End() != api.ErrShort {
			t.Errorf("the first %d bytes: %d", cut, r.End())
		}
	}
}
