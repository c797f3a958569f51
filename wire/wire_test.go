package wire_test

import (
	"math"
	"slices"
	"strconv"
	"strings"
	"testing"

	"kerbside/wire"
)

// kind is one of the five kinds of values: again reads one and returns its encoding, none reads one and reports whether there was nothing.
type kind struct {
	name  string
	again func(r *wire.Reader) string
	none  func(r *wire.Reader) bool
}

func kinds() []kind {
	return []kind{
		{"Num", func(r *wire.Reader) string { return wire.Num(r.Num()) }, func(r *wire.Reader) bool { return r.Num() == 0 }},
		{"Int", func(r *wire.Reader) string { return wire.Int(r.Int()) }, func(r *wire.Reader) bool { return r.Int() == 0 }},
		{"Text", func(r *wire.Reader) string { return wire.Text(r.Text()) }, func(r *wire.Reader) bool { return r.Text() == "" }},
		{"Nums", func(r *wire.Reader) string { return wire.Nums(r.Nums()) }, func(r *wire.Reader) bool { return len(r.Nums()) == 0 }},
		{"Texts", func(r *wire.Reader) string { return wire.Texts(r.Texts()) }, func(r *wire.Reader) bool { return len(r.Texts()) == 0 }},
	}
}

func numbers() []int {
	l := []int{0, 1, 7, 9, 10, 99, 100, 300, math.MaxInt32, math.MaxInt32 + 1, math.MaxInt - 1, math.MaxInt}
	for n := 1; n <= math.MaxInt/10; n *= 10 {
		l = append(l, n-1, n, n+1)
	}
	return l
}

func ints() []int {
	l := []int{math.MinInt, math.MinInt + 1}
	for _, n := range numbers() {
		l = append(l, n, -n)
	}
	return l
}

func texts() []string {
	all := make([]byte, 256)
	for i := range all {
		all[i] = byte(i)
	}
	return []string{"", "a", ",", ":", "a,b", "1:a,", "0;", "-1;", "1[0;]", "]", "\x00", "\xff\xfe", "ä€", string(all), strings.Repeat("x", 9), strings.Repeat("x", 10), strings.Repeat("12;", 1000)}
}

// failed checks that a reader has failed: it is not done, and reads nothing, of no kind. It asks Done and Left first, since a further read would fail by itself.
func failed(t *testing.T, what string, r *wire.Reader) {
	t.Helper()
	for range 2 {
		if r.Done() {
			t.Errorf("%s: a failed reader is done", what)
		}
		if n := r.Left(); n != 0 {
			t.Errorf("%s: Left of a failed reader is %d", what, n)
		}
		if s := r.Rest(); s != "" {
			t.Errorf("%s: Rest of a failed reader is %q", what, s)
		}
		for _, k := range kinds() {
			if !k.none(r) {
				t.Errorf("%s: %s of a failed reader reads something", what, k.name)
			}
		}
	}
}

// refuses checks that a string does not begin with an encoding of the kind.
func refuses(t *testing.T, k kind, s string) {
	t.Helper()
	what := k.name + " of " + strconv.Quote(s)
	r := wire.Open(s)
	if !k.none(r) {
		t.Errorf("%s: reads something", what)
	}
	failed(t, what, r)
}

// P1.1

func TestWriteNum(t *testing.T) {
	for n, want := range map[int]string{0: "0;", 5: "5;", 10: "10;", 300: "300;", math.MaxInt: "9223372036854775807;", -1: "", -300: "", math.MinInt: ""} {
		if got := wire.Num(n); got != want {
			t.Errorf("Num(%d) = %q, want %q", n, got, want)
		}
	}
}

func TestWriteInt(t *testing.T) {
	for n, want := range map[int]string{0: "0;", 7: "7;", -7: "-7;", 100: "100;", -100: "-100;", math.MaxInt: "9223372036854775807;", math.MinInt: "-9223372036854775808;"} {
		if got := wire.Int(n); got != want {
			t.Errorf("Int(%d) = %q, want %q", n, got, want)
		}
	}
}

func TestWriteText(t *testing.T) {
	long := strings.Repeat("x", 1234)
	for s, want := range map[string]string{"": "0:,", "a": "1:a,", "a,b": "3:a,b,", "1:a,": "4:1:a,,", "ä€": "5:ä€,", "\xff\x00": "2:\xff\x00,", long: "1234:" + long + ","} {
		if got := wire.Text(s); got != want {
			t.Errorf("Text(%q) = %q, want %q", s, got, want)
		}
	}
}

func TestWriteLists(t *testing.T) {
	for _, c := range []struct {
		l    []int
		want string
	}{{nil, "0[]"}, {[]int{}, "0[]"}, {[]int{0}, "1[0;]"}, {[]int{1, -1}, "2[1;-1;]"}, {[]int{3, 2, 3}, "3[3;2;3;]"}, {[]int{math.MinInt}, "1[-9223372036854775808;]"}, {make([]int, 12), "12[" + strings.Repeat("0;", 12) + "]"}} {
		if got := wire.Nums(c.l); got != c.want {
			t.Errorf("Nums(%d) = %q, want %q", c.l, got, c.want)
		}
	}
	for _, c := range []struct {
		l    []string
		want string
	}{{nil, "0[]"}, {[]string{}, "0[]"}, {[]string{""}, "1[0:,]"}, {[]string{"", "x"}, "2[0:,1:x,]"}, {[]string{"1[0:,]", "]"}, "2[6:1[0:,],1:],]"}, {make([]string, 10), "10[" + strings.Repeat("0:,", 10) + "]"}} {
		if got := wire.Texts(c.l); got != c.want {
			t.Errorf("Texts(%q) = %q, want %q", c.l, got, c.want)
		}
	}
}

// P1.2

func TestReadInOrder(t *testing.T) {
	const s = "12;-12;3:a,b,2[1;-1;]2[0:,1:],]0[]0[]0:,0;x"
	r := wire.Open(s)
	left := len(s)
	step := func(what string, right bool, size int) {
		t.Helper()
		left -= size
		if !right || r.Left() != left || r.Done() {
			t.Errorf("%s: right %t, Left %d, want %d, Done %t", what, right, r.Left(), left, r.Done())
		}
	}
	step("nothing yet", true, 0)
	step("number", r.Num() == 12, 3)
	step("int", r.Int() == -12, 4)
	step("string", r.Text() == "a,b", 6)
	step("ints", slices.Equal(r.Nums(), []int{1, -1}), 8)
	step("strings", slices.Equal(r.Texts(), []string{"", "]"}), 10)
	step("no ints", len(r.Nums()) == 0, 3)
	step("no strings", len(r.Texts()) == 0, 3)
	step("empty string", r.Text() == "", 3)
	step("zero", r.Int() == 0, 2)
	if r.Num() != 0 {
		t.Error("x is no number")
	}
	failed(t, "after x", r)
}

func TestReadLimits(t *testing.T) {
	r := wire.Open("9223372036854775807;9223372036854775807;-9223372036854775807;-9223372036854775808;1[-9223372036854775808;]")
	if r.Num() != math.MaxInt || r.Int() != math.MaxInt || r.Int() != -math.MaxInt || r.Int() != math.MinInt || !slices.Equal(r.Nums(), []int{math.MinInt}) || !r.Done() {
		t.Error("the least and the greatest ints are not read")
	}
}

func TestRefuseNumbers(t *testing.T) {
	both := []string{"", ";", "1", "12", "1,", "1:", "x", "x1;", "1x;", "1 ;", " 1;", "+1;", "--1;", "-;", "-", "- 1;", "1-;", "-0;", "-00;", "-01;", "00;", "01;", "007;", "0x1;", "1_0;", "1e3;", "1.0;", "1\x00;", "٣;", "9223372036854775808;", "9223372036854775810;", "9223372036854775816;", "9999999999999999999;", "10000000000000000000;", "18446744073709551615;", "18446744073709551616;", "18446744073709551617;", "36893488147419103232;", "-9223372036854775809;", "-9223372036854775810;", "-18446744073709551616;", "-18446744073709551617;", "09223372036854775807;", strings.Repeat("0", 30) + ";", "1" + strings.Repeat("0", 1000) + ";", "0:,", "0[]"}
	for _, k := range kinds()[:2] {
		for _, s := range both {
			refuses(t, k, s)
		}
	}
	for _, s := range []string{"-1;", "-7;", "-9223372036854775808;"} {
		refuses(t, kinds()[0], s)
	}
}

func TestRefuseText(t *testing.T) {
	for _, s := range []string{"", ":", ",", ":,", "0", "0:", "0,", "0;", "0[", "0[]", "1:", "1:a", "1:,", "1:a;", "1:ab,", "2:a,", "2:a", "3:a,", "00:,", "01:a,", "-0:,", "-1:a,", "+1:a,", " 1:a,", "1 :a,", "a:a,", "1;a,", "1[a,", "9223372036854775807:a,", "9223372036854775806:a,", "9223372036854775808:a,", "18446744073709551616:,", "18446744073709551617:a,", "-18446744073709551615:a,"} {
		refuses(t, kinds()[2], s)
	}
}

func TestRefuseLists(t *testing.T) {
	for _, k := range kinds()[3:] {
		for _, s := range []string{"", "[", "[]", "]", "0", "0[", "0]", "0[[", "0[}", "0[0;]", "0[0:,]", "00[]", "-0[]", "-1[]", "+0[]", " 0[]", "0;", "0:,", "0:]", "1[]", "1[", "1", "1[;]", "1[,]", "9223372036854775807[]", "9223372036854775808[]", "18446744073709551616[]", "18446744073709551617[0;]", "18446744073709551617[0:,]"} {
			refuses(t, k, s)
		}
	}
	for _, s := range []string{"1[1;", "1[1;,", "1[1]", "1[1,]", "1[01;]", "1[-0;]", "1[9223372036854775808;]", "1[1;2;]", "2[1;]", "2[1;2]", "2[1;x;]", "2[1;2;;]", "01[1;]", "-1[1;]", "1:1;]", "1[0:,]", "9223372036854775807[1;]"} {
		refuses(t, kinds()[3], s)
	}
	for _, s := range []string{"1[0:,", "1[0:]", "1[0:,,", "1[1:,]", "1[2:a,]", "1[00:,]", "1[0:,0:,]", "2[0:,]", "2[0:,1:a]", "2[0:,-1:a,]", "01[0:,]", "1[1;]", "1[9223372036854775807:a,]", "9223372036854775807[0:,]"} {
		refuses(t, kinds()[4], s)
	}
}

func TestFailureStays(t *testing.T) {
	const good = "1;1;1:a,1[1;]1[1:a,]"
	for _, k := range kinds() {
		for _, bad := range []string{"x", "01;", "-0;", "1[x", "1:a;"} {
			r := wire.Open("5;" + bad + good)
			if r.Num() != 5 || !k.none(r) {
				t.Errorf("%s of %q reads something", k.name, bad)
			}
			failed(t, k.name+" of "+strconv.Quote(bad), r)
		}
	}
}

func TestListFailsWhole(t *testing.T) {
	r := wire.Open("3[1;2;x;]7;")
	if l := r.Nums(); len(l) != 0 {
		t.Errorf("elements %d of a list whose last one is none", l)
	}
	failed(t, "ints", r)
	r = wire.Open("2[1:a,1:b;]7;")
	if l := r.Texts(); len(l) != 0 {
		t.Errorf("elements %q of a list whose last one is none", l)
	}
	failed(t, "strings", r)
}

func TestRestLeftDone(t *testing.T) {
	r := wire.Open("1;ab;")
	if r.Num() != 1 || r.Left() != 3 || r.Done() || r.Rest() != "ab;" || r.Left() != 0 || !r.Done() || r.Rest() != "" || !r.Done() {
		t.Error("the rest after a number")
	}
	if r.Num() != 0 || r.Done() {
		t.Error("a number at the end")
	}
	failed(t, "at the end", r)
	r = wire.Open("")
	if !r.Done() || r.Left() != 0 || r.Rest() != "" || !r.Done() {
		t.Error("the empty string")
	}
	r = wire.Open("\x00\xff")
	if r.Done() || r.Left() != 2 || r.Rest() != "\x00\xff" || !r.Done() {
		t.Error("the rest before anything is read")
	}
	r = wire.Open("007;")
	if r.Num() != 0 || r.Left() != 0 || r.Done() {
		t.Error("the example of the chapter")
	}
}

func TestReadersAreApart(t *testing.T) {
	const s = "1;2;"
	a, b := wire.Open(s), wire.Open(s)
	if a.Num() != 1 || a.Text() != "" || b.Num() != 1 || b.Num() != 2 || !b.Done() || a.Done() {
		t.Error("two readers of one string disturb each other")
	}
}

// P1.3

func TestArgumentsStay(t *testing.T) {
	n := []int{1, -2, 3, 4}
	if wire.Nums(n[:2]) != "2[1;-2;]" || !slices.Equal(n, []int{1, -2, 3, 4}) {
		t.Errorf("Nums left %d", n)
	}
	s := []string{"a", "", "c", "d"}
	if wire.Texts(s[:2]) != "2[1:a,0:,]" || !slices.Equal(s, []string{"a", "", "c", "d"}) {
		t.Errorf("Texts left %q", s)
	}
}

func TestResultsAreFresh(t *testing.T) {
	const s = "2[1;2;]2[1;2;]2[1:a,1:b,]2[1:a,1:b,]"
	r := wire.Open(s)
	a, b := r.Nums(), r.Nums()
	c, d := r.Texts(), r.Texts()
	a[0], c[0] = 9, "z"
	_, _ = append(a, 8), append(c, "y")
	if !slices.Equal(b, []int{1, 2}) || !slices.Equal(d, []string{"a", "b"}) {
		t.Errorf("results share memory: %d, %q", b, d)
	}
	if again := wire.Open(s); !slices.Equal(again.Nums(), []int{1, 2}) || !slices.Equal(again.Nums(), []int{1, 2}) {
		t.Error("a change of a result is seen by a later reader")
	}
	l := []string{"a", "b"}
	text := wire.Texts(l)
	l[0] = "z"
	if text != "2[1:a,1:b,]" {
		t.Errorf("a later change of the argument is seen: %q", text)
	}
}

// P1.4

func TestReadingInvertsWriting(t *testing.T) {
	for _, n := range numbers() {
		if r := wire.Open(wire.Num(n)); r.Num() != n || !r.Done() {
			t.Errorf("number %d", n)
		}
	}
	for _, n := range ints() {
		if r := wire.Open(wire.Int(n)); r.Int() != n || !r.Done() {
			t.Errorf("int %d", n)
		}
	}
	for _, s := range texts() {
		if r := wire.Open(wire.Text(s)); r.Text() != s || !r.Done() {
			t.Errorf("string %q", s)
		}
	}
	for i := range ints() {
		if r := wire.Open(wire.Nums(ints()[:i])); !slices.Equal(r.Nums(), ints()[:i]) || !r.Done() {
			t.Errorf("the first %d ints", i)
		}
	}
	for i := range texts() {
		if r := wire.Open(wire.Texts(texts()[:i])); !slices.Equal(r.Texts(), texts()[:i]) || !r.Done() {
			t.Errorf("the first %d strings", i)
		}
	}
}

// canonical checks one read of s: what is read has exactly the bytes that were read as its encoding, and a failure reads nothing. It reports whether s as a whole is an encoding.
func canonical(t *testing.T, k kind, s string) bool {
	t.Helper()
	r := wire.Open(s)
	again := k.again(r)
	if r.Left() > 0 || r.Done() {
		if read := s[:len(s)-r.Left()]; again != read {
			t.Errorf("%s reads %q as the value of %q", k.name, read, again)
		}
		return r.Done()
	}
	if zero := (map[string]string{"Num": "0;", "Int": "0;", "Text": "0:,", "Nums": "0[]", "Texts": "0[]"})[k.name]; again != zero {
		t.Errorf("%s fails at %q and reads the value of %q", k.name, s, again)
	}
	return false
}

// each calls f with every string that is s and at most size bytes of the alphabet after it.
func each(s, alphabet string, size int, f func(string)) {
	f(s)
	if size == 0 {
		return
	}
	for i := range len(alphabet) {
		each(s+alphabet[i:i+1], alphabet, size-1, f)
	}
}

func TestOneEncodingEach(t *testing.T) {
	for _, k := range kinds() {
		found := map[string]bool{}
		check := func(s string) {
			if canonical(t, k, s) {
				found[s] = true
			}
		}
		each("", "-0129;:,[]a", 4, check)
		each("", "-012;[]", 6, check)
		each("", "012:,[]", 6, check)
		each("2[", "-01:;,]", 5, check)
		each("2[0:,", "012:,;]", 5, check)
		for s := range found {
			for i := range s {
				if found[s[:i]] {
					t.Errorf("%s: %q is a prefix of %q", k.name, s[:i], s)
				}
			}
		}
		if len(found) < 4 {
			t.Errorf("%s: only %d encodings found", k.name, len(found))
		}
	}
}

func TestSpoiledEncodings(t *testing.T) {
	good := []string{wire.Num(math.MaxInt), wire.Int(math.MinInt), wire.Num(1234567890123456789), wire.Text("1:a,0;"), wire.Text("0123456789"), wire.Nums([]int{-10, 0, 9, math.MinInt}), wire.Texts([]string{"", "a,", "1[0;]"}), wire.Nums(make([]int, 11))}
	for _, k := range kinds() {
		for _, s := range good {
			for i := range s {
				canonical(t, k, s[:i])
				canonical(t, k, s[:i]+s[i+1:])
				for _, b := range "-0189;:,[]x" {
					canonical(t, k, s[:i]+string(b)+s[i:])
					canonical(t, k, s[:i]+string(b)+s[i+1:])
				}
			}
		}
	}
}

// P1.5

func TestConcatenated(t *testing.T) {
	var b strings.Builder
	for _, s := range texts() {
		b.WriteString(wire.Text(s))
		b.WriteString(wire.Texts([]string{s, s}))
		b.WriteString(wire.Nums([]int{len(s), -len(s)}))
	}
	r := wire.Open(b.String())
	for _, s := range texts() {
		if r.Text() != s || !slices.Equal(r.Texts(), []string{s, s}) || !slices.Equal(r.Nums(), []int{len(s), -len(s)}) {
			t.Errorf("after others: %q", s)
		}
	}
	if !r.Done() {
		t.Errorf("%d bytes are left", r.Left())
	}
}

func TestNested(t *testing.T) {
	for _, inner := range texts() {
		s := inner
		for range 20 {
			s = wire.Texts([]string{wire.Text(s), wire.Nums([]int{len(s)})})
		}
		for range 20 {
			r := wire.Open(s)
			l := r.Texts()
			if len(l) != 2 || !r.Done() {
				t.Fatalf("%q: a nested list is not read", inner)
			}
			head, tail := wire.Open(l[0]), wire.Open(l[1])
			s = head.Text()
			if !head.Done() || !slices.Equal(tail.Nums(), []int{len(s)}) || !tail.Done() {
				t.Fatalf("%q: the parts of a nested list are not read", inner)
			}
		}
		if s != inner {
			t.Errorf("%q comes back as %q", inner, s)
		}
	}
}

func TestLongLists(t *testing.T) {
	n, s := make([]int, 100000), make([]string, 100000)
	for i := range n {
		n[i], s[i] = i*i-i<<20, strings.Repeat(":", i%7)
	}
	r := wire.Open(wire.Nums(n) + wire.Texts(s))
	if !slices.Equal(r.Nums(), n) || !slices.Equal(r.Texts(), s) || !r.Done() {
		t.Error("long lists are not read")
	}
}
