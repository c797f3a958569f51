package lexer_test

import (
	"math"
	"slices"
	"strconv"
	"strings"
	"testing"

	"kerbside/api"
	"kerbside/lexer"
)

func name(text string, pos int) api.Token {
	return api.Token{Kind: api.TkName, Text: text, Pos: pos}
}

func number(text string, n, pos int) api.Token {
	return api.Token{Kind: api.TkNumber, Text: text, N: n, Pos: pos}
}

func quoted(value string, pos int) api.Token {
	return api.Token{Kind: api.TkString, Text: value, Pos: pos}
}

func sign(text string, pos int) api.Token {
	return api.Token{Kind: api.TkSign, Text: text, Pos: pos}
}

// short returns a text for a message.
func short(s string) string {
	if len(s) > 80 {
		return strconv.Quote(s[:60]) + " .. " + strconv.Quote(s[len(s)-10:]) + " (" + strconv.Itoa(len(s)) + " bytes)"
	}
	return strconv.Quote(s)
}

// has checks that a text has exactly these tokens.
func has(t *testing.T, s string, want ...api.Token) {
	t.Helper()
	if l, at, e := lexer.Scan(s); !slices.Equal(l, want) || at != 0 || e != api.OK {
		t.Errorf("Scan of %s is %v, %d, error %d, want %v", short(s), l, at, e, want)
	}
}

// fails checks that a text has an error at an offset.
func fails(t *testing.T, s string, at int, e api.Errno) {
	t.Helper()
	if l, gotAt, gotE := lexer.Scan(s); len(l) != 0 || gotAt != at || gotE != e {
		t.Errorf("Scan of %s is %v, %d, error %d, want error %d at %d", short(s), l, gotAt, gotE, e, at)
	}
}

// signs are the bytes that are signs.
const signs = "(),;:=<+-*/{}"

// others are the bytes that are neither blanks, nor begin a token or a comment.
func others() []byte {
	var l []byte
	for i := range 256 {
		b := byte(i)
		letter := strings.IndexByte("abcdefghijklmnopqrstuvwxyzABCDEFGHIJKLMNOPQRSTUVWXYZ", b) >= 0
		if !letter && strings.IndexByte("0123456789\t\n #\""+signs, b) < 0 {
			l = append(l, b)
		}
	}
	return l
}

// The chapter's examples.

func TestExamples(t *testing.T) {
	has(t, `a1 = "x\"y"; # z`, name("a1", 0), sign("=", 3), quoted(`x"y`, 5), sign(";", 11))
	fails(t, "x 007", 2, api.ErrRange)
	fails(t, "a > b", 2, api.ErrToken)
	fails(t, `"ab`, 0, api.ErrForm)
	l, _, _ := lexer.Scan(`f(2,"a")`)
	if got := lexer.Print(l); got != `f ( 2 , "a" )` {
		t.Errorf("Print is %q", got)
	}
	if !lexer.Name("a_1") || lexer.Name("1a") {
		t.Error("Name of a_1 and 1a")
	}
	if n, is := lexer.Number("12"); n != 12 || !is {
		t.Errorf("Number of 12 is %d, %t", n, is)
	}
	if n, is := lexer.Number("012"); n != 0 || is {
		t.Errorf("Number of 012 is %d, %t", n, is)
	}
}

// P6.1

func TestNoTokens(t *testing.T) {
	for _, s := range []string{"", " ", "\t", "\n", " \t\n\n\t ", "#", "##", "# a", "# a\n", "#\n", "#\n#", " # \"\n\t# >\n", "#\x00\xff\r>_\"\\", strings.Repeat("\n", 4000), "#" + strings.Repeat("\"", 3999)} {
		has(t, s)
	}
}

func TestEachFirstByte(t *testing.T) {
	for _, b := range "abcdefghijklmnopqrstuvwxyzABCDEFGHIJKLMNOPQRSTUVWXYZ" {
		has(t, string(b), name(string(b), 0))
	}
	for n, b := range "0123456789" {
		has(t, string(b), number(string(b), n, 0))
	}
	for _, b := range signs {
		has(t, string(b), sign(string(b), 0))
		has(t, string(b)+string(b), sign(string(b), 0), sign(string(b), 1))
	}
	has(t, signs+signs[:1], sign("(", 0), sign(")", 1), sign(",", 2), sign(";", 3), sign(":", 4), sign("=", 5), sign("<", 6), sign("+", 7), sign("-", 8), sign("*", 9), sign("/", 10), sign("{", 11), sign("}", 12), sign("(", 13))
	has(t, `""`, quoted("", 0))
	l := others()
	if len(l) != 256-52-10-13-3-2 {
		t.Fatalf("%d other bytes", len(l))
	}
	for _, b := range l {
		s := string([]byte{b})
		fails(t, s, 0, api.ErrToken)
		fails(t, "\t "+s, 2, api.ErrToken)
		fails(t, s+"a", 0, api.ErrToken)
		fails(t, "#\n"+s, 2, api.ErrToken)
		fails(t, "+"+s, 1, api.ErrToken)
		fails(t, "\"\""+s, 2, api.ErrToken)
		if b == '_' {
			continue
		}
		fails(t, "a"+s, 1, api.ErrToken)
		fails(t, "ab_"+s+"c", 3, api.ErrToken)
	}
	for _, b := range l {
		fails(t, "12"+string([]byte{b}), 2, api.ErrToken)
	}
}

func TestBytesAfterAscii(t *testing.T) {
	fails(t, "é", 0, api.ErrToken)
	fails(t, "aé", 1, api.ErrToken)
	fails(t, "1٣", 1, api.ErrToken)
	fails(t, "\u00a0", 0, api.ErrToken)
	fails(t, "a\u2028", 1, api.ErrToken)
	fails(t, "a \xff", 2, api.ErrToken)
	fails(t, "\"é\"", 0, api.ErrForm)
	fails(t, "\"\x80\"", 0, api.ErrForm)
	has(t, "#é\na", name("a", 4))
	has(t, "#\xff\x80\na", name("a", 4))
}

func TestBlanks(t *testing.T) {
	has(t, "\ta \n1\t\t \n\n(\n", name("a", 1), number("1", 1, 4), sign("(", 10))
	for _, b := range []byte("\x00\x01\x08\x0b\x0c\r\x0e\x1f\x7f\x85\xa0") {
		fails(t, "a"+string([]byte{b})+"b", 1, api.ErrToken)
	}
	fails(t, "\r", 0, api.ErrToken)
	fails(t, "a\r\nb", 1, api.ErrToken)
}

func TestComments(t *testing.T) {
	has(t, "a#b", name("a", 0))
	has(t, "a#b\nc", name("a", 0), name("c", 4))
	has(t, "12#3\n#\n#x#y\n4 # 5", number("12", 12, 0), number("4", 4, 12))
	has(t, "# \"\na", name("a", 4))
	has(t, "# \"\n\"#\" # \"", quoted("#", 4))
	has(t, "\"a#b\"c#d\"", quoted("a#b", 0), name("c", 5))
	has(t, "#\\\na", name("a", 3))
	has(t, "# \r > _ \x00 \xff 007\n+", sign("+", 16))
	has(t, "+#"+strings.Repeat("x", 3998), sign("+", 0))
	fails(t, "# >\n>", 4, api.ErrToken)
	fails(t, "\"# \n\"", 0, api.ErrForm)
	fails(t, "#\n\"#", 2, api.ErrForm)
	// A byte 13 does not end a comment.
	has(t, "# a\r b\nc", name("c", 7))
}

func TestNames(t *testing.T) {
	long := "abcdefghij_123456789"
	has(t, long, name(long, 0))
	has(t, "a_ A1b__2 z9Z", name("a_", 0), name("A1b__2", 3), name("z9Z", 10))
	has(t, long+" "+long+"+"+long, name(long, 0), name(long, 21), sign("+", 41), name(long, 42))
	has(t, "a\"\"b(c", name("a", 0), quoted("", 1), name("b", 3), sign("(", 4), name("c", 5))
	fails(t, long+"0", 0, api.ErrRange)
	fails(t, "a "+long+"_ >", 2, api.ErrRange)
	fails(t, "1"+strings.Repeat("Z", 21), 1, api.ErrRange)
	fails(t, strings.Repeat("a", 4000), 0, api.ErrRange)
	fails(t, "_a", 0, api.ErrToken)
	fails(t, "+_", 1, api.ErrToken)
}

func TestNumbers(t *testing.T) {
	const most = "1099511627776"
	has(t, "0", number("0", 0, 0))
	has(t, "0 0", number("0", 0, 0), number("0", 0, 2))
	has(t, most, number(most, 1<<40, 0))
	has(t, " 10 9 1099511627775", number("10", 10, 1), number("9", 9, 4), number("1099511627775", 1<<40-1, 6))
	has(t, "12a3", number("12", 12, 0), name("a3", 2))
	has(t, "0a", number("0", 0, 0), name("a", 1))
	has(t, "0x10", number("0", 0, 0), name("x10", 1))
	has(t, "1e5", number("1", 1, 0), name("e5", 1))
	has(t, "-1", sign("-", 0), number("1", 1, 1))
	has(t, "+0-5", sign("+", 0), number("0", 0, 1), sign("-", 2), number("5", 5, 3))
	for _, s := range []string{"00", "01", "007", "000", "0" + most, "1099511627777", "1099511627780", "1099511627786", "1999999999999", "2000000000000", "9999999999999", "10000000000000", "9223372036854775807", "9223372036854775808", "18446744073709551615", "18446744073709551616", "18446744073709551617", "36893488147419103233", "340282366920938463463374607431768211457", "1" + strings.Repeat("0", 20), "1" + strings.Repeat("0", 64), strings.Repeat("9", 400), strings.Repeat("0", 4000), strings.Repeat("9", 4000)} {
		fails(t, s, 0, api.ErrRange)
	}
	fails(t, "1 00", 2, api.ErrRange)
	fails(t, "a=1099511627777;", 2, api.ErrRange)
	fails(t, "1_0", 1, api.ErrToken)
	fails(t, "1.5", 1, api.ErrToken)
	fails(t, "00_", 0, api.ErrRange)
}

// valid are the bytes that a value may have.
func valid() string {
	var l []byte
	for b := 32; b <= 126; b++ {
		l = append(l, byte(b))
	}
	return string(l)
}

func TestQuotedStrings(t *testing.T) {
	has(t, `""""`, quoted("", 0), quoted("", 2))
	has(t, `"a""b"c`, quoted("a", 0), quoted("b", 3), name("c", 6))
	has(t, `"\"" "\\" "\\\""`, quoted(`"`, 0), quoted(`\`, 5), quoted(`\"`, 10))
	has(t, `"\\"a"\""`, quoted(`\`, 0), name("a", 4), quoted(`"`, 5))
	has(t, `"\\\\n"`, quoted(`\\n`, 0))
	has(t, `"007 > # (x"`, quoted(`007 > # (x`, 0))
	has(t, `"  "`, quoted("  ", 0))
	has(t, `"12"`, quoted("12", 0))
	v := valid()
	has(t, `"`+strings.NewReplacer(`"`, `\"`, `\`, `\\`).Replace(v)+`"`, quoted(v, 0))
	for _, s := range []string{`"`, `"a`, `"a"`[:2], `"\"`, `"\\\"`, `"a\`, `"a\\`, `"\`, `"a\"b`, `"# a`, `"a` + "\n", `"a` + "\nb\""} {
		fails(t, s, 0, api.ErrForm)
		fails(t, "x "+s, 2, api.ErrForm)
		fails(t, `"" `+s, 3, api.ErrForm)
	}
	fails(t, `"a" "b`, 4, api.ErrForm)
	fails(t, `"a"b"`, 4, api.ErrForm)
	fails(t, `"" \""`, 3, api.ErrToken)
}

func TestBytesOfQuotedStrings(t *testing.T) {
	for i := range 256 {
		b := string([]byte{byte(i)})
		plain := i >= 32 && i <= 126
		switch {
		case b == `"` || b == `\`:
			has(t, `"a\`+b+`"`, quoted("a"+b, 0))
			fails(t, `"a`+b+`"`, map[string]int{`"`: 3, `\`: 0}[b], api.ErrForm)
			continue
		case plain:
			has(t, `"`+b+`"`, quoted(b, 0))
			has(t, `"a`+b+b+`c"`, quoted("a"+b+b+"c", 0))
		default:
			fails(t, `"`+b+`"`, 0, api.ErrForm)
			fails(t, `a "a`+b+`c" >`, 2, api.ErrForm)
			fails(t, `"a\\`+b+`"`, 0, api.ErrForm)
		}
		fails(t, `"\`+b+`"`, 0, api.ErrForm)
		fails(t, `1+"ab\`+b+`\""`, 2, api.ErrForm)
		fails(t, `"\`+b, 0, api.ErrForm)
	}
}

func TestLongQuotedStrings(t *testing.T) {
	for _, c := range []string{"x", " ", `"`, `\`, "#", "0"} {
		raw := strings.NewReplacer(`"`, `\"`, `\`, `\\`).Replace(c)
		for _, n := range []int{1, 199, 200, 201, 398, 399, 400} {
			has(t, `;"`+strings.Repeat(raw, n)+`"`, sign(";", 0), quoted(strings.Repeat(c, n), 1))
		}
		for _, n := range []int{401, 402, 800, 1998} {
			fails(t, `;"`+strings.Repeat(raw, n)+`"`, 1, api.ErrForm)
		}
	}
	has(t, `"`+strings.Repeat(`\"x`, 200)+`"`, quoted(strings.Repeat(`"x`, 200), 0))
	fails(t, `"`+strings.Repeat(`\\x`, 200)+`y"`, 0, api.ErrForm)
	fails(t, `"`+strings.Repeat("x", 3999), 0, api.ErrForm)
}

func TestWhichErrorComesFirst(t *testing.T) {
	long := strings.Repeat("a", 21)
	kinds := []struct {
		s string
		e api.Errno
	}{{">", api.ErrToken}, {"\r", api.ErrToken}, {"_", api.ErrToken}, {"00", api.ErrRange}, {"1099511627777", api.ErrRange}, {long, api.ErrRange}, {`"\n"`, api.ErrForm}, {`"` + strings.Repeat("x", 401) + `"`, api.ErrForm}, {"\"\x7f\"", api.ErrForm}, {`"a`, api.ErrForm}}
	for _, a := range kinds {
		for _, b := range kinds {
			fails(t, "x "+a.s+"\n"+b.s, 2, a.e)
			fails(t, "x # "+b.s+"\n\t"+a.s+"\n"+b.s, 6+len(b.s), a.e)
		}
		tail := strings.Repeat(" ", 4001-len(a.s))
		fails(t, a.s+tail, 0, api.ErrFull)
		fails(t, a.s+tail[1:], 0, a.e)
		fails(t, tail+a.s, 0, api.ErrFull)
		fails(t, tail[1:]+a.s, 4000-len(a.s), a.e)
	}
}

func TestLongTexts(t *testing.T) {
	blanks := strings.Repeat(" ", 4001)
	has(t, blanks[:4000])
	has(t, blanks[:3999]+"z", name("z", 3999))
	fails(t, blanks[:4000]+"z", 0, api.ErrFull)
	fails(t, blanks, 0, api.ErrFull)
	fails(t, "#"+blanks[:4000], 0, api.ErrFull)
	fails(t, strings.Repeat("+", 4001), 0, api.ErrFull)
	fails(t, strings.Repeat("a", 4001), 0, api.ErrFull)
	fails(t, strings.Repeat("\x00", 1000000), 0, api.ErrFull)
	var want []api.Token
	for i := range 4000 {
		want = append(want, sign("+", i))
	}
	has(t, strings.Repeat("+", 4000), want...)
	want = nil
	for i := range 2000 {
		want = append(want, quoted("", 2*i))
	}
	has(t, strings.Repeat(`""`, 2000), want...)
	want = nil
	for i := range 1000 {
		want = append(want, number("7", 7, 4*i), name("b", 4*i+1), sign("/", 4*i+2))
	}
	has(t, strings.Repeat("7b/ ", 1000), want...)
}

func TestPositions(t *testing.T) {
	const s = "\n#c\"\nrate(\t12 ,\"a\\\"b\" )\n  <0;#"
	has(t, s, name("rate", 5), sign("(", 9), number("12", 12, 11), sign(",", 14), quoted(`a"b`, 15), sign(")", 22), sign("<", 26), number("0", 0, 27), sign(";", 28))
	for n := range 50 {
		has(t, strings.Repeat("\t", n)+"a", name("a", n))
		fails(t, strings.Repeat("(", n)+">", n, api.ErrToken)
		fails(t, strings.Repeat("b ", n)+"01", 2*n, api.ErrRange)
		fails(t, "\""+strings.Repeat("x", n)+"\"\"", n+2, api.ErrForm)
	}
}

// P6.2

func prints(t *testing.T, want string, l ...api.Token) {
	t.Helper()
	if got := lexer.Print(l); got != want {
		t.Errorf("Print of %v is %q, want %q", l, got, want)
	}
}

func TestPrint(t *testing.T) {
	prints(t, "")
	prints(t, "a", name("a", 0))
	prints(t, "a 12 + \"b\"", name("a", 0), number("12", 12, 5), sign("+", 3), quoted("b", 9))
	prints(t, `"" "\"" "\\" "\\\"" "a \" \\ # b"`, quoted("", 0), quoted(`"`, 0), quoted(`\`, 0), quoted(`\"`, 0), quoted(`a " \ # b`, 0))
	prints(t, strings.Repeat("( ", 4999)+"(", slices.Repeat([]api.Token{sign("(", 0)}, 5000)...)
}

func TestPrintOfTokensThatNoTextHas(t *testing.T) {
	prints(t, "", api.Token{})
	prints(t, "  ", api.Token{}, api.Token{}, api.Token{})
	prints(t, "a ", name("a", 0), name("", 0))
	prints(t, " a", sign("", 0), name("a", 0))
	prints(t, "a b 007 x 12", name("a b", -1), number("007", 7, math.MinInt), number("x", 5, 0), number("12", 13, 0))
	prints(t, "\"\n\x00\x7f\xff\"", quoted("\n\x00\x7f\xff", 0))
	prints(t, `"`+strings.Repeat(`\\`, 500)+`"`, quoted(strings.Repeat(`\`, 500), 0))
	for _, kind := range []int{api.TkName, api.TkNumber, api.TkSign, api.TkKinds, api.TkKinds + 1, -1, math.MaxInt, math.MinInt, 1<<32 + api.TkString} {
		for _, text := range []string{"", "a", `"`, `\`, `a"b\`, `"a"`, "\n#\xff", "\"\\\""} {
			prints(t, text, api.Token{Kind: kind, Text: text, N: -1, Pos: -1})
			prints(t, "x "+text+" y", name("x", 0), api.Token{Kind: kind, Text: text}, sign("y", 0))
		}
	}
	prints(t, "\"a\" \"\xff\\\"\"", api.Token{Kind: api.TkString, Text: "a", N: 7, Pos: -3}, quoted("\xff\"", 0))
}

func TestQuote(t *testing.T) {
	good := map[string]string{"": `""`, "a": `"a"`, " ": `" "`, "~": `"~"`, `"`: `"\""`, `\`: `"\\"`, `""`: `"\"\""`, `\\`: `"\\\\"`, `\"`: `"\\\""`, `"\`: `"\"\\"`, `a"b\c`: `"a\"b\\c"`, `# 'n`: `"# 'n"`, `\n`: `"\\n"`}
	for _, c := range []string{"x", `"`, `\`} {
		raw := strings.NewReplacer(`"`, `\"`, `\`, `\\`).Replace(c)
		for _, n := range []int{399, 400} {
			good[strings.Repeat(c, n)] = `"` + strings.Repeat(raw, n) + `"`
		}
	}
	for s, want := range good {
		if got, is := lexer.Quote(s); got != want || !is {
			t.Errorf("Quote of %s is %s, %t", short(s), short(got), is)
		}
	}
	bad := []string{"\n", "\t", "\r", "\x00", "\x1f", "\x7f", "\x80", "\xff", "é", "a\nb", "ab\x00", "\x1f ab", strings.Repeat("x", 401), strings.Repeat(`"`, 401), strings.Repeat("x", 399) + "\n", strings.Repeat("x", 400) + "\n", strings.Repeat(" ", 1000000)}
	for _, s := range bad {
		if got, is := lexer.Quote(s); got != "" || is {
			t.Errorf("Quote of %s is %s, %t", short(s), short(got), is)
		}
	}
	for i := range 256 {
		s := "a" + string([]byte{byte(i)}) + "b"
		if _, is := lexer.Quote(s); is != (i >= 32 && i <= 126) {
			t.Errorf("Quote of %q: %t", s, is)
		}
	}
}

// P6.3

func TestName(t *testing.T) {
	for _, s := range []string{"a", "Z", "aB", "a_", "a__", "a1", "A_1b", "a0123456789", "abcdefghij_123456789", strings.Repeat("Z", 19), strings.Repeat("Z", 20), "z" + strings.Repeat("_", 19)} {
		if !lexer.Name(s) {
			t.Errorf("%q is a name", s)
		}
	}
	for _, s := range []string{"", "_", "_a", "1", "1a", " ", " a", "a ", "a b", "a\n", "\na", "a#", "a+", "+a", `"a"`, `a"`, "a-b", "a.b", "é", "aé", "a\x00", "\xff", "a\xff", "a\r", strings.Repeat("a", 21), strings.Repeat("a", 20) + " ", " " + strings.Repeat("a", 20), strings.Repeat("a", 4001), strings.Repeat("a", 1000000)} {
		if lexer.Name(s) {
			t.Errorf("%s is no name", short(s))
		}
	}
	letters := "abcdefghijklmnopqrstuvwxyzABCDEFGHIJKLMNOPQRSTUVWXYZ"
	for i := range 256 {
		b := string([]byte{byte(i)})
		if got := lexer.Name(b); got != strings.Contains(letters, b) {
			t.Errorf("Name of %q is %t", b, got)
		}
		if got := lexer.Name("x" + b); got != strings.Contains(letters+"_0123456789", b) {
			t.Errorf("Name of %q is %t", "x"+b, got)
		}
		if got := lexer.Name("x" + b + "y"); got != strings.Contains(letters+"_0123456789", b) {
			t.Errorf("Name of %q is %t", "x"+b+"y", got)
		}
	}
}

func TestNumber(t *testing.T) {
	for _, n := range []int{0, 1, 9, 10, 12, 99, 100, 101, 4000, 123456789, 1<<32 - 1, 1 << 32, 1<<40 - 1, 1 << 40} {
		if got, is := lexer.Number(strconv.Itoa(n)); got != n || !is {
			t.Errorf("Number of %d is %d, %t", n, got, is)
		}
	}
	for _, s := range []string{"", " ", "a", "_", "00", "01", "012", "000", "-0", "-1", "+0", "+1", "-", "+", " 1", "1 ", "1\n", "\t1", "1 2", "1a", "a1", "1_0", "0x1", "0b1", "0o7", "0_", "1e3", "1.0", "1,0", "1#", "(1)", `"1"`, "٣", "1٣", "1\x00", "\xff", "01099511627776", "1099511627777", "1099511627780", "1999999999999", "2199023255552", "10000000000000", "9223372036854775807", "9223372036854775808", "18446744073709551616", "18446744073709551617", "340282366920938463463374607431768211457", strings.Repeat("0", 4000), "1" + strings.Repeat("0", 1000000), strings.Repeat("9", 1000000)} {
		if n, is := lexer.Number(s); n != 0 || is {
			t.Errorf("Number of %s is %d, %t", short(s), n, is)
		}
	}
	for i := range 256 {
		b := string([]byte{byte(i)})
		for _, s := range []string{b, "1" + b, "7" + b + "7"} {
			n, is := lexer.Number(s)
			if want, err := strconv.ParseUint(s, 10, 64); is != (err == nil) || n != int(want) {
				t.Errorf("Number of %q is %d, %t", s, n, is)
			}
		}
	}
}

// P6.4

func TestArgumentsStay(t *testing.T) {
	l := []api.Token{name("a", 0), quoted(`b"\`, 2), number("3", 3, 9), quoted("c", 11)}
	before := slices.Clone(l)
	for n := range len(l) + 1 {
		lexer.Print(l[:n])
		if !slices.Equal(l, before) {
			t.Fatalf("Print left %v", l)
		}
	}
	if got := lexer.Print(l[:2]); got != `a "b\"\\"` {
		t.Errorf("Print of two tokens of four is %q", got)
	}
}

func TestResultsAreFresh(t *testing.T) {
	const s = `a 1 + "b\"" c`
	want := []api.Token{name("a", 0), number("1", 1, 2), sign("+", 4), quoted(`b"`, 6), name("c", 12)}
	a, _, _ := lexer.Scan(s)
	b, _, _ := lexer.Scan(s)
	for i := range a {
		a[i] = name("z", -1)
	}
	_ = append(a, name("y", -2))
	if !slices.Equal(b, want) {
		t.Errorf("two results share memory: %v", b)
	}
	has(t, s, want...)
	text := lexer.Print(b)
	b[0].Text = "z"
	if text != `a 1 + "b\"" c` || lexer.Print(want) != text {
		t.Errorf("a later change of the argument is seen: %q", text)
	}
}
