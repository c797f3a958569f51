package lexer_test

import (
	"math/big"
	"math/rand"
	"regexp"
	"slices"
	"strconv"
	"strings"
	"sync"
	"testing"

	"kerbside/api"
	"kerbside/lexer"
)

// The model reads the chapter's definitions as regular expressions.
var (
	gapForm    = regexp.MustCompile(`^(?:[\t\n ]|#[^\n]*(?:\n|$))*`)
	nameForm   = regexp.MustCompile(`^[a-zA-Z][a-zA-Z0-9_]*`)
	numberForm = regexp.MustCompile(`^[0-9]+`)
	quotedForm = regexp.MustCompile(`^"(?:[ !#-\[\]-~]|\\["\\])*"`)
	signForm   = regexp.MustCompile(`^[(),;:=<+\-*/{}]`)
)

// firstOf returns the token at the beginning of a text, its size, and its error.
func firstOf(s string) (api.Token, int, api.Errno) {
	if m := nameForm.FindString(s); m != "" {
		if len(m) > 20 {
			return api.Token{}, 0, api.ErrRange
		}
		return name(m, 0), len(m), api.OK
	}
	if m := numberForm.FindString(s); m != "" {
		n, _ := new(big.Int).SetString(m, 10)
		if n.String() != m || n.Cmp(big.NewInt(1099511627776)) > 0 {
			return api.Token{}, 0, api.ErrRange
		}
		return number(m, int(n.Int64()), 0), len(m), api.OK
	}
	if s[0] == '"' {
		m := quotedForm.FindString(s)
		if m == "" {
			return api.Token{}, 0, api.ErrForm
		}
		v := strings.NewReplacer(`\"`, `"`, `\\`, `\`).Replace(m[1 : len(m)-1])
		if len(v) > 400 {
			return api.Token{}, 0, api.ErrForm
		}
		return quoted(v, 0), len(m), api.OK
	}
	if m := signForm.FindString(s); m != "" {
		return sign(m, 0), 1, api.OK
	}
	return api.Token{}, 0, api.ErrToken
}

// scan is Scan, by the model.
func scan(s string) ([]api.Token, int, api.Errno) {
	if len(s) > 4000 {
		return nil, 0, api.ErrFull
	}
	var l []api.Token
	at := 0
	for {
		at += len(gapForm.FindString(s[at:]))
		if at == len(s) {
			return l, 0, api.OK
		}
		t, size, e := firstOf(s[at:])
		if e != api.OK {
			return nil, at, e
		}
		t.Pos = at
		l = append(l, t)
		at += size
	}
}

// written returns how a token stands in a text.
func written(t api.Token) string {
	if t.Kind != api.TkString {
		return t.Text
	}
	return `"` + strings.NewReplacer(`"`, `\"`, `\`, `\\`).Replace(t.Text) + `"`
}

// agrees compares all functions with the model, for one text.
func agrees(t *testing.T, s string) {
	t.Helper()
	l, at, e := lexer.Scan(s)
	wantL, wantAt, wantE := scan(s)
	if !slices.Equal(l, wantL) || at != wantAt || e != wantE {
		t.Fatalf("Scan of %s is %v, %d, error %d, want %v, %d, error %d", short(s), l, at, e, wantL, wantAt, wantE)
	}
	if got, want := lexer.Name(s), nameForm.FindString(s) == s && s != "" && len(s) <= 20; got != want {
		t.Fatalf("Name of %s is %t", short(s), got)
	}
	n, is := lexer.Number(s)
	first, _, firstE := api.Token{}, 0, api.ErrRange
	if numberForm.FindString(s) == s && s != "" {
		first, _, firstE = firstOf(s)
	}
	if n != first.N || is != (firstE == api.OK) {
		t.Fatalf("Number of %s is %d, %t", short(s), n, is)
	}
	quote(t, s)
	roundTrip(t, s, l, e)
	inOrder(t, s, l, at, e)
}

// quote checks Quote, and P6.7.
func quote(t *testing.T, s string) {
	t.Helper()
	want := written(quoted(s, 0))
	is := quotedForm.FindString(want) == want && len(s) <= 400
	if !is {
		want = ""
	}
	q, ok := lexer.Quote(s)
	if q != want || ok != is {
		t.Fatalf("Quote of %s is %s, %t", short(s), short(q), ok)
	}
	if !is {
		return
	}
	if l, at, e := lexer.Scan(q); !slices.Equal(l, []api.Token{quoted(s, 0)}) || at != 0 || e != api.OK {
		t.Fatalf("Scan of what Quote returns for %s is %v, %d, error %d", short(s), l, at, e)
	}
}

// roundTrip checks P6.5, and Print.
func roundTrip(t *testing.T, s string, l []api.Token, e api.Errno) {
	t.Helper()
	var parts []string
	for _, x := range l {
		parts = append(parts, written(x))
	}
	text := lexer.Print(l)
	if text != strings.Join(parts, " ") {
		t.Fatalf("Print of the tokens of %s is %s", short(s), short(text))
	}
	if e != api.OK || len(text) > api.MaxSource {
		return
	}
	again, _, e := lexer.Scan(text)
	if e != api.OK || len(again) != len(l) || lexer.Print(again) != text {
		t.Fatalf("Scan of %s is %v, error %d", short(text), again, e)
	}
	for i, x := range again {
		if x.Pos = l[i].Pos; x != l[i] {
			t.Fatalf("Scan of %s has %v at %d, want %v", short(text), x, i, l[i])
		}
	}
}

// inOrder checks the first and the last sentence of P6.6.
func inOrder(t *testing.T, s string, l []api.Token, at int, e api.Errno) {
	t.Helper()
	if e != api.OK {
		before, _, e := lexer.Scan(s[:at])
		if e != api.OK {
			t.Fatalf("Scan of what precedes the error of %s is error %d", short(s), e)
		}
		l, s = before, s[:at]
	}
	end := 0
	for _, x := range l {
		if x.Pos < end || gapForm.FindString(s[end:x.Pos]) != s[end:x.Pos] || !strings.HasPrefix(s[x.Pos:], written(x)) {
			t.Fatalf("%v is not in %s, or not after %d", x, short(s), end)
		}
		end = x.Pos + len(written(x))
	}
	if gapForm.FindString(s[end:]) != s[end:] {
		t.Fatalf("after the last token of %s is something else", short(s))
	}
}

// joined checks the second sentence of P6.6.
func joined(t *testing.T, s, u string) {
	t.Helper()
	both := s + "\n" + u
	if len(both) > api.MaxSource {
		return
	}
	l, at, e := lexer.Scan(s)
	m, atU, eU := lexer.Scan(u)
	if e == api.OK {
		at, e = atU, eU
		if e != api.OK {
			at, l = at+len(s)+1, nil
		}
		for _, x := range m {
			x.Pos += len(s) + 1
			l = append(l, x)
		}
	}
	if e != api.OK {
		l = nil
	}
	if got, gotAt, gotE := lexer.Scan(both); !slices.Equal(got, l) || gotAt != at || gotE != e {
		t.Fatalf("Scan of %s and %s is %v, %d, error %d, want %v, %d, error %d", short(s), short(u), got, gotAt, gotE, l, at, e)
	}
}

// each calls f with every text of at most size of the pieces.
func each(s string, pieces []string, size int, f func(string)) {
	f(s)
	if size == 0 {
		return
	}
	for _, p := range pieces {
		each(s+p, pieces, size-1, f)
	}
}

// shorts calls f with many short texts.
func shorts(f func(string)) {
	each("", strings.Split(`a1_0"\# +>`+"\n", ""), 4, f)
	each("", strings.Split(`a"\#`+"\n", ""), 6, f)
	each("", strings.Split(`a01_ `, ""), 5, f)
	each("", []string{`"`, `\"`, `\\`, `\`, "x", "\x7f"}, 5, f)
}

func TestShortTexts(t *testing.T) {
	shorts(func(s string) { agrees(t, s) })
}

func TestTwoBytes(t *testing.T) {
	for i := range 256 {
		for j := range 256 {
			s := string([]byte{byte(i), byte(j)})
			agrees(t, s)
			if j%4 == 0 {
				agrees(t, `"`+s+`"`)
			}
		}
	}
}

func TestShortTextsJoined(t *testing.T) {
	var l []string
	each("", strings.Split(`a0"\#>`+"\n", ""), 3, func(s string) { l = append(l, s) })
	for _, s := range l {
		for _, u := range l {
			joined(t, s, u)
		}
	}
}

// somePiece returns a token, a gap, or something that is wrong, often close to a limit.
func somePiece(r *rand.Rand) string {
	switch r.Intn(12) {
	case 0, 1:
		return strings.Repeat(string("aZ09_"[r.Intn(5)]), 1+r.Intn(5))
	case 2:
		return "n" + strings.Repeat(string("aZ09_"[r.Intn(5)]), 17+r.Intn(4))
	case 3:
		return strconv.Itoa(r.Intn(1 << (1 + r.Intn(41))))
	case 4:
		return strconv.Itoa(1<<40 - 2 + r.Intn(4))
	case 5, 6:
		return written(quoted(strings.Repeat(string(`ax"\# `[r.Intn(6)]), r.Intn(4)), 0))
	case 7:
		return written(quoted(strings.Repeat(string(`a"\`[r.Intn(3)]), 398+r.Intn(4)), 0))
	case 8:
		return "#" + strings.Repeat(string("\"a# "[r.Intn(4)]), r.Intn(9)) + "\n"
	case 9, 10:
		return string(signs[r.Intn(len(signs))])
	}
	if r.Intn(4) > 0 {
		return string("\t\n  "[r.Intn(4)])
	}
	return string([]byte{byte(r.Intn(256))})
}

// someText returns a text of up to so many bytes, and a few more.
func someText(r *rand.Rand, most int) string {
	var b strings.Builder
	for size := r.Intn(most); b.Len() < size; {
		b.WriteString(somePiece(r))
		if r.Intn(2) == 0 {
			b.WriteByte(' ')
		}
	}
	return b.String()
}

// goodText returns the tokens of a random text, with gaps between them, and at most so many bytes.
func goodText(r *rand.Rand, most int) string {
	var b strings.Builder
	for {
		p := somePiece(r)
		if _, _, e := scan(p); e == api.OK {
			b.WriteString([]string{" ", "\n", "\t\t", "#\n", " # \">\n"}[r.Intn(5)])
			if b.Len()+len(p) > most {
				return b.String()[:min(b.Len(), most)]
			}
			b.WriteString(p)
		}
	}
}

func TestRandomTexts(t *testing.T) {
	r := rand.New(rand.NewSource(6))
	for range 10000 {
		agrees(t, someText(r, 60))
		agrees(t, goodText(r, 1+r.Intn(100)))
	}
	for range 300 {
		agrees(t, someText(r, 5000))
		s := goodText(r, 3900+r.Intn(120))
		agrees(t, s)
		i := r.Intn(len(s))
		agrees(t, s[:i]+string([]byte{byte(r.Intn(256))})+s[i:])
		agrees(t, s[:i]+s[i+1:])
	}
}

func TestRandomTextsJoined(t *testing.T) {
	r := rand.New(rand.NewSource(66))
	for range 10000 {
		joined(t, goodText(r, 1+r.Intn(60)), goodText(r, 1+r.Intn(60)))
		joined(t, someText(r, 40), someText(r, 40))
	}
	for range 300 {
		s := goodText(r, 1+r.Intn(3998))
		u := goodText(r, 4000)
		joined(t, s, u[:min(len(u), 3999-len(s))])
	}
}

func TestRandomBytes(t *testing.T) {
	r := rand.New(rand.NewSource(666))
	for range 20000 {
		b := make([]byte, r.Intn(9))
		for i := range b {
			b[i] = byte(r.Intn(256))
		}
		agrees(t, string(b))
	}
}

// P6.4: no state is kept, so calls side by side do not disturb each other.

func TestCallsSideBySide(t *testing.T) {
	r := rand.New(rand.NewSource(7))
	texts := make([]string, 8)
	for i := range texts {
		texts[i] = goodText(r, 2000)
	}
	var done sync.WaitGroup
	for _, s := range texts {
		done.Go(func() {
			want, _, _ := scan(s)
			for range 20 {
				if l, at, e := lexer.Scan(s); !slices.Equal(l, want) || at != 0 || e != api.OK {
					t.Errorf("Scan of %s is %d, error %d", short(s), at, e)
				}
			}
		})
	}
	done.Wait()
}
