package big

import (
	"slices"
	"strconv"
	"strings"

	"kerbside/api"
)

// Decimal digits are written and read in groups.
const (
	groupSize = 12
	group     = 1_000_000_000_000 // an int of 40 bits, as divideBy and multiplyBy ask for
)

// Text returns the decimal digits of a big integer.
func Text(a api.Big) string {
	if !Right(a) {
		return ""
	}
	rest, groups := slices.Clone(a.Digits), []int(nil)
	for len(rest) > few {
		q, r := divideBy(rest, group)
		rest, groups = q, append(groups, r)
	}
	text := strconv.AppendInt(nil, int64(a.Sign*join(rest)), 10)
	for _, g := range slices.Backward(groups) {
		// The digit 1 before it keeps the leading zeros of the group.
		text = append(text, strconv.Itoa(group + g)[1:]...)
	}
	return string(text)
}

// Read returns the big integer with a text.
func Read(s string) (api.Big, api.Errno) {
	text, negative := strings.CutPrefix(s, "-")
	if !isDecimal(text) || text[0] == '0' && s != "0" {
		return api.Big{}, api.ErrForm
	}
	d := make([]int, 0, len(text)/6+1)
	for len(text) > 0 {
		size := (len(text)-1)%groupSize + 1
		g, _ := strconv.Atoi(text[:size])
		d = multiplyBy(d, group, g)
		text = text[size:]
	}
	if negative {
		return signed(-1, d), api.OK
	}
	return signed(1, d), api.OK
}

func isDecimal(s string) bool {
	for i := range len(s) {
		if s[i] < '0' || s[i] > '9' {
			return false
		}
	}
	return s != ""
}
