package nat

import (
	"slices"
	"strconv"
	"strings"

	"podium/api"
)

// Texts are read and written in parts of nine decimal digits, because the numbers of such parts are less than Base.
const (
	partLength = 9
	partBase   = 1000000000
)

func text(x api.Big) string {
	sign := ""
	if x.Neg {
		sign = "-"
	}
	return sign + decimal(x.Mag)
}

func decimal(digits []int) string {
	if len(digits) == 0 {
		return "0"
	}
	var parts []string
	for len(digits) > 0 {
		var part int
		digits, part = divideByDigit(digits, partBase)
		// The 1 before a part keeps its zeros.
		parts = append(parts, strconv.Itoa(partBase + part)[1:])
	}
	slices.Reverse(parts)
	return strings.TrimLeft(strings.Join(parts, ""), "0")
}

// isText reports whether s is the text of an integer, which can be too large.
func isText(s string) bool {
	decimals := strings.TrimPrefix(s, "-")
	if decimals == "" || strings.TrimLeft(decimals, "0123456789") != "" {
		return false
	}
	return decimals[0] != '0' || s == "0"
}

// read returns the integer with a text. It panics if this has too many digits, before it has read all of a long text.
func read(s string) api.Big {
	decimals := strings.TrimPrefix(s, "-")
	var digits []int
	for len(decimals) > 0 {
		// The first part is the one that can be shorter.
		n := (len(decimals)-1)%partLength + 1
		part, _ := strconv.Atoi(decimals[:n])
		digits = withinLimit(combine(partBase, digits, 1, []int{part}))
		decimals = decimals[n:]
	}
	return number(s[0] == '-', digits)
}
