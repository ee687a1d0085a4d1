package lex

// class says what a byte can begin, or continue.
type class uint8

const (
	other class = iota // neither begins nor continues anything
	blank
	letter
	underline
	digit
	sign
	slash // a sign that can begin a comment
)

// classes are the classes of the bytes below 128; all others are of the class other.
var classes = [128]class{
	'\t': blank, '\n': blank, '\r': blank, ' ': blank,
	'{': sign, '}': sign, '(': sign, ')': sign, ';': sign, ',': sign, '=': sign, ':': sign,
	'.': sign, '<': sign, '>': sign, '!': sign, '+': sign, '-': sign, '*': sign, '/': slash,
	'0': digit, '1': digit, '2': digit, '3': digit, '4': digit,
	'5': digit, '6': digit, '7': digit, '8': digit, '9': digit,
	'_': underline,
	'A': letter, 'B': letter, 'C': letter, 'D': letter, 'E': letter, 'F': letter, 'G': letter,
	'H': letter, 'I': letter, 'J': letter, 'K': letter, 'L': letter, 'M': letter, 'N': letter,
	'O': letter, 'P': letter, 'Q': letter, 'R': letter, 'S': letter, 'T': letter, 'U': letter,
	'V': letter, 'W': letter, 'X': letter, 'Y': letter, 'Z': letter,
	'a': letter, 'b': letter, 'c': letter, 'd': letter, 'e': letter, 'f': letter, 'g': letter,
	'h': letter, 'i': letter, 'j': letter, 'k': letter, 'l': letter, 'm': letter, 'n': letter,
	'o': letter, 'p': letter, 'q': letter, 'r': letter, 's': letter, 't': letter, 'u': letter,
	'v': letter, 'w': letter, 'x': letter, 'y': letter, 'z': letter,
}

func classOf(c byte) class {
	if int(c) < len(classes) {
		return classes[c]
	}
	return other
}

// inName reports whether a byte can continue a name.
func inName(c byte) bool {
	k := classOf(c)
	return k == letter || k == digit || k == underline
}

func isDigit(c byte) bool {
	return classOf(c) == digit
}

func isSign(c byte) bool {
	k := classOf(c)
	return k == sign || k == slash
}

// endOf returns how many bytes at the beginning of s are in a set.
func endOf(s string, in func(c byte) bool) int {
	for i := range len(s) {
		if !in(s[i]) {
			return i
		}
	}
	return len(s)
}
