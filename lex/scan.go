package lex

import (
	"strings"

	"podium/api"
)

// place is what a panic tells Lex: where a token begins that is wrong.
type place int

// scanner holds a source, how much of it was read, the tokens in that, and what reads on from a byte, by its class.
type scanner struct {
	src    string
	at     int
	tokens []api.Token
	scans  [slash + 1]func(s *scanner)
}

// scans returns what reads on from a byte, by its class.
func scans() [slash + 1]func(s *scanner) {
	return [slash + 1]func(s *scanner){
		other:     scanWrong,
		blank:     scanBlank,
		letter:    scanName,
		underline: scanWrong,
		digit:     scanNumber,
		sign:      scanSign,
		slash:     scanSlash,
	}
}

// all reads the whole source; each scan reads at least one byte, or panics.
func (s *scanner) all() {
	for s.at < len(s.src) {
		s.scans[classOf(s.src[s.at])](s)
	}
}

// require ends the reading, by a panic that Lex recovers, unless ok.
func (s *scanner) require(ok bool) {
	if !ok {
		panic(place(s.at))
	}
}

// run returns the bytes of a set that begin at the place.
func (s *scanner) run(in func(c byte) bool) string {
	rest := s.src[s.at:]
	return rest[:endOf(rest, in)]
}

// add takes a token of some bytes from the source.
func (s *scanner) add(t api.Token, size int) {
	t.At = s.at
	s.tokens = append(s.tokens, t)
	s.at += size
}

func scanWrong(s *scanner) {
	s.require(false)
}

func scanBlank(s *scanner) {
	s.at++
}

func scanName(s *scanner) {
	name := s.run(inName)
	s.require(Name(name))
	s.add(api.Token{Kind: api.NameT, Text: name}, len(name))
}

// scanNumber refuses a number that is too great at its first digit too many, because the rest of its digits could be too many for an int.
func scanNumber(s *scanner) {
	digits := s.run(isDigit)
	s.require(digits[0] != '0' || len(digits) == 1)
	n := 0
	for i := range len(digits) {
		n = 10*n + int(digits[i]-'0')
		s.require(n <= api.MaxNum)
	}
	s.add(api.Token{Kind: api.NumberT, N: n}, len(digits))
}

func scanSign(s *scanner) {
	s.add(api.Token{Kind: api.SignT, Text: s.src[s.at : s.at+1]}, 1)
}

// scanSlash leaves the line feed after a comment to be read as white space.
func scanSlash(s *scanner) {
	rest := s.src[s.at:]
	if !strings.HasPrefix(rest, "//") {
		scanSign(s)
		return
	}
	comment, _, _ := strings.Cut(rest, "\n")
	s.at += len(comment)
}
