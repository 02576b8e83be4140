package token

import (
	"slices"
	"strconv"
	"strings"

	"workflow/api"
)

// end is what the scanner reads behind the last byte of a text. It is no byte, so no byte can be mistaken for it.
const end rune = -1

// class tells which token a rune begins.
type class byte

const (
	none class = iota
	blank
	letter
	digit
	mark
	sign
	finish
)

// classifier returns a closure over a table, so that the table is made once for a text.
func classifier() func(rune) class {
	members := [...]string{
		blank:  " \t\n",
		letter: "ABCDEFGHIJKLMNOPQRSTUVWXYZ_abcdefghijklmnopqrstuvwxyz",
		digit:  "0123456789",
		mark:   `"`,
		sign:   "=!<>(){}[],;.:+-*/%",
	}
	var table [256]class
	for c, runes := range members {
		for _, r := range runes {
			table[r] = class(c)
		}
	}
	return func(r rune) class {
		if r == end {
			return finish
		}
		return table[r]
	}
}

// scanner reads a text from left to right, each byte as a rune of its own.
type scanner struct {
	src      string
	at       int // the offset of the next byte
	classify func(rune) class
}

// next reads a token. If it has an error, its offset is all that is returned of it.
func (s *scanner) next() (t api.Token, e api.Errno) {
	s.span(blank)
	start := s.at
	switch s.class() {
	case letter:
		t, e = s.word()
	case digit:
		t, e = s.integer()
	case mark:
		t, e = s.literal()
	case sign:
		t, e = s.sign()
	case finish:
		t.Kind = api.TokEnd
	default:
		e = api.ErrForm
	}
	t.At = start
	return t, e
}

func (s *scanner) word() (api.Token, api.Errno) {
	text := s.span(letter, digit)
	if len(text) > api.MaxName {
		return api.Token{}, api.ErrName
	}
	if Keyword(text) {
		return api.Token{Kind: api.TokKeyword, Text: text}, api.OK
	}
	return api.Token{Kind: api.TokName, Text: text}, api.OK
}

func (s *scanner) integer() (api.Token, api.Errno) {
	digits := s.span(digit)
	if len(digits) > 1 && digits[0] == '0' || s.class() == letter {
		return api.Token{}, api.ErrForm
	}
	n, err := strconv.Atoi(digits)
	if err != nil {
		return api.Token{}, api.ErrRange
	}
	return api.Token{Kind: api.TokInt, Int: n}, api.OK
}

func (s *scanner) sign() (api.Token, api.Errno) {
	start := s.at
	first := s.take()
	if s.peek() == '=' && strings.ContainsRune("=!<>", first) {
		s.take()
	} else if first == '!' {
		return api.Token{}, api.ErrForm
	}
	return api.Token{Kind: api.TokSign, Text: s.src[start:s.at]}, api.OK
}

func (s *scanner) literal() (api.Token, api.Errno) {
	s.take()
	var text []byte
	for s.class() != mark {
		c, e := s.character()
		if e != api.OK {
			return api.Token{}, e
		}
		text = append(text, c)
	}
	s.take()
	if len(text) > api.MaxText {
		return api.Token{}, api.ErrSize
	}
	return api.Token{Kind: api.TokText, Text: string(text)}, api.OK
}

// character reads a character of a literal and returns the byte that it stands for.
func (s *scanner) character() (byte, api.Errno) {
	r := s.take()
	if r == '\\' {
		return s.escaped()
	}
	if !isPlain(r) {
		return refuse(r)
	}
	return byte(r), api.OK
}

// escaped reads what follows a backslash.
func (s *scanner) escaped() (byte, api.Errno) {
	switch r := s.take(); r {
	case '"', '\\':
		return byte(r), api.OK
	case 'n':
		return '\n', api.OK
	case 't':
		return '\t', api.OK
	case 'x':
		return s.number()
	default:
		return refuse(r)
	}
}

// number reads the two hexadecimal digits of a byte.
func (s *scanner) number() (byte, api.Errno) {
	n := 0
	for range 2 {
		r := s.take()
		d := strings.IndexRune(hexDigits, r)
		if d < 0 {
			return refuse(r)
		}
		n = n<<4 | d
	}
	return byte(n), api.OK
}

// refuse returns the error of a literal that cannot go on with r.
func refuse(r rune) (byte, api.Errno) {
	if r == end {
		return 0, api.ErrShort
	}
	return 0, api.ErrForm
}

// span takes as many runes of the given classes as follow.
func (s *scanner) span(classes ...class) string {
	start := s.at
	for slices.Contains(classes, s.class()) {
		s.take()
	}
	return s.src[start:s.at]
}

// class returns the class of the next rune.
func (s *scanner) class() class { return s.classify(s.peek()) }

// take returns the next rune and steps over it.
func (s *scanner) take() rune {
	r := s.peek()
	if r != end {
		s.at++
	}
	return r
}

func (s *scanner) peek() rune {
	if s.at == len(s.src) {
		return end
	}
	return rune(s.src[s.at])
}
