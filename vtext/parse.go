package vtext

import (
	"slices"
	"strconv"
	"strings"

	"workflow/api"
	"workflow/value"
)

// Parse reads a payload; blanks between tokens are allowed. It returns the offset of an error.
func Parse(s string) (v api.Value, at int, e api.Errno) {
	defer func() {
		if f, ok := recover().(fault); ok {
			v, at, e = value.Null(), f.at, f.err
		}
	}()
	p := parser{text: s}
	v = p.value(1)
	p.skipBlanks()
	if p.at < len(s) {
		fail(p.at, api.ErrForm)
	}
	return v, 0, api.OK
}

// fault is what the parser panics with, so that the first error ends all calls that are under way.
type fault struct {
	at  int
	err api.Errno
}

func fail(at int, err api.Errno) { panic(fault{at, err}) }

// parser reads a text from left to right.
type parser struct {
	text  string
	at    int // the offset of the next byte
	begun int // the number of values that have begun
}

// value reads a value at the given depth.
func (p *parser) value(depth int) api.Value {
	switch first := p.begin(depth); first {
	case 'n':
		p.rest("ull")
		return value.Null()
	case 't':
		p.rest("rue")
		return value.Bool(true)
	case 'f':
		p.rest("alse")
		return value.Bool(false)
	case '"':
		return value.Text(p.literal())
	case '[':
		return p.list(depth)
	case '{':
		return p.pairs(depth)
	default:
		return value.Int(p.integer(first))
	}
}

// begin takes the first byte of a value. A byte that cannot begin a value is refused before the limits are checked.
func (p *parser) begin(depth int) byte {
	c := p.takeVisible()
	if strings.IndexByte(`ntf"[{-0123456789`, c) < 0 {
		p.reject()
	}
	if depth > api.MaxDepth {
		fail(p.at-1, api.ErrDepth)
	}
	if p.begun == api.MaxNodes {
		fail(p.at-1, api.ErrSize)
	}
	p.begun++
	return c
}

// rest takes the bytes of a word behind its first one.
func (p *parser) rest(word string) {
	for i := range len(word) {
		p.expect(word[i], p.take())
	}
}

// integer reads an integer whose first byte has been taken.
func (p *parser) integer(first byte) int {
	start := p.at - 1
	leading := first
	if first == '-' {
		leading = p.take()
		if leading == '0' || !isDigit(leading) {
			p.reject()
		}
	}
	for p.at < len(p.text) && isDigit(p.text[p.at]) {
		p.at++
		if leading == '0' {
			p.reject()
		}
	}
	n, err := strconv.ParseInt(p.text[start:p.at], 10, 64)
	if err != nil {
		fail(start, api.ErrRange)
	}
	return int(n)
}

// literal reads a literal whose opening quote has been taken.
func (p *parser) literal() string {
	start := p.at - 1
	var b []byte
	for c := p.take(); c != '"'; c = p.take() {
		b = append(b, p.letter(c))
	}
	if len(b) > api.MaxText {
		fail(start, api.ErrSize)
	}
	return string(b)
}

// letter returns the byte that stands in a literal as c, or as the escape that begins with c.
func (p *parser) letter(c byte) byte {
	if c == '\\' {
		return p.escaped()
	}
	if !isPrintable(c) {
		p.reject()
	}
	return c
}

// escaped reads an escape whose backslash has been taken.
func (p *parser) escaped() byte {
	c := p.take()
	switch c {
	case 'n':
		return '\n'
	case 't':
		return '\t'
	case 'x':
		high := p.hexDigit()
		return high<<4 | p.hexDigit()
	case '"', '\\':
	default:
		p.reject()
	}
	return c
}

func (p *parser) hexDigit() byte {
	n := strings.IndexByte(hexDigits, p.take())
	if n < 0 {
		p.reject()
	}
	return byte(n)
}

// list reads a list whose opening bracket has been taken.
func (p *parser) list(depth int) api.Value {
	l := value.List(nil)
	for more := p.hasFirst(']'); more; more = p.hasNext(']') {
		l.Items = append(l.Items, p.value(depth+1))
	}
	return l
}

// pairs reads a map whose opening bracket has been taken.
func (p *parser) pairs(depth int) api.Value {
	m := api.Value{Kind: api.VMap}
	for more := p.hasFirst('}'); more; more = p.hasNext('}') {
		key, place := p.newKey(m.Keys)
		p.expect(':', p.takeVisible())
		m.Keys = slices.Insert(m.Keys, place, key)
		m.Items = slices.Insert(m.Items, place, p.value(depth+1))
	}
	return m
}

// newKey reads a key that is not among the ascending keys before it, and returns its place among them.
func (p *parser) newKey(before []string) (string, int) {
	p.expect('"', p.takeVisible())
	start := p.at - 1
	key := p.literal()
	place, found := slices.BinarySearch(before, key)
	if found {
		fail(start, api.ErrTwice)
	}
	return key, place
}

// hasFirst reports whether an element follows the opening bracket; if not, it takes the closing one.
func (p *parser) hasFirst(closing byte) bool {
	if p.takeVisible() == closing {
		return false
	}
	p.at--
	return true
}

// hasNext takes the comma or the closing bracket behind an element, and reports whether another element follows.
func (p *parser) hasNext(closing byte) bool {
	c := p.takeVisible()
	if c == ',' {
		return true
	}
	p.expect(closing, c)
	return false
}

// expect refuses the byte c, which was taken last, if another one must stand there.
func (p *parser) expect(want, c byte) {
	if c != want {
		p.reject()
	}
}

// reject refuses the byte that was taken last.
func (p *parser) reject() { fail(p.at-1, api.ErrForm) }

// take returns the next byte and steps over it.
func (p *parser) take() byte {
	if p.at == len(p.text) {
		fail(p.at, api.ErrShort)
	}
	p.at++
	return p.text[p.at-1]
}

// takeVisible takes the next byte that is not a blank.
func (p *parser) takeVisible() byte {
	p.skipBlanks()
	return p.take()
}

func (p *parser) skipBlanks() {
	for p.at < len(p.text) && isBlank(p.text[p.at]) {
		p.at++
	}
}

func isBlank(c byte) bool { return c == ' ' || c == '\t' || c == '\n' || c == '\r' }

func isDigit(c byte) bool { return c >= '0' && c <= '9' }
