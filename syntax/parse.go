package syntax

import (
	"workflow/api"
	"workflow/token"
)

// fault is what the parser panics with, so that the first error ends all calls that are under way.
type fault struct {
	at  int
	err api.Errno
}

// parser reads tokens from left to right. It steps over a token only where the grammar allows it, so the first token
// that it refuses is the first one with which no text of the grammar goes on.
type parser struct {
	tokens []api.Token
	next   int // the index of the next token
}

// read returns the tree of a text that consists of what the rule reads.
func read(src string, rule func(*parser) api.Node) api.Node {
	tokens, at, e := token.Scan(src)
	if e != api.OK {
		panic(fault{at, e})
	}
	p := parser{tokens: tokens}
	n := rule(&p)
	p.take(api.TokEnd)
	checkLimits(n)
	return n
}

func checkLimits(n api.Node) {
	if Size(n) > api.MaxTree {
		panic(fault{0, api.ErrSize})
	}
	if Depth(n) > api.MaxNesting {
		panic(fault{0, api.ErrDepth})
	}
}

func (p *parser) peek() api.Token { return p.tokens[p.next] }

// refuse ends the parse with an error of the next token.
func (p *parser) refuse() { panic(fault{p.peek().At, api.ErrSyntax}) }

// take returns the next token, which must be of the given kind, and steps over it.
func (p *parser) take(kind int) api.Token {
	t := p.peek()
	if t.Kind != kind {
		p.refuse()
	}
	p.next++
	return t
}

func (p *parser) name() string { return p.take(api.TokName).Text }

// accept steps over the next token if it is the given keyword or sign, and reports whether it is.
func (p *parser) accept(text string) bool {
	if !isReserved(p.peek(), text) {
		return false
	}
	p.next++
	return true
}

// expect steps over a keyword or sign that must follow.
func (p *parser) expect(text string) {
	if !p.accept(text) {
		p.refuse()
	}
}

// isReserved tells a keyword or sign from a literal that has the same text.
func isReserved(t api.Token, text string) bool {
	return (t.Kind == api.TokKeyword || t.Kind == api.TokSign) && t.Text == text
}

// assigns reports whether a name and the sign of an assignment follow.
func (p *parser) assigns() bool {
	return p.peek().Kind == api.TokName && isReserved(p.tokens[p.next+1], "=")
}

// list reads parts with commas between them, up to the closing sign.
func (p *parser) list(closing string, part func() api.Node) []api.Node {
	if p.accept(closing) {
		return nil
	}
	l := []api.Node{part()}
	for !p.accept(closing) {
		p.expect(",")
		l = append(l, part())
	}
	return l
}

func node(op int, kids ...api.Node) api.Node { return api.Node{Op: op, Kids: kids} }
