package syntax

import "workflow/api"

// The levels of the operators that join two operands.
const (
	levelOr = iota + 1
	levelAnd
	levelCompare
	levelSum
	levelProduct
)

// operation returns the Op and the level of an operator that joins two operands, and zeros for every other token.
func operation(t api.Token) (op, level int) {
	if t.Kind != api.TokSign && t.Kind != api.TokKeyword {
		return 0, 0
	}
	switch t.Text {
	case "or":
		return api.XOr, levelOr
	case "and":
		return api.XAnd, levelAnd
	case "<":
		return api.XLt, levelCompare
	case "<=":
		return api.XLe, levelCompare
	case ">":
		return api.XGt, levelCompare
	case ">=":
		return api.XGe, levelCompare
	case "==":
		return api.XEq, levelCompare
	case "!=":
		return api.XNe, levelCompare
	case "+":
		return api.XAdd, levelSum
	case "-":
		return api.XSub, levelSum
	case "*":
		return api.XMul, levelProduct
	case "/":
		return api.XDiv, levelProduct
	case "%":
		return api.XMod, levelProduct
	}
	return 0, 0
}

// operator steps over the next token if it is an operator of the given level, and reports whether it is.
func (p *parser) operator(level int) (int, bool) {
	op, found := operation(p.peek())
	if found != level {
		return 0, false
	}
	p.next++
	return op, true
}

// chain reads operands that operators of one level join, and applies these from the left.
func (p *parser) chain(level int, operand func() api.Node) api.Node {
	n := operand()
	for op, more := p.operator(level); more; op, more = p.operator(level) {
		n = node(op, n, operand())
	}
	return n
}

func (p *parser) expr() api.Node { return p.chain(levelOr, p.conjunction) }

func (p *parser) conjunction() api.Node { return p.chain(levelAnd, p.negation) }

func (p *parser) negation() api.Node {
	if p.accept("not") {
		return node(api.XNot, p.negation())
	}
	return p.comparison()
}

func (p *parser) comparison() api.Node {
	n := p.sum()
	if op, ok := p.operator(levelCompare); ok {
		return node(op, n, p.sum())
	}
	return n
}

func (p *parser) sum() api.Node { return p.chain(levelSum, p.product) }

func (p *parser) product() api.Node { return p.chain(levelProduct, p.unary) }

func (p *parser) unary() api.Node {
	switch {
	case p.accept("-"):
		return node(api.XNeg, p.unary())
	case p.accept("await"):
		return node(api.XAwait, p.unary())
	case p.accept("go"):
		return p.call(api.XGo)
	}
	return p.postfix()
}

func (p *parser) postfix() api.Node {
	n := p.primary()
	for {
		switch {
		case p.accept("."):
			n = api.Node{Op: api.XField, Name: p.name(), Kids: []api.Node{n}}
		case p.accept("["):
			n = node(api.XIndex, n, p.expr())
			p.expect("]")
		default:
			return n
		}
	}
}

func (p *parser) primary() api.Node {
	if n, ok := p.literal(); ok {
		return n
	}
	switch {
	case p.accept("["):
		return node(api.XList, p.list("]", p.expr)...)
	case p.accept("{"):
		return node(api.XMap, p.list("}", p.pair)...)
	case p.accept("("):
		n := p.expr()
		p.expect(")")
		return n
	}
	return p.named()
}

// literal reads an integer, a string, true, false or null, if one of these follows.
func (p *parser) literal() (api.Node, bool) {
	switch t := p.peek(); {
	case t.Kind == api.TokInt:
		p.next++
		return api.Node{Op: api.XInt, Int: t.Int}, true
	case t.Kind == api.TokText:
		p.next++
		return api.Node{Op: api.XText, Text: t.Text}, true
	case p.accept("true"):
		return node(api.XTrue), true
	case p.accept("false"):
		return node(api.XFalse), true
	case p.accept("null"):
		return node(api.XNull), true
	}
	return api.Node{}, false
}

// pair reads an element of a map.
func (p *parser) pair() api.Node {
	n := api.Node{Op: api.XPair, Text: p.take(api.TokText).Text}
	p.expect(":")
	n.Kids = []api.Node{p.expr()}
	return n
}

// named reads a variable, or a call if an argument list follows the name.
func (p *parser) named() api.Node {
	n := p.variableName()
	if p.accept("(") {
		n.Op, n.Kids = api.XCall, p.list(")", p.expr)
	}
	return n
}

// call reads a name with an argument list.
func (p *parser) call(op int) api.Node {
	n := api.Node{Op: op, Name: p.name()}
	p.expect("(")
	n.Kids = p.list(")", p.expr)
	return n
}
