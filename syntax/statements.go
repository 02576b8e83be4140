package syntax

import "workflow/api"

func (p *parser) block() api.Node {
	n := node(api.SBlock)
	p.expect("{")
	for !p.accept("}") {
		n.Kids = append(n.Kids, p.statement())
	}
	return n
}

func (p *parser) statement() api.Node {
	switch {
	case p.accept("let"):
		return p.assignment(api.SLet)
	case p.assigns():
		return p.assignment(api.SSet)
	case p.accept("if"):
		return p.ifStatement()
	case p.accept("while"):
		return node(api.SWhile, p.expr(), p.block())
	case p.accept("return"):
		return p.returnStatement()
	case p.accept("throw"):
		return node(api.SThrow, p.ended())
	case p.accept("try"):
		return p.tryStatement()
	case p.accept("saga"):
		return node(api.SSaga, p.block())
	case p.accept("undo"):
		return p.undoStatement()
	case p.accept("select"):
		return p.selectStatement()
	}
	return node(api.SExpr, p.ended())
}

// ended reads an expression and the semicolon that ends its statement.
func (p *parser) ended() api.Node {
	n := p.expr()
	p.expect(";")
	return n
}

// assignment reads what follows the keyword let, or a whole assignment to a variable that exists.
func (p *parser) assignment(op int) api.Node {
	n := api.Node{Op: op, Name: p.name()}
	p.expect("=")
	n.Kids = []api.Node{p.ended()}
	return n
}

// ifStatement reads an if statement behind its keyword.
func (p *parser) ifStatement() api.Node {
	n := node(api.SIf, p.expr(), p.block())
	if !p.accept("else") {
		return n
	}
	if p.accept("if") {
		n.Kids = append(n.Kids, p.ifStatement())
	} else {
		n.Kids = append(n.Kids, p.block())
	}
	return n
}

// returnStatement reads a return statement behind its keyword.
func (p *parser) returnStatement() api.Node {
	if p.accept(";") {
		return node(api.SReturn)
	}
	return node(api.SReturn, p.ended())
}

// tryStatement reads a try statement behind its keyword.
func (p *parser) tryStatement() api.Node {
	n := node(api.STry, p.block())
	p.expect("catch")
	n.Name = p.name()
	n.Kids = append(n.Kids, p.block())
	return n
}

// undoStatement reads an undo statement behind its keyword.
func (p *parser) undoStatement() api.Node {
	n := p.call(api.SUndo)
	p.expect(";")
	return n
}

// selectStatement reads a select statement behind its keyword.
func (p *parser) selectStatement() api.Node {
	n := node(api.SSelect)
	p.expect("{")
	for len(n.Kids) < api.MaxCases && p.accept("case") {
		n.Kids = append(n.Kids, p.branch())
	}
	if p.accept("else") {
		n.Kids = append(n.Kids, node(api.SElse, p.block()))
	}
	if len(n.Kids) == 0 {
		p.refuse()
	}
	p.expect("}")
	return n
}

// branch reads a case behind its keyword.
func (p *parser) branch() api.Node {
	n := node(api.SCase)
	if p.assigns() {
		n.Name = p.name()
		p.expect("=")
	}
	n.Kids = append(n.Kids, p.expr(), p.block())
	return n
}
