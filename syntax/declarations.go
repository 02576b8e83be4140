package syntax

import "workflow/api"

func (p *parser) program() api.Node {
	n := node(api.DProgram)
	for p.peek().Kind != api.TokEnd {
		n.Kids = append(n.Kids, p.declaration())
	}
	return n
}

func (p *parser) declaration() api.Node {
	switch {
	case p.accept("var"):
		return p.variable()
	case p.accept("func"):
		return p.function()
	}
	p.expect("on")
	return p.handler()
}

// variable reads a global variable behind its keyword.
func (p *parser) variable() api.Node {
	n := api.Node{Op: api.DVar, Name: p.name()}
	p.expect("=")
	n.Kids = []api.Node{p.constant()}
	p.expect(";")
	return n
}

func (p *parser) constant() api.Node {
	if p.accept("-") {
		return node(api.XNeg, api.Node{Op: api.XInt, Int: p.take(api.TokInt).Int})
	}
	n, ok := p.literal()
	if !ok {
		p.refuse()
	}
	return n
}

// function reads a function behind its keyword.
func (p *parser) function() api.Node {
	n := api.Node{Op: api.DFunc, Name: p.name()}
	p.expect("(")
	parameters := p.list(")", p.variableName)
	n.Kids = append(parameters, p.block())
	return n
}

func (p *parser) variableName() api.Node { return api.Node{Op: api.XName, Name: p.name()} }

// handler reads a handler behind the keyword on.
func (p *parser) handler() api.Node {
	n := node(p.handlerKind())
	n.Name = p.name()
	p.expect("(")
	n.Text = p.name()
	p.expect(")")
	if n.Op == api.DUpdate && p.accept("check") {
		n.Kids = append(n.Kids, p.block())
	}
	n.Kids = append(n.Kids, p.block())
	return n
}

func (p *parser) handlerKind() int {
	switch {
	case p.accept("signal"):
		return api.DSignal
	case p.accept("query"):
		return api.DQuery
	}
	p.expect("update")
	return api.DUpdate
}
