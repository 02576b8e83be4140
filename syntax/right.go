package syntax

import (
	"slices"

	"workflow/api"
	"workflow/token"
)

// isRight reports whether a tree has the form of its Op and keeps to the limits.
func isRight(n api.Node) bool {
	// The limits come first, because they bound the work of the other check.
	return roomAfter(n, 1, api.MaxTree) >= 0 && wellFormed(n)
}

// roomAfter returns how many of room nodes are left after n, or -1 if n, which lies at the given depth, exceeds a limit.
func roomAfter(n api.Node, depth, room int) int {
	if depth > api.MaxNesting || room == 0 {
		return -1
	}
	room--
	for _, k := range n.Kids {
		room = roomAfter(k, depth+1, room)
		if room < 0 {
			return -1
		}
	}
	return room
}

// wellFormed says nothing about limits.
func wellFormed(n api.Node) bool {
	return usesItsFields(n) && hasItsKids(n) && all(n.Kids, wellFormed)
}

// usesItsFields reports whether the fields of n, apart from Kids, are those of its Op.
func usesItsFields(n api.Node) bool {
	noName, noInt, noText := n.Name == "", n.Int == 0, n.Text == ""
	switch n.Op {
	case api.XInt:
		return noName && n.Int >= 0 && noText
	case api.XText, api.XPair:
		return noName && noInt && len(n.Text) <= api.MaxText
	case api.XName, api.XCall, api.XGo, api.XField, api.SLet, api.SSet, api.STry, api.SUndo, api.DVar, api.DFunc:
		return isName(n.Name) && noInt && noText
	case api.SCase:
		return (noName || isName(n.Name)) && noInt && noText
	case api.DSignal, api.DQuery, api.DUpdate:
		return isName(n.Name) && noInt && isName(n.Text)
	}
	return noName && noInt && noText
}

// isName asks the scanner, which knows names and keywords.
func isName(s string) bool {
	l, _, e := token.Scan(s)
	return e == api.OK && l[0] == api.Token{Kind: api.TokName, Text: s}
}

// hasItsKids reports whether the Kids of n are as many as its Op says, and of the kinds that it says.
func hasItsKids(n api.Node) bool {
	switch n.Op {
	case api.XNull, api.XTrue, api.XFalse, api.XInt, api.XText, api.XName:
		return row(n.Kids)
	case api.XList, api.XCall, api.XGo, api.SUndo:
		return all(n.Kids, isExpr)
	case api.XMap:
		return all(n.Kids, isPair)
	case api.XPair, api.XAwait, api.XNot, api.XNeg, api.XField, api.SLet, api.SSet, api.SThrow, api.SExpr:
		return row(n.Kids, isExpr)
	case api.XMul, api.XDiv, api.XMod, api.XAdd, api.XSub, api.XLt, api.XLe, api.XGt, api.XGe, api.XEq, api.XNe, api.XAnd, api.XOr, api.XIndex:
		return row(n.Kids, isExpr, isExpr)
	case api.SIf:
		return row(n.Kids, isExpr, isBlock) || row(n.Kids, isExpr, isBlock, isElsePart)
	case api.SWhile, api.SCase:
		return row(n.Kids, isExpr, isBlock)
	case api.SReturn:
		return row(n.Kids) || row(n.Kids, isExpr)
	case api.STry:
		return row(n.Kids, isBlock, isBlock)
	case api.SSaga, api.SElse, api.DSignal, api.DQuery:
		return row(n.Kids, isBlock)
	case api.SSelect:
		return areBranches(n.Kids)
	case api.SBlock:
		return all(n.Kids, isStatement)
	case api.DProgram:
		return all(n.Kids, isDeclaration)
	case api.DVar:
		return row(n.Kids, isConstant)
	case api.DFunc:
		return areParametersAndBlock(n.Kids)
	case api.DUpdate:
		return row(n.Kids, isBlock) || row(n.Kids, isBlock, isBlock)
	}
	return false
}

// row reports whether there is one node for each of the kinds, in their order.
func row(kids []api.Node, kinds ...func(api.Node) bool) bool {
	return slices.EqualFunc(kids, kinds, func(k api.Node, is func(api.Node) bool) bool { return is(k) })
}

// all reports whether all nodes are of one kind.
func all(kids []api.Node, is func(api.Node) bool) bool {
	for _, k := range kids {
		if !is(k) {
			return false
		}
	}
	return true
}

func areBranches(kids []api.Node) bool {
	cases := kids
	if last := len(kids) - 1; last >= 0 && kids[last].Op == api.SElse {
		cases = kids[:last]
	}
	return len(kids) > 0 && len(cases) <= api.MaxCases && all(cases, isCase)
}

func areParametersAndBlock(kids []api.Node) bool {
	last := len(kids) - 1
	return last >= 0 && all(kids[:last], isVariable) && isBlock(kids[last])
}

// The following functions tell the kind of a node by its Op; whether the node is well formed is checked for itself.

func isExpr(n api.Node) bool { return api.XNull <= n.Op && n.Op <= api.XField && n.Op != api.XPair }

func isPair(n api.Node) bool { return n.Op == api.XPair }

func isVariable(n api.Node) bool { return n.Op == api.XName }

func isBlock(n api.Node) bool { return n.Op == api.SBlock }

func isElsePart(n api.Node) bool { return n.Op == api.SBlock || n.Op == api.SIf }

func isCase(n api.Node) bool { return n.Op == api.SCase }

func isStatement(n api.Node) bool {
	return api.SLet <= n.Op && n.Op <= api.SSelect || n.Op == api.SExpr
}

func isDeclaration(n api.Node) bool { return api.DVar <= n.Op && n.Op <= api.DUpdate }

func isConstant(n api.Node) bool {
	switch n.Op {
	case api.XNull, api.XTrue, api.XFalse, api.XInt, api.XText:
		return true
	case api.XNeg:
		return len(n.Kids) == 1 && n.Kids[0].Op == api.XInt
	}
	return false
}
