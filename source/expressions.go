package source

import (
	"strconv"
	"strings"

	"workflow/api"
	"workflow/token"
)

// The levels of operators.
const (
	levelOr = iota + 1
	levelAnd
	levelNot
	levelCompare
	levelSum
	levelProduct
	levelUnary
	levelOther
)

func level(op int) int {
	switch op {
	case api.XOr:
		return levelOr
	case api.XAnd:
		return levelAnd
	case api.XNot:
		return levelNot
	case api.XLt, api.XLe, api.XGt, api.XGe, api.XEq, api.XNe:
		return levelCompare
	case api.XAdd, api.XSub:
		return levelSum
	case api.XMul, api.XDiv, api.XMod:
		return levelProduct
	case api.XNeg, api.XAwait, api.XGo:
		return levelUnary
	}
	return levelOther
}

// sign returns the operator that joins two operands.
func sign(op int) string {
	switch op {
	case api.XOr:
		return "or"
	case api.XAnd:
		return "and"
	case api.XLt:
		return "<"
	case api.XLe:
		return "<="
	case api.XGt:
		return ">"
	case api.XGe:
		return ">="
	case api.XEq:
		return "=="
	case api.XNe:
		return "!="
	case api.XAdd:
		return "+"
	case api.XSub:
		return "-"
	case api.XMul:
		return "*"
	case api.XDiv:
		return "/"
	}
	return "%"
}

// expr returns the text of an expression or of an element of a map.
func expr(n api.Node) string {
	switch n.Op {
	case api.XNull:
		return "null"
	case api.XTrue:
		return "true"
	case api.XFalse:
		return "false"
	case api.XInt:
		return strconv.Itoa(n.Int)
	case api.XText:
		return token.Quote(n.Text)
	case api.XName:
		return n.Name
	case api.XList:
		return "[" + list(n.Kids) + "]"
	case api.XMap:
		return "{" + list(n.Kids) + "}"
	case api.XPair:
		return token.Quote(n.Text) + ": " + expr(n.Kids[0])
	case api.XCall:
		return call(n)
	case api.XGo:
		return "go " + call(n)
	case api.XAwait:
		return "await " + operand(n.Kids[0], levelUnary)
	case api.XNot:
		return "not " + operand(n.Kids[0], levelNot)
	case api.XNeg:
		return "-" + operand(n.Kids[0], levelUnary)
	case api.XIndex:
		return operand(n.Kids[0], levelOther) + "[" + expr(n.Kids[1]) + "]"
	case api.XField:
		return operand(n.Kids[0], levelOther) + "." + n.Name
	}
	return operation(n)
}

// operation returns the text of an operator with its two operands.
func operation(n api.Node) string {
	own := level(n.Op)
	left := own
	if own == levelCompare {
		left++ // The grammar has no chains of comparisons.
	}
	return operand(n.Kids[0], left) + " " + sign(n.Op) + " " + operand(n.Kids[1], own+1)
}

// operand returns the text of an expression in a place that takes the given level and higher ones.
func operand(n api.Node, least int) string {
	if level(n.Op) < least {
		return "(" + expr(n) + ")"
	}
	return expr(n)
}

// call returns the text of a name and its arguments.
func call(n api.Node) string { return n.Name + "(" + list(n.Kids) + ")" }

func list(l []api.Node) string {
	var texts []string
	for _, n := range l {
		texts = append(texts, expr(n))
	}
	return strings.Join(texts, ", ")
}
