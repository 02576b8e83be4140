package source

import (
	"strings"

	"workflow/api"
)

func program(n api.Node) string {
	var b strings.Builder
	for _, d := range n.Kids {
		b.WriteString(declaration(d) + "\n")
	}
	return b.String()
}

func declaration(n api.Node) string {
	switch n.Op {
	case api.DVar:
		return "var " + n.Name + " = " + expr(n.Kids[0]) + ";"
	case api.DFunc:
		last := len(n.Kids) - 1
		return "func " + n.Name + "(" + list(n.Kids[:last]) + ") " + block(n.Kids[last], "")
	case api.DSignal:
		return "on signal " + handler(n)
	case api.DQuery:
		return "on query " + handler(n)
	}
	return "on update " + handler(n)
}

// handler returns the text of a handler behind its kind.
func handler(n api.Node) string {
	head := n.Name + "(" + n.Text + ") "
	if len(n.Kids) == 2 {
		return head + "check " + block(n.Kids[0], "") + " " + block(n.Kids[1], "")
	}
	return head + block(n.Kids[0], "")
}

// block returns the text of a block, or the text of a select statement behind its keyword. The indent, here and below, is that
// of the line in which the text begins.
func block(n api.Node, indent string) string {
	var b strings.Builder
	b.WriteString("{\n")
	for _, k := range n.Kids {
		b.WriteString(indent + "  " + statement(k, indent+"  ") + "\n")
	}
	b.WriteString(indent + "}")
	return b.String()
}

// statement returns the text of a statement or of a branch of a select statement.
func statement(n api.Node, indent string) string {
	switch n.Op {
	case api.SLet:
		return "let " + n.Name + " = " + expr(n.Kids[0]) + ";"
	case api.SSet:
		return n.Name + " = " + expr(n.Kids[0]) + ";"
	case api.SIf:
		return ifStatement(n, indent)
	case api.SWhile:
		return "while " + expr(n.Kids[0]) + " " + block(n.Kids[1], indent)
	case api.SReturn:
		return returnStatement(n)
	case api.SThrow:
		return "throw " + expr(n.Kids[0]) + ";"
	case api.STry:
		return "try " + block(n.Kids[0], indent) + " catch " + n.Name + " " + block(n.Kids[1], indent)
	case api.SSaga:
		return "saga " + block(n.Kids[0], indent)
	case api.SUndo:
		return "undo " + call(n) + ";"
	case api.SSelect:
		return "select " + block(n, indent)
	case api.SCase:
		return "case " + variable(n.Name) + expr(n.Kids[0]) + " " + block(n.Kids[1], indent)
	case api.SElse:
		return "else " + block(n.Kids[0], indent)
	}
	return expr(n.Kids[0]) + ";"
}

func ifStatement(n api.Node, indent string) string {
	text := "if " + expr(n.Kids[0]) + " " + block(n.Kids[1], indent)
	if len(n.Kids) == 2 {
		return text
	}
	if other := n.Kids[2]; other.Op == api.SIf {
		return text + " else " + ifStatement(other, indent)
	}
	return text + " else " + block(n.Kids[2], indent)
}

func returnStatement(n api.Node) string {
	if len(n.Kids) == 0 {
		return "return;"
	}
	return "return " + expr(n.Kids[0]) + ";"
}

// variable returns what precedes the expression of a case.
func variable(name string) string {
	if name == "" {
		return ""
	}
	return name + " = "
}
