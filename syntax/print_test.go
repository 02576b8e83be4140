package syntax_test

import (
	"strconv"
	"strings"

	"workflow/api"
	"workflow/token"
)

// printer writes trees as text: a second way to say which text stands for a tree. If random is set, it writes blanks and
// parentheses that change nothing; otherwise it writes only the parentheses that are needed. What it writes for a tree that is
// not right does not matter, because no text stands for one.
type printer struct{ random *numbers }

func (p printer) chance(n int) bool { return p.random != nil && p.random.below(n) == 0 }

// gap is what stands between two tokens.
func (p printer) gap() string {
	if p.random == nil {
		return " "
	}
	return []string{" ", "\n", "\t", "  ", " \n\t"}[p.random.below(5)]
}

// row writes tokens and parts with blanks between them.
func (p printer) row(parts ...string) string {
	s := ""
	for _, x := range parts {
		if x != "" {
			s += p.gap() + x
		}
	}
	return strings.TrimLeft(s, " \n\t")
}

func (p printer) texts(l []api.Node) []string {
	var texts []string
	for _, n := range l {
		texts = append(texts, p.text(n))
	}
	return texts
}

// commas writes parts with commas between them.
func (p printer) commas(l []api.Node) string {
	return strings.Join(p.texts(l), p.gap()+","+p.gap())
}

// levelOf returns the level of a node as chapter 9 numbers them.
func levelOf(op int) int {
	switch op {
	case api.XOr:
		return 1
	case api.XAnd:
		return 2
	case api.XNot:
		return 3
	case api.XLt, api.XLe, api.XGt, api.XGe, api.XEq, api.XNe:
		return 4
	case api.XAdd, api.XSub:
		return 5
	case api.XMul, api.XDiv, api.XMod:
		return 6
	case api.XNeg, api.XAwait, api.XGo:
		return 7
	}
	return 8
}

// operand writes an operand, in parentheses if its level is less than the given one.
func (p printer) operand(n api.Node, least int) string {
	s := p.text(n)
	if levelOf(n.Op) < least || p.chance(6) {
		return p.row("(", s, ")")
	}
	return s
}

func (p printer) operands(l []api.Node, least int, between string) string {
	var texts []string
	for i, n := range l {
		texts = append(texts, p.operand(n, least+min(i, 1)))
	}
	return strings.Join(texts, p.gap()+between+p.gap())
}

// whole writes an expression in a place that takes any.
func (p printer) whole(l []api.Node) string { return p.operands(l, 0, ",") }

func (p printer) text(n api.Node) string {
	switch {
	case n.Op <= api.XPair:
		return p.leaf(n)
	case n.Op <= api.XField:
		return p.operation(n)
	case n.Op < api.DProgram:
		return p.statement(n)
	}
	return p.declaration(n)
}

func (p printer) leaf(n api.Node) string {
	switch n.Op {
	case api.XInt:
		return strconv.Itoa(n.Int)
	case api.XText:
		return token.Quote(n.Text)
	case api.XName:
		return n.Name
	case api.XList:
		return p.row("[", p.commas(n.Kids), "]")
	case api.XMap:
		return p.row("{", p.commas(n.Kids), "}")
	case api.XPair:
		return p.row(token.Quote(n.Text), ":", p.whole(n.Kids))
	}
	return words[n.Op]
}

func (p printer) operation(n api.Node) string {
	word, level := words[n.Op], levelOf(n.Op)
	switch n.Op {
	case api.XCall:
		return p.row(n.Name, "(", p.commas(n.Kids), ")")
	case api.XGo:
		return p.row(word, n.Name, "(", p.commas(n.Kids), ")")
	case api.XAwait, api.XNot:
		return p.row(word, p.operands(n.Kids, level, ","))
	case api.XNeg:
		return p.row("-", p.operands(n.Kids, level, ","))
	case api.XIndex:
		if len(n.Kids) != 2 {
			return "?"
		}
		return p.row(p.operand(n.Kids[0], 8), "[", p.operand(n.Kids[1], 0), "]")
	case api.XField:
		return p.row(p.operands(n.Kids, 8, ","), ".", n.Name)
	case api.XLt, api.XLe, api.XGt, api.XGe, api.XEq, api.XNe:
		if len(n.Kids) != 2 {
			return "?"
		}
		return p.row(p.operand(n.Kids[0], 5), word, p.operand(n.Kids[1], 5))
	}
	return p.operands(n.Kids, level, word)
}

func (p printer) statement(n api.Node) string {
	word := words[n.Op]
	switch n.Op {
	case api.SLet:
		return p.row(word, n.Name, "=", p.whole(n.Kids), ";")
	case api.SSet:
		return p.row(n.Name, "=", p.whole(n.Kids), ";")
	case api.SReturn, api.SThrow:
		return p.row(word, p.whole(n.Kids), ";")
	case api.SExpr:
		return p.row(p.whole(n.Kids), ";")
	case api.SUndo:
		return p.row(word, n.Name, "(", p.commas(n.Kids), ")", ";")
	case api.STry:
		return p.row(word, p.row(p.texts(n.Kids[:min(1, len(n.Kids))])...), "catch", n.Name, p.row(p.texts(n.Kids[min(1, len(n.Kids)):])...))
	case api.SCase:
		if n.Name != "" {
			return p.row(word, n.Name, "=", p.row(p.texts(n.Kids)...))
		}
	case api.SIf:
		if len(n.Kids) == 3 {
			return p.row(word, p.row(p.texts(n.Kids[:2])...), "else", p.text(n.Kids[2]))
		}
	case api.SSelect:
		return p.row(word, "{", p.row(p.texts(n.Kids)...), "}")
	case api.SBlock:
		return p.row("{", p.row(p.texts(n.Kids)...), "}")
	}
	return p.row(word, p.row(p.texts(n.Kids)...))
}

func (p printer) declaration(n api.Node) string {
	word := words[n.Op]
	switch n.Op {
	case api.DProgram:
		return p.row(p.texts(n.Kids)...)
	case api.DVar:
		return p.row(word, n.Name, "=", printer{}.commas(n.Kids), ";")
	case api.DFunc:
		last := max(0, len(n.Kids)-1)
		return p.row(word, n.Name, "(", p.commas(n.Kids[:last]), ")", p.row(p.texts(n.Kids[last:])...))
	case api.DUpdate:
		if len(n.Kids) == 2 {
			return p.row("on", word, n.Name, "(", n.Text, ")", "check", p.row(p.texts(n.Kids)...))
		}
	}
	return p.row("on", word, n.Name, "(", n.Text, ")", p.row(p.texts(n.Kids)...))
}
