package source_test

import (
	"strconv"
	"strings"

	"workflow/api"
	"workflow/token"
)

// form returns how the chapter writes a node. I, N and T stand for its integer, its name and its string, and L for the string
// as a literal. A digit stands for the next kid, in parentheses if its level is less than the digit; @ for the kids before
// those of the digits behind it, with commas between them; and # for all kids, each on its own lines, in braces.
func form(n api.Node) string {
	more := n.Op == api.SIf && len(n.Kids) == 3 || n.Op == api.SReturn && len(n.Kids) == 1 || n.Op == api.SCase && n.Name != "" ||
		n.Op == api.DUpdate && len(n.Kids) == 2
	if more {
		return longForms[n.Op]
	}
	return forms[n.Op]
}

var forms = map[int]string{
	api.XNull: "null", api.XTrue: "true", api.XFalse: "false", api.XInt: "I", api.XText: "L", api.XName: "N",
	api.XList: "[@]", api.XMap: "{@}", api.XPair: "L: 0", api.XCall: "N(@)", api.XGo: "go N(@)",
	api.XOr: "1 or 2", api.XAnd: "2 and 3", api.XNot: "not 3",
	api.XLt: "5 < 5", api.XLe: "5 <= 5", api.XGt: "5 > 5", api.XGe: "5 >= 5", api.XEq: "5 == 5", api.XNe: "5 != 5",
	api.XAdd: "5 + 6", api.XSub: "5 - 6", api.XMul: "6 * 7", api.XDiv: "6 / 7", api.XMod: "6 % 7",
	api.XNeg: "-7", api.XAwait: "await 7", api.XIndex: "8[0]", api.XField: "8.N",
	api.SLet: "let N = 0;", api.SSet: "N = 0;", api.SReturn: "return;", api.SThrow: "throw 0;", api.SExpr: "0;", api.SUndo: "undo N(@);",
	api.SWhile: "while 0 0", api.SSaga: "saga 0", api.STry: "try 0 catch N 0", api.SIf: "if 0 0", api.SBlock: "#",
	api.SSelect: "select #", api.SCase: "case 0 0", api.SElse: "else 0",
	api.DVar: "var N = 0;", api.DFunc: "func N(@) 0", api.DSignal: "on signal N(T) 0", api.DQuery: "on query N(T) 0",
	api.DUpdate: "on update N(T) 0",
}

var longForms = map[int]string{
	api.SIf: "if 0 0 else 0", api.SReturn: "return 0;", api.SCase: "case N = 0 0", api.DUpdate: "on update N(T) check 0 0",
}

// levels has the Ops whose level is not 8.
var levels = map[int]int{
	api.XOr: 1, api.XAnd: 2, api.XNot: 3, api.XLt: 4, api.XLe: 4, api.XGt: 4, api.XGe: 4, api.XEq: 4, api.XNe: 4, api.XAdd: 5, api.XSub: 5,
	api.XMul: 6, api.XDiv: 6, api.XMod: 6, api.XNeg: 7, api.XAwait: 7, api.XGo: 7,
}

func levelOf(op int) int {
	if l := levels[op]; l > 0 {
		return l
	}
	return 8
}

// writer writes trees as the forms say. If random is set, it adds parentheses that change nothing.
type writer struct{ random *numbers }

// canonical returns the canonical text of a tree, as these tests understand the chapter.
func canonical(n api.Node) string { return writer{}.tree(n) }

func (w writer) tree(n api.Node) string {
	if n.Op == api.DProgram {
		s := ""
		for _, d := range n.Kids {
			s += w.tree(d) + "\n"
		}
		return s
	}
	s, next, all := "", 0, form(n)
	for i, c := range all {
		switch {
		case c == 'I':
			s += strconv.Itoa(n.Int)
		case c == 'N':
			s += n.Name
		case c == 'T':
			s += n.Text
		case c == 'L':
			s += token.Quote(n.Text)
		case '0' <= c && c <= '9':
			s += w.kid(n.Op, n.Kids[next], int(c-'0'))
			next++
		case c == '@':
			before := next
			next = len(n.Kids) - strings.Count(all[i:], "0")
			s += w.row(n, n.Kids[before:next])
		case c == '#':
			s += w.lines(n.Kids)
		default:
			s += string(c)
		}
	}
	return s
}

func (w writer) row(n api.Node, kids []api.Node) string {
	var texts []string
	for _, k := range kids {
		texts = append(texts, w.kid(n.Op, k, 0))
	}
	return strings.Join(texts, ", ")
}

// lines moves all lines of the kids to the right; no string has lines of its own, because its line feeds are escaped.
func (w writer) lines(kids []api.Node) string {
	s := "{\n"
	for _, k := range kids {
		s += "  " + strings.ReplaceAll(w.tree(k), "\n", "\n  ") + "\n"
	}
	return s + "}"
}

// kid writes a kid in a place that takes the given level and higher ones.
func (w writer) kid(parent int, n api.Node, least int) string {
	if parent == api.DVar {
		return canonical(n) // The grammar has no parentheses in constants.
	}
	s := w.tree(n)
	if n.Op > api.XField || n.Op == api.XPair || parent == api.DFunc {
		return s
	}
	if levelOf(n.Op) < least {
		s = "(" + s + ")"
	}
	for w.random != nil && w.random.below(3) == 0 {
		s = "(" + s + ")"
	}
	return s
}
