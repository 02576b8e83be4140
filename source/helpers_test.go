package source_test

import (
	"fmt"
	"math"
	"slices"
	"strings"
	"testing"

	"workflow/api"
	"workflow/source"
	"workflow/syntax"
	"workflow/token"
)

func id(s string) api.Node   { return api.Node{Op: api.XName, Name: s} }
func num(n int) api.Node     { return api.Node{Op: api.XInt, Int: n} }
func text(s string) api.Node { return api.Node{Op: api.XText, Text: s} }

func node(op int, kids ...api.Node) api.Node { return api.Node{Op: op, Kids: kids} }

func named(op int, name string, kids ...api.Node) api.Node {
	return api.Node{Op: op, Name: name, Kids: kids}
}

func pair(key string, x api.Node) api.Node {
	return api.Node{Op: api.XPair, Text: key, Kids: []api.Node{x}}
}

func block(statements ...api.Node) api.Node { return node(api.SBlock, statements...) }

func program(declarations ...api.Node) api.Node { return node(api.DProgram, declarations...) }

func function(statements ...api.Node) api.Node {
	return named(api.DFunc, "f", block(statements...))
}

// brief shortens what a message shows, because some texts and trees in these tests are huge.
func brief(x any) string {
	s := fmt.Sprint(x)
	if len(s) > 300 {
		return fmt.Sprintf("%q..%q (%d bytes)", s[:150], s[len(s)-130:], len(s))
	}
	return fmt.Sprintf("%q", s)
}

// numbers is a fixed sequence that looks random.
type numbers struct{ state uint64 }

func (r *numbers) below(n int) int {
	r.state = r.state*6364136223846793005 + 1442695040888963407
	return int(r.state>>33) % n
}

// place is a kind of places in a tree.
type place byte

// ops returns the Ops of the nodes that can stand in a place. The first one needs the fewest nodes.
func ops(p place) []int {
	switch p {
	case 'e': // an expression
		l := []int{api.XName}
		for op := api.XNull; op <= api.XField; op++ {
			if op != api.XName && op != api.XPair {
				l = append(l, op)
			}
		}
		return l
	case 's': // a statement
		return []int{api.SReturn, api.SLet, api.SSet, api.SIf, api.SWhile, api.SThrow, api.STry, api.SSaga, api.SUndo, api.SSelect, api.SExpr}
	case 'd': // a declaration
		return []int{api.DVar, api.DFunc, api.DSignal, api.DQuery, api.DUpdate}
	case 'c': // a constant
		return []int{api.XNull, api.XTrue, api.XFalse, api.XInt, api.XText, api.XNeg}
	}
	return []int{map[place]int{'p': api.XPair, 'b': api.SBlock, 'i': api.SIf, 'k': api.SCase, 'o': api.SElse, 'v': api.XName, 'n': api.XInt,
		'g': api.DProgram}[p]}
}

// shapes returns the rows of kids that a node can have, each kid as the kind of its place. The first row needs the fewest nodes.
func shapes(p place, op int) []string {
	if p == 'c' && op == api.XNeg {
		return []string{"n"}
	}
	switch op {
	case api.XNull, api.XTrue, api.XFalse, api.XInt, api.XText, api.XName:
		return []string{""}
	case api.XList, api.XCall, api.XGo, api.SUndo:
		return []string{"", "e", "ee", "eee"}
	case api.XMap:
		return []string{"", "p", "pp", "ppp"}
	case api.XPair, api.XAwait, api.XNot, api.XNeg, api.XField, api.SLet, api.SSet, api.SThrow, api.SExpr:
		return []string{"e"}
	case api.SIf:
		return []string{"eb", "ebb", "ebi"}
	case api.SWhile, api.SCase:
		return []string{"eb"}
	case api.SReturn:
		return []string{"", "e"}
	case api.STry:
		return []string{"bb"}
	case api.SSaga, api.SElse, api.DSignal, api.DQuery:
		return []string{"b"}
	case api.SSelect:
		return []string{"o", "k", "ko", "kk", "kko"}
	case api.SBlock:
		return []string{"", "s", "ss", "sss"}
	case api.DVar:
		return []string{"c"}
	case api.DFunc:
		return []string{"b", "vb", "vvb", "vvvb"}
	case api.DUpdate:
		return []string{"b", "bb"}
	case api.DProgram:
		return []string{"", "d", "dd", "ddd", "dddd"}
	}
	return []string{"ee"}
}

func (r *numbers) name() string {
	return []string{"a", "b", "x1", "_", "main", "len", "If", "orx"}[r.below(8)]
}

func (r *numbers) string() string {
	return []string{"", "s", "or", "(", "{ a; }", "\"\\\n\t\x00\x1f ~\x7f\xff", "1", "\u00e4"}[r.below(8)]
}

// fields fills the fields of a node, apart from its kids.
func (r *numbers) fields(n *api.Node) {
	switch n.Op {
	case api.XInt:
		n.Int = []int{0, 1, 7, 10, 1 << 40, math.MaxInt}[r.below(6)]
	case api.XText, api.XPair:
		n.Text = r.string()
	case api.SCase:
		n.Name = []string{"", r.name()}[r.below(2)]
	case api.XName, api.XCall, api.XGo, api.XField, api.SLet, api.SSet, api.STry, api.SUndo, api.DVar, api.DFunc:
		n.Name = r.name()
	case api.DSignal, api.DQuery, api.DUpdate:
		n.Name, n.Text = r.name(), r.name()
	}
}

// tree returns a random tree for a place.
func (r *numbers) tree(p place, depth int) api.Node {
	l := ops(p)
	op := l[r.below(len(l))]
	rows := shapes(p, op)
	row := rows[r.below(len(rows))]
	if depth <= 0 {
		op = l[0]
		row = shapes(p, op)[0]
	}
	n := node(op)
	r.fields(&n)
	for _, k := range []byte(row) {
		n.Kids = append(n.Kids, r.tree(place(k), depth-1))
	}
	return n
}

// nested calls f with trees of every form for a place, and, if there are more levels, with those in which each kid in turn has
// every form, and so on.
func (r *numbers) nested(p place, levels int, f func(api.Node)) {
	for _, op := range ops(p) {
		for _, row := range shapes(p, op) {
			n := node(op)
			r.fields(&n)
			for _, k := range []byte(row) {
				n.Kids = append(n.Kids, r.tree(place(k), 0))
			}
			f(n)
			for i, k := range []byte(row) {
				if levels > 1 {
					r.nested(place(k), levels-1, func(kid api.Node) {
						m := n
						m.Kids = slices.Clone(n.Kids)
						m.Kids[i] = kid
						f(m)
					})
				}
			}
		}
	}
}

// everyExpr calls f with expression trees of every form, in which every form stands in every place.
func everyExpr(levels int, f func(api.Node)) { (&numbers{3}).nested('e', levels, f) }

// everyProgram does so for program trees: for declarations, and for statements in a function.
func everyProgram(levels int, f func(api.Node)) {
	r := &numbers{4}
	r.nested('g', levels, f)
	r.nested('s', levels, func(s api.Node) { f(program(function(s))) })
}

// randomExprs and randomPrograms call f with n random trees that keep to the limits.
func randomExprs(n int, f func(api.Node)) { random(n, 'e', 5, syntax.RightExpr, f) }

func randomPrograms(n int, f func(api.Node)) { random(n, 'g', 10, syntax.Right, f) }

func random(n int, p place, depth int, right func(api.Node) bool, f func(api.Node)) {
	r := &numbers{uint64(p)}
	for n > 0 {
		if x := r.tree(p, 1+r.below(depth)); right(x) && len(canonical(x)) <= api.MaxSource {
			f(x)
			n--
		}
	}
}

// printed returns what Print, or Expr for an expression, returns for a tree that it accepts.
func printed(t *testing.T, n api.Node) string {
	t.Helper()
	s, e := printer(n)(n)
	if e != api.OK {
		t.Errorf("%s: error %d", brief(n), int(e))
	}
	return s
}

// printer and parser are the functions for a tree of the Op of n.
func printer(n api.Node) func(api.Node) (string, api.Errno) {
	if n.Op == api.DProgram {
		return source.Print
	}
	return source.Expr
}

func parser(n api.Node) func(string) (api.Node, int, api.Errno) {
	if n.Op == api.DProgram {
		return syntax.Parse
	}
	return syntax.Expr
}

// checkText expects a text of a tree.
func checkText(t *testing.T, n api.Node, want string) {
	t.Helper()
	if s, e := printer(n)(n); s != want || e != api.OK {
		t.Errorf("the text of %s is %s, %d, want %s", brief(n), brief(s), int(e), brief(want))
	}
}

// checkRefused expects an error of a tree.
func checkRefused(t *testing.T, f func(api.Node) (string, api.Errno), n api.Node, want api.Errno) {
	t.Helper()
	if s, e := f(n); s != "" || e != want {
		t.Errorf("the text of %s is %s, %d, want error %d", brief(n), brief(s), int(e), int(want))
	}
}

// checkFormat expects a text of a program.
func checkFormat(t *testing.T, src, want string) {
	t.Helper()
	if s, at, e := source.Format(src); s != want || at != 0 || e != api.OK {
		t.Errorf("Format(%s) = %s, %d, %d, want %s", brief(src), brief(s), at, int(e), brief(want))
	}
}

// checkFault expects an error of a text.
func checkFault(t *testing.T, src string, at int, want api.Errno) {
	t.Helper()
	if s, k, e := source.Format(src); s != "" || k != at || e != want {
		t.Errorf("Format(%s) = %s, %d, %d, want error %d at %d", brief(src), brief(s), k, int(e), int(want), at)
	}
}

// inFunction returns the canonical text of a function with the given lines, which are indented by two blanks.
func inFunction(lines ...string) string {
	s := "func f() {\n"
	for _, x := range lines {
		s += "  " + x + "\n"
	}
	return s + "}\n"
}

func long(n int) string { return strings.Repeat("n", n) }

// scan returns the tokens of a text that has no error in them.
func scan(src string) []api.Token {
	l, at, e := token.Scan(src)
	if e != api.OK {
		panic(fmt.Sprintf("the test cannot scan %s: error %d at %d", brief(src), int(e), at))
	}
	return l
}
