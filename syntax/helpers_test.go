package syntax_test

import (
	"fmt"
	"reflect"
	"slices"
	"strings"
	"testing"

	"workflow/api"
	"workflow/syntax"
	"workflow/token"
)

func keywords() []string {
	return strings.Fields("and await case catch check else false func go if let not null on or query return saga select signal throw true try " +
		"undo update var while")
}

func long(n int) string { return strings.Repeat("n", n) }

// brief shortens a text for a message, because some texts in these tests are huge.
func brief(s string) string {
	if len(s) > 200 {
		return fmt.Sprintf("%q..%q (%d bytes)", s[:100], s[len(s)-80:], len(s))
	}
	return fmt.Sprintf("%q", s)
}

func id(s string) api.Node   { return api.Node{Op: api.XName, Name: s} }
func num(n int) api.Node     { return api.Node{Op: api.XInt, Int: n} }
func text(s string) api.Node { return api.Node{Op: api.XText, Text: s} }

func node(op int, kids ...api.Node) api.Node { return api.Node{Op: op, Kids: kids} }

func named(op int, name string, kids ...api.Node) api.Node {
	return api.Node{Op: op, Name: name, Kids: kids}
}

func pair(key string, x api.Node) api.Node {
	return api.Node{Op: api.XPair, Text: key, Kids: []api.Node{x}}
}

func handler(op int, name, parameter string, blocks ...api.Node) api.Node {
	return api.Node{Op: op, Name: name, Text: parameter, Kids: blocks}
}

// words are the names of the Ops in these tests: the sign or keyword where there is one.
var words = map[int]string{
	api.XNull: "null", api.XTrue: "true", api.XFalse: "false", api.XInt: "int", api.XText: "text", api.XName: "name", api.XList: "list",
	api.XMap:  "map",
	api.XPair: "pair", api.XCall: "call", api.XGo: "go", api.XAwait: "await", api.XNot: "not", api.XNeg: "neg", api.XMul: "*", api.XDiv: "/",
	api.XMod: "%",
	api.XAdd: "+", api.XSub: "-", api.XLt: "<", api.XLe: "<=", api.XGt: ">", api.XGe: ">=", api.XEq: "==", api.XNe: "!=", api.XAnd: "and",
	api.XOr:    "or",
	api.XIndex: "index", api.XField: "field", api.SLet: "let", api.SSet: "set", api.SIf: "if", api.SWhile: "while", api.SReturn: "return",
	api.SThrow: "throw",
	api.STry:   "try", api.SSaga: "saga", api.SUndo: "undo", api.SSelect: "select", api.SCase: "case", api.SElse: "else", api.SExpr: "do",
	api.SBlock:   "block",
	api.DProgram: "program", api.DVar: "var", api.DFunc: "func", api.DSignal: "signal", api.DQuery: "query", api.DUpdate: "update",
}

// show writes a tree with all its fields: names, integers, strings and constants as they are, and (word fields kids) for other nodes.
func show(n api.Node) string {
	switch {
	case same(n, id(n.Name)):
		return n.Name
	case same(n, num(n.Int)):
		return fmt.Sprint(n.Int)
	case same(n, text(n.Text)):
		return fmt.Sprintf("%q", n.Text)
	case same(n, node(n.Op)) && n.Op <= api.XFalse && n.Op > 0:
		return words[n.Op]
	}
	parts := []string{words[n.Op]}
	if parts[0] == "" {
		parts[0] = fmt.Sprint("op=", n.Op)
	}
	if n.Name != "" {
		parts = append(parts, n.Name)
	}
	if n.Int != 0 {
		parts = append(parts, fmt.Sprint("int=", n.Int))
	}
	if n.Text != "" {
		parts = append(parts, fmt.Sprintf("%q", n.Text))
	}
	for _, k := range n.Kids {
		parts = append(parts, show(k))
	}
	return "(" + strings.Join(parts, " ") + ")"
}

// same compares trees apart from the package: nil and empty lists are equal.
func same(a, b api.Node) bool {
	return a.Op == b.Op && a.Name == b.Name && a.Int == b.Int && a.Text == b.Text && len(a.Kids) == len(b.Kids) &&
		!slices.ContainsFunc(indices(a.Kids), func(i int) bool { return !same(a.Kids[i], b.Kids[i]) })
}

func indices(l []api.Node) []int {
	var k []int
	for i := range l {
		k = append(k, i)
	}
	return k
}

// levels returns the nodes of a tree, level by level.
func levels(n api.Node) [][]api.Node {
	l := [][]api.Node{{n}}
	for {
		var next []api.Node
		for _, x := range l[len(l)-1] {
			next = append(next, x.Kids...)
		}
		if len(next) == 0 {
			return l
		}
		l = append(l, next)
	}
}

// cloned returns a tree that shares no memory with n, with room behind each of its lists.
func cloned(n api.Node) api.Node {
	kids := make([]api.Node, 0, len(n.Kids)+2)
	for _, k := range n.Kids {
		kids = append(kids, cloned(k))
	}
	n.Kids = kids
	return n
}

// places returns pointers to all nodes of a tree, so that a test can change one.
func places(n *api.Node) []*api.Node {
	l := []*api.Node{n}
	for i := range n.Kids {
		l = append(l, places(&n.Kids[i])...)
	}
	return l
}

type parse func(string) (api.Node, int, api.Errno)

// checkTree expects a tree, as show writes it.
func checkTree(t *testing.T, f parse, src, want string) {
	t.Helper()
	n, at, e := f(src)
	if got := show(n); got != want || at != 0 || e != api.OK {
		t.Errorf("the tree of %s is %s, %d, %d, want %s", brief(src), brief(got), at, int(e), brief(want))
	}
}

// checkNode expects a tree.
func checkNode(t *testing.T, f parse, src string, want api.Node) {
	t.Helper()
	if n, at, e := f(src); !same(n, want) || at != 0 || e != api.OK {
		t.Errorf("the tree of %s is %s, %d, %d, want %s", brief(src), brief(show(n)), at, int(e), brief(show(want)))
	}
}

func checkFault(t *testing.T, f parse, src string, at int, want api.Errno) {
	t.Helper()
	n, k, e := f(src)
	if !reflect.DeepEqual(n, api.Node{}) || k != at || e != want {
		t.Errorf("%s has the tree %s, and error %d at %d, want error %d at %d", brief(src), brief(show(n)), int(e), k, int(want), at)
	}
}

// checkRefused expects that the grammar refuses a text at the mark @, which is not part of it.
func checkRefused(t *testing.T, f parse, marked string) {
	t.Helper()
	before, after, ok := strings.Cut(marked, "@")
	if !ok {
		t.Fatalf("no mark in %s", brief(marked))
	}
	checkFault(t, f, before+after, len(before), api.ErrSyntax)
}

// inFunction returns the text of a function with the given statements.
func inFunction(statements string) string { return "func f() { " + statements + " }" }

// checkStatement expects the tree of a statement, alone in a block and between two others.
func checkStatement(t *testing.T, src, want string) {
	t.Helper()
	checkTree(t, syntax.Parse, inFunction(src), "(program (func f (block "+want+")))")
	checkTree(t, syntax.Parse, inFunction("a; "+src+" b = 1;"), "(program (func f (block (do a) "+want+" (set b 1))))")
}

// refusedStatement expects that a statement is refused at the mark @.
func refusedStatement(t *testing.T, marked string) {
	t.Helper()
	checkRefused(t, syntax.Parse, inFunction(marked))
	checkRefused(t, syntax.Parse, "var v = 1; func g(a) { if a { "+marked+" } }")
}

// numbers is a fixed sequence that looks random.
type numbers struct{ state uint64 }

func (r *numbers) below(n int) int {
	r.state = r.state*6364136223846793005 + 1442695040888963407
	return int(r.state>>33) % n
}

// scan returns the tokens of a text that has no error in them.
func scan(src string) []api.Token {
	l, at, e := token.Scan(src)
	if e != api.OK {
		panic(fmt.Sprintf("the test cannot scan %s: error %d at %d", brief(src), int(e), at))
	}
	return l
}
