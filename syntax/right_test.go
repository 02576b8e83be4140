package syntax_test

import (
	"math"
	"reflect"
	"slices"
	"strings"
	"testing"

	"workflow/api"
	"workflow/syntax"
)

// block, and so on, are small right trees that others are made of.
func block(statements ...api.Node) api.Node { return node(api.SBlock, statements...) }

func ask(x api.Node, kids ...api.Node) api.Node {
	return node(api.SIf, append([]api.Node{x, block()}, kids...)...)
}

func when(name string, x api.Node) api.Node { return named(api.SCase, name, x, block()) }

func otherwise() api.Node { return node(api.SElse, block()) }

func function(statements ...api.Node) api.Node {
	return named(api.DFunc, "f", block(statements...))
}

func program(declarations ...api.Node) api.Node { return node(api.DProgram, declarations...) }

func binaryOps() []int {
	var l []int
	for op := api.XMul; op <= api.XIndex; op++ {
		l = append(l, op)
	}
	return l
}

// rightExprs returns expression trees of every form, in each place that takes one.
func rightExprs() []api.Node {
	a := id("a")
	l := []api.Node{
		node(api.XNull), node(api.XTrue), node(api.XFalse), num(0), num(7), num(math.MaxInt), text(""), text("s"), text("if"),
		text("\x00\xff\"\n"), text(strings.Repeat("\n", api.MaxText)), a, id("_"),
		id("Z9"), id(long(api.MaxName)), node(api.XList), node(api.XList, a), node(api.XList, a, num(1), text("s")), node(api.XMap),
		node(api.XMap, pair("", a)), node(api.XMap, pair("k", a), pair("k", num(1)), pair("if", a)),
		node(api.XMap, pair(strings.Repeat("\t", api.MaxText), a)), named(api.XCall, "f"), named(api.XCall, "f", a, num(1)),
		named(api.XGo, "f"), named(api.XGo, "f", a, num(1)), node(api.XAwait, a), node(api.XNot, a), node(api.XNeg, a),
		named(api.XField, "k", a), node(api.XNeg, node(api.XNeg, num(0))), node(api.XAwait, named(api.XGo, "f")),
		named(api.XCall, "f", node(api.XMap, pair("k", node(api.XList, node(api.XOr, a, node(api.XNot, num(2))))))),
	}
	for _, op := range binaryOps() {
		l = append(l, node(op, a, num(1)))
		for _, inner := range []int{api.XNot, api.XNeg, api.XAwait} {
			l = append(l, node(op, node(inner, a), node(inner, a)), node(inner, node(op, a, a)), named(api.XField, "k", node(inner, a)),
				node(inner, named(api.XGo, "f")))
		}
		l = append(l, named(api.XField, "k", node(op, a, a)), node(op, named(api.XGo, "f"), named(api.XGo, "f")),
			node(api.XMap, pair("k", node(op, a, a))))
	}
	return l
}

// operatorPairs returns trees in which every binary operator has every other one as operands.
func operatorPairs() []api.Node {
	var l []api.Node
	for _, op := range binaryOps() {
		for _, inner := range binaryOps() {
			l = append(l, node(op, node(inner, id("a"), id("b")), node(inner, id("c"), id("d"))))
		}
	}
	return l
}

// rightStatements returns statement trees of every form.
func rightStatements() []api.Node {
	a, b := id("a"), id("b")
	return []api.Node{
		named(api.SLet, "x", a), named(api.SSet, "x", a), ask(a), ask(a, block()), ask(a, ask(b)), ask(a, ask(b, ask(a, block()))),
		node(api.SIf, node(api.XMap), block(node(api.SReturn)), block(node(api.SReturn))),
		node(api.SWhile, a, block()), node(api.SReturn), node(api.SReturn, a), node(api.SThrow, a), named(api.STry, "x", block(), block()),
		named(api.STry, "x", block(node(api.SReturn)), block(node(api.SThrow, a))),
		node(api.SSaga, block()), node(api.SSaga, block(named(api.SUndo, "f"))), named(api.SUndo, "f"), named(api.SUndo, "f", a, b),
		node(api.SSelect, when("", a)), node(api.SSelect, when("x", a), when("", b), otherwise()),
		node(api.SSelect, otherwise()), node(api.SSelect, slices.Repeat([]api.Node{when("x", a)}, api.MaxCases)...),
		node(api.SSelect, append(slices.Repeat([]api.Node{when("", a)}, api.MaxCases), otherwise())...),
		node(api.SSelect, named(api.SCase, "x", a, block(node(api.SReturn))), node(api.SElse, block(node(api.SReturn)))), node(api.SExpr, a),
		node(api.SExpr, node(api.XMap)), node(api.SExpr, node(api.XEq, a, b)),
	}
}

// rightPrograms returns program trees with every form of a declaration and of a statement.
func rightPrograms() []api.Node {
	l := []api.Node{
		program(), program(function()), program(function(), function()), program(named(api.DFunc, "f", id("a"), block())),
		program(named(api.DFunc, "f", id("a"), id("b"), id("a"), block(node(api.SReturn)))),
		program(handler(api.DSignal, "s", "x", block())), program(handler(api.DQuery, "q", "x", block(node(api.SReturn)))),
		program(handler(api.DUpdate, "u", "x", block())), program(handler(api.DUpdate, "u", "x", block(), block())),
		program(handler(api.DUpdate, "u", "u", block(node(api.SReturn)), block(node(api.SReturn)))),
		program(named(api.DVar, "v", num(1)), function(), handler(api.DUpdate, "f", "f", block()), named(api.DVar, "v", text(""))),
		program(function(rightStatements()...)), program(named(api.DFunc, "f", append(slices.Repeat([]api.Node{id("p")}, 200), block())...)),
	}
	for _, x := range []api.Node{node(api.XNull), node(api.XTrue), node(api.XFalse), num(0), num(math.MaxInt), text(""), text("s"),
		node(api.XNeg, num(0)), node(api.XNeg, num(5))} {
		l = append(l, program(named(api.DVar, "v", x)))
	}
	for _, x := range rightStatements() {
		l = append(l, program(function(x)), program(handler(api.DUpdate, "u", "x", block(x), block(x, x))))
	}
	return l
}

func checkRight(t *testing.T, n api.Node, wantProgram, wantExpr bool) {
	t.Helper()
	if got := syntax.Right(n); got != wantProgram {
		t.Errorf("Right(%s) = %t", brief(show(n)), got)
	}
	if got := syntax.RightExpr(n); got != wantExpr {
		t.Errorf("RightExpr(%s) = %t", brief(show(n)), got)
	}
}

func TestP8_3_RightTrees(t *testing.T) {
	for _, n := range append(rightExprs(), operatorPairs()...) {
		checkRight(t, n, false, true)
		checkRight(t, cloned(n), false, true)
		checkRight(t, program(function(node(api.SReturn, n))), true, false)
	}
	for _, n := range rightPrograms() {
		checkRight(t, n, true, false)
		checkRight(t, cloned(n), true, false)
	}
}

func TestP8_3_PartsOfProgramsAreNoTrees(t *testing.T) {
	parts := append(rightStatements(), function(), named(api.DVar, "v", num(1)), handler(api.DSignal, "s", "x", block()),
		handler(api.DQuery, "q", "x", block()), handler(api.DUpdate, "u", "x", block()), block(), when("x", id("a")), when("", id("a")), otherwise(),
		pair("k", id("a")), api.Node{})
	for _, n := range parts {
		checkRight(t, n, false, false)
		checkRight(t, node(api.XList, n), false, false)
		checkRight(t, node(api.XNot, n), false, false)
		checkRight(t, program(program(), n), false, false)
	}
	checkRight(t, program(id("a")), false, false)
	checkRight(t, program(block()), false, false)
	checkRight(t, program(program()), false, false)
}

func TestP8_3_UnknownOps(t *testing.T) {
	for op := -70; op <= 300; op++ {
		if words[op] != "" {
			continue
		}
		for _, kids := range [][]api.Node{nil, {id("a")}, {id("a"), id("b")}, {block()}, {id("a"), block()}} {
			n := node(op, kids...)
			checkRight(t, n, false, false)
			checkRight(t, node(api.XList, n), false, false)
			checkRight(t, program(n), false, false)
			checkRight(t, program(function(n)), false, false)
			checkRight(t, program(named(api.DVar, "v", n)), false, false)
			checkRight(t, program(named(api.DFunc, "f", n, block())), false, false)
			checkRight(t, program(named(api.DFunc, "f", n)), false, false)
		}
	}
	for _, op := range []int{math.MinInt, math.MaxInt, 1 << 32, 1<<32 + api.DProgram, 256 + api.DProgram, 256 + api.XNull} {
		checkRight(t, node(op), false, false)
	}
}

// wrongForms are trees that break one rule each.
func wrongForms() (statements, exprs, declarations []api.Node) {
	a := id("a")
	statements = []api.Node{
		block(), when("", a), otherwise(), a, function(), named(api.SLet, "x"), named(api.SLet, "x", a, a), named(api.SLet, "x", block()),
		named(api.SLet, "", a), named(api.SSet, "x"), named(api.SSet, "x", a, a), named(api.SSet, "", a),
		node(api.SIf), node(api.SIf, a), node(api.SIf, block(), a), node(api.SIf, a, a), ask(a, a), ask(a, block(), block()),
		ask(a, otherwise()), ask(a, node(api.SWhile, a, block())), ask(a, node(api.SIf, a)), node(api.SIf, a, ask(a)),
		node(api.SWhile, a), node(api.SWhile, block(), a), node(api.SWhile, a, block(), block()), node(api.SWhile, a, ask(a)),
		node(api.SReturn, a, a), node(api.SReturn, block()), node(api.SReturn, node(api.SReturn)), node(api.SThrow),
		node(api.SThrow, a, a), node(api.SThrow, block()), named(api.STry, "x"), named(api.STry, "x", block()),
		named(api.STry, "x", block(), block(), block()), named(api.STry, "", block(), block()), named(api.STry, "x", block(), a),
		named(api.STry, "x", a, block()), node(api.SSaga), node(api.SSaga, block(), block()), node(api.SSaga, a), node(api.SUndo, a),
		named(api.SUndo, "f", block()), named(api.SUndo, "f", a, pair("k", a)),
		node(api.SSelect), node(api.SSelect, a), node(api.SSelect, block()), node(api.SSelect, otherwise(), when("", a)),
		node(api.SSelect, otherwise(), otherwise()), node(api.SSelect, when("", a), otherwise(), otherwise()), node(api.SSelect, when("", a), a),
		node(api.SSelect, when("", a), otherwise(), when("", a)),
		node(api.SSelect, slices.Repeat([]api.Node{when("", a)}, api.MaxCases+1)...),
		node(api.SSelect, append(slices.Repeat([]api.Node{when("", a)}, api.MaxCases+1), otherwise())...),
		node(api.SSelect, append([]api.Node{otherwise()}, slices.Repeat([]api.Node{when("", a)}, api.MaxCases)...)...),
		node(api.SSelect, node(api.SCase, a)), node(api.SSelect, node(api.SCase, block(), a)),
		node(api.SSelect, node(api.SCase, a, block(), block())),
		node(api.SSelect, named(api.SCase, "if", a, block())), node(api.SSelect, node(api.SElse)), node(api.SSelect, node(api.SElse, a)),
		node(api.SSelect, node(api.SElse, ask(a))), node(api.SSelect, node(api.SElse, block(), block())), node(api.SExpr),
		node(api.SExpr, a, a), node(api.SExpr, block()), node(api.SExpr, node(api.SExpr, a)), node(api.SExpr, pair("k", a)),
		node(api.SSaga, block(block())), node(api.SSaga, block(otherwise())), node(api.SSaga, block(a)),
		node(api.SIf, a, ask(a), block()), node(api.SIf, a, ask(a), ask(a)), node(api.SSelect, node(api.SCase, a, ask(a))),
		named(api.STry, "x", ask(a), block()), named(api.STry, "x", block(), ask(a)), node(api.SSaga, ask(a)),
	}
	exprs = []api.Node{
		node(api.XNull, a), node(api.XTrue, a), node(api.XFalse, a), {Op: api.XInt, Int: 1, Kids: []api.Node{a}},
		{Op: api.XText, Kids: []api.Node{a}}, named(api.XName, "x", a), num(-1), num(math.MinInt), text(long(api.MaxText + 1)), id(""),
		node(api.XList, block()), node(api.XList, a, pair("k", a)), node(api.XMap, a), node(api.XMap, pair("k", a), a),
		node(api.XMap, node(api.XPair)), node(api.XMap, node(api.XPair, a, a)), node(api.XMap, node(api.XPair, pair("k", a))),
		node(api.XMap, named(api.XPair, "k", a)), node(api.XMap, pair(long(api.MaxText+1), a)), node(api.XMap, pair("k", block())),
		pair("k", a), node(api.XCall, a), named(api.XCall, "f", block()), node(api.XGo), named(api.XGo, "f", node(api.SReturn)),
		node(api.XField, a), named(api.XField, "k"), named(api.XField, "k", a, a), named(api.XField, "k", block()), named(api.XCall, "if"),
		named(api.XGo, "go"), named(api.XField, "check", a),
	}
	for _, op := range []int{api.XAwait, api.XNot, api.XNeg} {
		exprs = append(exprs, node(op), node(op, a, a), node(op, block()), node(op, pair("k", a)), named(op, "x", a))
	}
	for _, op := range binaryOps() {
		exprs = append(exprs, node(op), node(op, a), node(op, a, a, a), node(op, a, block()), node(op, pair("k", a), a), named(op, "x", a, a))
	}
	declarations = []api.Node{
		named(api.DVar, "v"), named(api.DVar, "v", num(1), num(1)), named(api.DVar, "", num(1)), named(api.DVar, "v", a),
		named(api.DVar, "v", num(-1)), named(api.DVar, "v", node(api.XList)), named(api.DVar, "v", node(api.XMap)),
		named(api.DVar, "v", node(api.XNeg)),
		named(api.DVar, "v", node(api.XNeg, a)), named(api.DVar, "v", node(api.XNeg, text("s"))),
		named(api.DVar, "v", node(api.XNeg, node(api.XTrue))), named(api.DVar, "v", node(api.XNeg, node(api.XNeg, num(1)))),
		named(api.DVar, "v", node(api.XNot, num(1))),
		named(api.DVar, "v", node(api.XNeg, num(1), num(1))), named(api.DVar, "v", node(api.XNeg, num(-1))),
		named(api.DVar, "v", node(api.XAdd, num(1), num(1))), named(api.DVar, "v", node(api.XNot, node(api.XTrue))),
		named(api.DVar, "v", node(api.XAwait, num(1))),
		named(api.DFunc, "f"), named(api.DFunc, "f", a), named(api.DFunc, "f", block(), a), named(api.DFunc, "f", num(1), block()),
		named(api.DFunc, "f", block(), block()), named(api.DFunc, "f", a, block(), block()), named(api.DFunc, "f", named(api.XCall, "a"), block()),
		named(api.DFunc, "", block()), named(api.DFunc, "f", id("if"), block()), named(api.DFunc, "f", id(""), block()),
		named(api.DFunc, "f", ask(a)), handler(api.DUpdate, "u", "x", block(), block(), block()), handler(api.DUpdate, "u", "x", block(), a),
		named(api.DFunc, "f", named(api.XName, "a", a), block()), program(), block(), a, api.Node{},
		{Op: api.DFunc, Name: "f", Text: "x", Kids: []api.Node{block()}},
	}
	for _, op := range []int{api.DSignal, api.DQuery, api.DUpdate} {
		declarations = append(declarations, handler(op, "s", "x"), handler(op, "", "x", block()), handler(op, "s", "", block()),
			handler(op, "if", "x", block()), handler(op, "s", "if", block()), handler(op, "s", "1", block()), handler(op, "s", long(65), block()),
			handler(op, "s", "x", a), handler(op, "s", "x", a, block()), handler(op, "s", "x", ask(a)), handler(op, "s", "x", block(), ask(a)),
			handler(op, "s", "x", ask(a), block()), api.Node{Op: op, Name: "s", Text: "x", Int: 1, Kids: []api.Node{block()}})
		if op != api.DUpdate {
			declarations = append(declarations, handler(op, "s", "x", block(), block()))
		}
	}
	return statements, exprs, declarations
}

func TestP8_3_WrongForms(t *testing.T) {
	statements, exprs, declarations := wrongForms()
	for _, n := range statements {
		checkRight(t, program(function(n)), false, false)
		checkRight(t, program(function(), handler(api.DUpdate, "u", "x", block(), block(node(api.SReturn), n))), false, false)
		checkRight(t, program(function(ask(id("a"), block(n)))), false, false)
	}
	for _, n := range exprs {
		checkRight(t, n, false, false)
		checkRight(t, node(api.XList, id("a"), n), false, false)
		checkRight(t, node(api.XIndex, n, id("a")), false, false)
		checkRight(t, node(api.XMap, pair("k", n)), false, false)
		checkRight(t, program(function(node(api.SReturn, n))), false, false)
	}
	for _, n := range declarations {
		checkRight(t, n, n.Op == api.DProgram, n.Op == api.XName)
		checkRight(t, program(n), false, false)
		checkRight(t, program(function(), n, function()), false, false)
	}
}

func TestP8_3_Names(t *testing.T) {
	wrong := []string{"", " ", "1", "1a", "a b", " a", "a ", "\ta", "a\n", "a-b", "a.b", "a(", "(a", "a;", `"a"`, "\u00e4", "a\x00", "a\xff",
		"-a", "a/b", "a=b", long(65), long(256 + 64), long(api.MaxSource), long(api.MaxSource + 1), "a" + strings.Repeat(" ", api.MaxSource)}
	wrong = append(wrong, keywords()...)
	right := []string{"a", "Z", "_", "_1", "a9_Z", "If", "checks", "on_", "main", "len", "activity", long(63), long(64)}
	for c := range 256 {
		if s := string([]byte{byte(c)}); strings.Contains("ABCDEFGHIJKLMNOPQRSTUVWXYZ_abcdefghijklmnopqrstuvwxyz", s) {
			right = append(right, s, "x"+s+"y")
		} else if strings.Contains("0123456789", s) {
			right, wrong = append(right, "x"+s+"y"), append(wrong, s)
		} else {
			wrong = append(wrong, s, "x"+s+"y")
		}
	}
	a := id("a")
	for i, s := range append(wrong, right...) {
		want := i >= len(wrong)
		for _, n := range []api.Node{id(s), named(api.XCall, s), named(api.XGo, s, a), named(api.XField, s, a)} {
			checkRight(t, n, false, want)
		}
		for _, n := range []api.Node{named(api.SLet, s, a), named(api.SSet, s, a), named(api.STry, s, block(), block()), named(api.SUndo, s)} {
			checkRight(t, program(function(n)), want, false)
		}
		checkRight(t, program(function(node(api.SSelect, when(s, a)))), want || s == "", false)
		for _, n := range []api.Node{
			named(api.DVar, s, num(1)), named(api.DFunc, s, block()), named(api.DFunc, "f", a, id(s), block()),
			handler(api.DSignal, s, "x", block()), handler(api.DQuery, s, "x", block()), handler(api.DUpdate, s, "x", block()),
			handler(api.DSignal, "x", s, block()), handler(api.DQuery, "x", s, block()), handler(api.DUpdate, "x", s, block(), block()),
		} {
			checkRight(t, program(n), want, false)
		}
	}
}

// spread returns a list of n - 1 names: a tree of n nodes.
func spread(n int) api.Node {
	return node(api.XList, slices.Repeat([]api.Node{id("a")}, n-1)...)
}

// deep returns an expression of n levels, the lowest of which is x.
func deep(n int, x api.Node) api.Node {
	for range n - 1 {
		x = node(api.XNot, x)
	}
	return x
}

func TestP8_3_Limits(t *testing.T) {
	for _, n := range []int{2, 100, 3999, 4000, 4001, 4002, 5000, 8000, 1 << 17} {
		checkRight(t, spread(n), false, n <= 4000)
		if n > 10 {
			checkRight(t, node(api.XList, spread(n/2), spread(n-1-n/2)), false, n <= 4000)
			checkRight(t, program(function(node(api.SReturn, spread(n-4)))), n <= 4000, false)
			checkRight(t, program(slices.Repeat([]api.Node{function()}, (n-1)/2)...), n <= 4000, false)
		}
	}
	for _, n := range []int{1, 2, 39, 40, 41, 42, 100, 1000, 1 << 16} {
		for _, x := range []api.Node{id("a"), num(1), node(api.XNull)} {
			checkRight(t, deep(n, x), false, n <= 40)
			checkRight(t, node(api.XList, x, deep(n, x), x), false, n+1 <= 40)
			checkRight(t, node(api.XAdd, deep(n, x), x), false, n+1 <= 40)
			checkRight(t, node(api.XAdd, x, deep(n, x)), false, n+1 <= 40)
			checkRight(t, program(function(node(api.SReturn, deep(n, x)))), n+4 <= 40, false)
		}
	}
	checkRight(t, deep(39, spread(4000-38)), false, true)
	checkRight(t, deep(40, spread(4000-39)), false, false)
	checkRight(t, deep(39, spread(4000-37)), false, false)
	checkRight(t, deep(41, spread(4000)), false, false)
	for _, n := range []int{0, 1, 4095, 4096, 4097, 8192, api.MaxSource, 1 << 20} {
		checkRight(t, text(long(n)), false, n <= 4096)
		checkRight(t, text(strings.Repeat("\xff", n)), false, n <= 4096)
		checkRight(t, node(api.XMap, pair(long(n), id("a"))), false, n <= 4096)
		checkRight(t, node(api.XList, slices.Repeat([]api.Node{text(long(n))}, 100)...), false, n <= 4096)
		checkRight(t, program(named(api.DVar, "v", text(long(n)))), n <= 4096, false)
	}
}

// TestP8_3_SharedLists has lists that few bytes make huge: Right must not visit all the nodes.
func TestP8_3_SharedLists(t *testing.T) {
	n := id("a")
	for range 60 {
		n = node(api.XAdd, n, n)
	}
	checkRight(t, n, false, false)
	checkRight(t, program(function(node(api.SReturn, n))), false, false)
	wide := node(api.XList)
	for range 30 {
		wide = node(api.XList, wide, wide)
	}
	checkRight(t, wide, false, false)
}

// differing calls f with trees that differ from n in one field or in the list of kids of one node.
func differing(n api.Node, f func(api.Node)) {
	change := func(edit func(*api.Node)) {
		for i := range places(&n) {
			m := cloned(n)
			edit(places(&m)[i])
			f(m)
		}
	}
	for op := -1; op <= 66; op++ {
		change(func(x *api.Node) { x.Op = op })
	}
	for _, s := range []string{"", "x", "y", "if", "check", "1", " a", "a b", long(64), long(65)} {
		change(func(x *api.Node) { x.Name = s })
		change(func(x *api.Node) { x.Text = s })
	}
	for _, i := range []int{0, 1, -1, math.MaxInt, math.MinInt} {
		change(func(x *api.Node) { x.Int = i })
	}
	change(func(x *api.Node) { x.Text = strings.Repeat("\n", 4096) })
	change(func(x *api.Node) { x.Text = strings.Repeat("\n", 4097) })
	change(func(x *api.Node) { x.Kids = nil })
	change(func(x *api.Node) { x.Kids = x.Kids[:max(0, len(x.Kids)-1)] })
	change(func(x *api.Node) { x.Kids = x.Kids[min(1, len(x.Kids)):] })
	change(func(x *api.Node) { slices.Reverse(x.Kids) })
	for _, kid := range []api.Node{{}, id("a"), num(1), node(api.XNull), node(api.XNeg, num(1)), pair("k", id("a")), block(), ask(id("a")),
		node(api.SReturn), when("", id("a")), otherwise(), function(), named(api.DVar, "v", num(1))} {
		change(func(x *api.Node) { x.Kids = append(x.Kids, kid) })
		change(func(x *api.Node) { x.Kids = append([]api.Node{kid}, x.Kids...) })
		change(func(x *api.Node) {
			if len(x.Kids) > 0 {
				x.Kids[0] = kid
			}
		})
	}
}

// someTrees returns right trees that are small enough for every difference in every place.
func someTrees() []api.Node {
	var l []api.Node
	for _, n := range append(rightExprs(), rightPrograms()...) {
		if len(slices.Concat(levels(n)...)) < 12 && len(n.Text) < 100 {
			l = append(l, n)
		}
	}
	return l
}

// TestP8_3_EveryDifference decides with the parser: a tree is right exactly if the text of a right tree stands for it.
func TestP8_3_EveryDifference(t *testing.T) {
	good, all := 0, 0
	for _, n := range someTrees() {
		differing(n, func(m api.Node) {
			f := syntax.Expr
			if m.Op == api.DProgram {
				f = syntax.Parse
			}
			x, _, e := f(printer{}.text(m))
			want := e == api.OK && same(x, m)
			checkRight(t, m, want && m.Op == api.DProgram, want && m.Op != api.DProgram)
			all++
			if want {
				good++
			}
		})
	}
	if good < 5000 || all-good < 50000 {
		t.Errorf("of %d trees %d are right", all, good)
	}
}

func TestP8_4_SizeAndDepth(t *testing.T) {
	check := func(n api.Node, size, depth int) {
		t.Helper()
		if syntax.Size(n) != size || syntax.Depth(n) != depth {
			t.Errorf("%s: the size is %d and the depth %d, want %d and %d", brief(show(n)), syntax.Size(n), syntax.Depth(n), size, depth)
		}
	}
	check(api.Node{}, 1, 1)
	check(api.Node{Op: -5, Name: "if", Int: -1, Text: "x"}, 1, 1)
	check(node(api.XAdd, id("a"), node(api.XMul, id("b"), num(2))), 5, 3)
	check(node(api.XAdd, node(api.XMul, id("b"), num(2)), id("a")), 5, 3)
	check(program(function(ask(id("a"), ask(id("b"), block())))), 10, 6)
	check(node(0, api.Node{}, node(0, api.Node{}, node(-3, api.Node{}), api.Node{}), api.Node{}), 8, 4)
	check(spread(5000), 5000, 2)
	check(deep(5000, id("a")), 5000, 5000)
	check(deep(1<<16, spread(7)), 1<<16+6, 1<<16+1)
	check(api.Node{Kids: []api.Node{}}, 1, 1)
	for _, n := range someTrees() {
		differing(n, func(m api.Node) {
			l := levels(m)
			check(m, len(slices.Concat(l...)), len(l))
		})
	}
}

func TestP8_4_Same(t *testing.T) {
	for _, n := range append(someTrees(), rightPrograms()...) {
		if m := cloned(n); !syntax.Same(n, m) || !syntax.Same(m, n) || !syntax.Same(n, n) {
			t.Errorf("%s differs from itself", brief(show(n)))
		}
	}
	for _, n := range someTrees() {
		differing(n, func(m api.Node) {
			want := same(n, m)
			if syntax.Same(n, m) != want || syntax.Same(m, n) != want {
				t.Errorf("Same(%s, %s) = %t", brief(show(n)), brief(show(m)), !want)
			}
		})
	}
}

func TestP8_4_SameByHand(t *testing.T) {
	full := api.Node{Op: 1, Name: "n", Int: 2, Text: "t", Kids: []api.Node{{Op: 3, Name: "m", Int: 4, Text: "u", Kids: []api.Node{{}}}, {Int: 5}}}
	for _, edit := range []func(*api.Node){
		func(n *api.Node) { n.Op = 2 }, func(n *api.Node) { n.Name = "" }, func(n *api.Node) { n.Int = -2 },
		func(n *api.Node) { n.Text = "T" }, func(n *api.Node) { n.Kids = nil }, func(n *api.Node) { n.Kids = n.Kids[:1] },
		func(n *api.Node) { n.Kids = append(n.Kids, api.Node{}) }, func(n *api.Node) { slices.Reverse(n.Kids) },
		func(n *api.Node) { n.Kids[0].Op = 2 }, func(n *api.Node) { n.Kids[0].Name = "n" }, func(n *api.Node) { n.Kids[0].Int = 2 },
		func(n *api.Node) { n.Kids[0].Text = "" }, func(n *api.Node) { n.Kids[0].Kids = nil }, func(n *api.Node) { n.Kids[0].Kids[0].Op = 1 },
		func(n *api.Node) { n.Kids[0].Kids[0].Kids = []api.Node{{}} }, func(n *api.Node) { n.Kids[1].Int = 1<<32 + 5 },
	} {
		m := cloned(full)
		if !syntax.Same(full, m) {
			t.Fatal("a copy differs")
		}
		edit(&m)
		if syntax.Same(full, m) || syntax.Same(m, full) {
			t.Errorf("Same(%s, %s)", show(full), show(m))
		}
	}
	if !syntax.Same(api.Node{}, api.Node{Kids: []api.Node{}}) || !syntax.Same(node(1, api.Node{Kids: []api.Node{}}), node(1, api.Node{})) {
		t.Error("a nil list differs from an empty one")
	}
	if x := deep(1<<16, id("a")); !syntax.Same(x, deep(1<<16, id("a"))) || syntax.Same(x, deep(1<<16, id("b"))) || syntax.Same(x,
		deep(1<<16-1, id("a"))) {
		t.Error("Same of deep trees")
	}
}

// TestR5_ArgumentsAreLeft has junk behind the lists, between their lengths and their capacities.
func TestR5_ArgumentsAreLeft(t *testing.T) {
	for _, n := range append(rightPrograms(), rightExprs()...) {
		m, before := cloned(n), cloned(n)
		for _, tree := range []*api.Node{&m, &before} {
			for _, x := range places(tree) {
				junk := x.Kids[len(x.Kids):cap(x.Kids)]
				for i := range junk {
					junk[i] = named(api.DFunc, "if", named(-1, "junk"))
				}
			}
		}
		if syntax.Right(m) == syntax.RightExpr(m) || syntax.Size(m) != syntax.Size(n) || syntax.Depth(m) != syntax.Depth(n) || !syntax.Same(m,
			n) || !syntax.Same(n, m) {
			t.Errorf("what lies behind a list counts: %s", brief(show(m)))
		}
		if !reflect.DeepEqual(withJunk(m), withJunk(before)) {
			t.Errorf("the argument %s was changed to %s", brief(show(before)), brief(show(m)))
		}
	}
}

// withJunk returns a tree whose lists contain what lies behind them, too.
func withJunk(n api.Node) api.Node {
	kids := slices.Clone(n.Kids[:cap(n.Kids)])
	for i := range n.Kids {
		kids[i] = withJunk(kids[i])
	}
	n.Kids = kids
	return n
}
