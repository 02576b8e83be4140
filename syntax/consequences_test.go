package syntax_test

import (
	"math"
	"slices"
	"strings"
	"testing"

	"workflow/api"
	"workflow/syntax"
)

func (r *numbers) name() string {
	return []string{"a", "b", "x1", "_", "main", "len", "If"}[r.below(7)]
}

func (r *numbers) string() string {
	return []string{"", "s", "or", "(", "a b", "\"\\\n\x00\xff", "1"}[r.below(7)]
}

func (r *numbers) integer() int { return []int{0, 1, 7, 1 << 40, math.MaxInt}[r.below(5)] }

// some returns at most three nodes.
func (r *numbers) some(f func(int) api.Node, depth int) []api.Node {
	var l []api.Node
	for range r.below(4) {
		l = append(l, f(depth))
	}
	return l
}

// constant returns a constant of a global variable.
func (r *numbers) constant() api.Node {
	switch r.below(5) {
	case 0:
		return node(api.XNeg, num(r.integer()))
	case 1:
		return num(r.integer())
	case 2:
		return text(r.string())
	}
	return node(api.XNull + r.below(3))
}

// expr returns a random expression tree of at most the given depth.
func (r *numbers) expr(depth int) api.Node {
	if depth <= 2 {
		return []api.Node{r.constant(), id(r.name()), num(r.integer())}[r.below(3)]
	}
	depth--
	switch r.below(14) {
	case 0:
		return node(api.XList, r.some(r.expr, depth)...)
	case 1:
		return node(api.XMap, r.some(func(d int) api.Node { return pair(r.string(), r.expr(d-1)) }, depth)...)
	case 2:
		return named(api.XCall+r.below(2), r.name(), r.some(r.expr, depth)...)
	case 3:
		return named(api.XField, r.name(), r.expr(depth))
	case 4, 5:
		return node(api.XAwait+r.below(3), r.expr(depth))
	case 6, 7, 8:
		return r.expr(1)
	}
	return node(api.XMul+r.below(api.XIndex-api.XMul+1), r.expr(depth), r.expr(depth))
}

func (r *numbers) block(depth int) api.Node {
	if depth < 6 {
		return block()
	}
	return block(r.some(r.statement, depth-1)...)
}

func (r *numbers) statement(depth int) api.Node {
	depth--
	switch r.below(13) {
	case 0, 1:
		return named(api.SLet+r.below(2), r.name(), r.expr(depth))
	case 2:
		return r.ask(depth + 1)
	case 3:
		return node(api.SWhile, r.expr(depth), r.block(depth))
	case 4:
		return node(api.SReturn)
	case 5:
		return node(api.SReturn, r.expr(depth))
	case 6:
		return node(api.SThrow, r.expr(depth))
	case 7:
		return named(api.STry, r.name(), r.block(depth), r.block(depth))
	case 8:
		return node(api.SSaga, r.block(depth))
	case 9:
		return named(api.SUndo, r.name(), r.some(r.expr, depth)...)
	case 10, 11:
		return r.choice(depth)
	}
	return node(api.SExpr, r.expr(depth))
}

func (r *numbers) ask(depth int) api.Node {
	n := node(api.SIf, r.expr(depth-1), r.block(depth-1))
	switch r.below(3) {
	case 0:
		n.Kids = append(n.Kids, r.block(depth-1))
	case 1:
		n.Kids = append(n.Kids, r.ask(depth-1))
	}
	return n
}

func (r *numbers) choice(depth int) api.Node {
	n := node(api.SSelect)
	for range r.below(4) {
		name := []string{"", r.name()}[r.below(2)]
		n.Kids = append(n.Kids, named(api.SCase, name, r.expr(depth-1), r.block(depth-1)))
	}
	if len(n.Kids) == 0 || r.below(2) == 0 {
		n.Kids = append(n.Kids, node(api.SElse, r.block(depth-1)))
	}
	return n
}

func (r *numbers) declaration(depth int) api.Node {
	switch r.below(6) {
	case 0:
		return named(api.DVar, r.name(), r.constant())
	case 1:
		return handler(api.DSignal+r.below(2), r.name(), r.name(), r.block(depth))
	case 2:
		return handler(api.DUpdate, r.name(), r.name(), r.block(depth))
	case 3:
		return handler(api.DUpdate, r.name(), r.name(), r.block(depth), r.block(depth))
	}
	parameters := r.some(func(int) api.Node { return id(r.name()) }, 0)
	return named(api.DFunc, r.name(), append(parameters, r.block(depth))...)
}

func (r *numbers) program(depth int) api.Node { return program(r.some(r.declaration, depth)...) }

// fits reports whether a text and its tree keep to the limits.
func fits(src string, n api.Node) bool {
	l := levels(n)
	return len(src) <= 16384 && len(l) <= 40 && len(slices.Concat(l...)) <= 4000
}

// randomTrees calls f with random trees and texts that stand for them.
func randomTrees(n int, tree func(r *numbers, depth int) api.Node, f func(src string, n api.Node)) {
	r := &numbers{11}
	for i := range n {
		x := tree(r, 3+i%12)
		for _, p := range []printer{{}, {r}} {
			if src := p.text(x); fits(src, x) {
				f(src, x)
			}
		}
	}
}

func TestP8_1_RandomPrograms(t *testing.T) {
	forms := map[int]int{}
	randomTrees(4000, (*numbers).program, func(src string, n api.Node) {
		checkNode(t, syntax.Parse, src, n)
		checkRight(t, n, true, false)
		for _, x := range slices.Concat(levels(n)...) {
			forms[x.Op]++
		}
	})
	for op, word := range words {
		if forms[op] < 100 {
			t.Errorf("only %d nodes are %s", forms[op], word)
		}
	}
}

func TestP8_2_RandomExpressions(t *testing.T) {
	count := 0
	randomTrees(6000, (*numbers).expr, func(src string, n api.Node) {
		checkNode(t, syntax.Expr, src, n)
		checkRight(t, n, false, true)
		count++
	})
	if count < 6000 {
		t.Errorf("only %d texts", count)
	}
}

// TestP8_1_P8_2_RandomDamage damages texts in several places.
func TestP8_1_P8_2_RandomDamage(t *testing.T) {
	c, r := newChecker(t), &numbers{5}
	all := scan(wholeProgram() + strings.Join(expressions(), " "))
	all = all[:len(all)-1]
	damage := func(src string) string {
		l := scan(src)
		l = l[:len(l)-1]
		for range 1 + r.below(3) {
			at := r.below(len(l) + 1)
			l = slices.Concat(l[:at], []api.Token{all[r.below(len(all))]}, l[min(len(l), at+r.below(3)):])
		}
		return spelled(l)
	}
	for _, src := range programs() {
		for range 100 {
			c.program(damage(src))
		}
	}
	for _, src := range expressions() {
		for range 100 {
			c.expr(damage(src))
		}
	}
	c.atLeast(300)
}

// acceptedPrograms calls f with texts that Parse accepts, and with their trees; acceptedExprs does so for Expr.
func acceptedPrograms(f func(src string, n api.Node)) {
	try := func(src string) {
		if n, _, e := syntax.Parse(src); e == api.OK {
			f(src, n)
		}
	}
	try(wholeProgram())
	for _, src := range programs() {
		try(src)
		damaged(src, try)
	}
	for marked := range nestings() {
		for n := 1; n <= 40; n++ {
			try(inFunction("return " + nested(marked, n) + ";"))
		}
	}
	for n := 3990; n <= 4005; n++ {
		try(inFunction("return [" + strings.Repeat("0,", n) + "0];"))
	}
}

func acceptedExprs(f func(src string, n api.Node)) {
	try := func(src string) {
		if n, _, e := syntax.Expr(src); e == api.OK {
			f(src, n)
		}
	}
	for _, src := range expressions() {
		try(src)
		damaged(src, try)
	}
	for marked := range nestings() {
		for n := 1; n <= 40; n++ {
			try(nested(marked, n))
		}
	}
	for n := 3990; n <= 4005; n++ {
		try("[" + strings.Repeat("0,", n) + "0]")
	}
	try(`["` + strings.Repeat("s", 4096) + `", {"` + strings.Repeat("s", 4096) + `": ` + long(64) + "}]")
}

func TestP8_5_WhatIsParsedIsRight(t *testing.T) {
	count := 0
	acceptedPrograms(func(src string, n api.Node) {
		checkRight(t, n, true, false)
		count++
		if !fits(src, n) {
			t.Errorf("%s exceeds a limit", brief(src))
		}
	})
	acceptedExprs(func(src string, n api.Node) {
		checkRight(t, n, false, true)
		count++
		if !fits(src, n) {
			t.Errorf("%s exceeds a limit", brief(src))
		}
	})
	if count < 4000 {
		t.Errorf("only %d texts are accepted", count)
	}
}

func TestP8_6_TwoPrograms(t *testing.T) {
	l := append(programs(), wholeProgram())
	for n := 1995; n <= 1998; n++ {
		l = append(l, "func f("+strings.Repeat("p,", n)+"p){}")
	}
	for n := 8182; n <= 8185; n++ {
		l = append(l, strings.Repeat(" ", n)+"var v=1;")
	}
	l = append(l, strings.Repeat("var v=1;", 998), "func f() { return "+nested("«-»1", 35)+"; }")
	limited := 0
	for _, a := range l {
		for _, b := range l {
			x, _, e := syntax.Parse(a)
			y, _, g := syntax.Parse(b)
			if e != api.OK || g != api.OK {
				t.Fatalf("the test has a text with an error: %s, %s", brief(a), brief(b))
			}
			want := program(slices.Concat(x.Kids, y.Kids)...)
			if src := a + " " + b; fits(src, want) {
				checkNode(t, syntax.Parse, src, want)
			} else {
				checkFault(t, syntax.Parse, src, 0, api.ErrSize)
				limited++
			}
		}
	}
	if limited < 10 {
		t.Errorf("only %d texts exceed a limit", limited)
	}
}

func TestP8_6_Parentheses(t *testing.T) {
	acceptedExprs(func(src string, n api.Node) { checkNode(t, syntax.Expr, "("+src+")", n) })
	for n := api.MaxSource - 4; n <= api.MaxSource; n++ {
		src := strings.Repeat(" ", n-1) + "a"
		checkTree(t, syntax.Expr, src, "a")
		if n <= api.MaxSource-2 {
			checkTree(t, syntax.Expr, "("+src+")", "a")
		} else {
			checkFault(t, syntax.Expr, "("+src+")", 0, api.ErrSize)
		}
	}
}

// TestR5_ResultsAreNewMemory writes to all memory of a result, and behind each of its lists.
func TestR5_ResultsAreNewMemory(t *testing.T) {
	check := func(f parse, src string) {
		n, _, _ := f(src)
		other, _, _ := f(src)
		want := show(n)
		for _, x := range places(&n) {
			junk := x.Kids[len(x.Kids):cap(x.Kids)]
			for i := range junk {
				junk[i] = named(-1, "junk")
			}
		}
		if show(n) != want {
			t.Errorf("two lists of the tree of %s share memory", brief(src))
		}
		for _, x := range places(&n) {
			x.Op, x.Name = -1, "junk"
		}
		if show(other) != want {
			t.Errorf("two trees of %s share memory", brief(src))
		}
		checkTree(t, f, src, want)
	}
	for _, src := range append(programs(), wholeProgram()) {
		check(syntax.Parse, src)
	}
	for _, src := range expressions() {
		check(syntax.Expr, src)
	}
}
