package source_test

import (
	"math"
	"slices"
	"strings"
	"testing"

	"workflow/api"
	"workflow/source"
	"workflow/syntax"
)

// row returns an expression tree whose text has n bytes.
func row(n int) api.Node {
	l := node(api.XList)
	for n > 4000 {
		l.Kids = append(l.Kids, text(long(2996)))
		n -= 3000 // with the quotation marks, a comma and a blank
	}
	l.Kids = append(l.Kids, text(long(n-4)))
	return l
}

// lines returns a program tree whose text has n bytes.
func lines(n int) api.Node {
	p := program()
	for n > 4000 {
		p.Kids = append(p.Kids, named(api.DVar, "v", text(long(2988))))
		n -= 3000 // with var v = ""; and a line feed
	}
	p.Kids = append(p.Kids, named(api.DVar, "v", text(long(n-12))))
	return p
}

func TestP9_1_TextsUpToTheirLimit(t *testing.T) {
	for n := api.MaxSource - 3; n <= api.MaxSource+3; n++ {
		for _, x := range []api.Node{row(n), lines(n)} {
			want := canonical(x)
			if len(want) != n {
				t.Fatalf("the text has %d bytes, not %d", len(want), n)
			}
			if n <= api.MaxSource {
				checkText(t, x, want)
			} else {
				checkRefused(t, printer(x), x, api.ErrSize)
			}
		}
	}
	for _, n := range []int{16, 100, 5000} {
		checkText(t, row(n), canonical(row(n)))
		checkText(t, lines(n), canonical(lines(n)))
	}
	checkRefused(t, source.Expr, row(3000000), api.ErrSize)
	checkRefused(t, source.Print, lines(3000000), api.ErrSize)
}

// TestP9_1_EveryByteOfATextCounts has texts of which strings are a small part.
func TestP9_1_EveryByteOfATextCounts(t *testing.T) {
	checkText(t, text(strings.Repeat("\x00", 4095)), `"`+strings.Repeat(`\x00`, 4095)+`"`)
	checkRefused(t, source.Expr, text(strings.Repeat("\x00", 4096)), api.ErrSize)
	checkText(t, text(strings.Repeat("\n", 4096)), `"`+strings.Repeat(`\n`, 4096)+`"`)
	checkRefused(t, source.Expr, node(api.XList, text(strings.Repeat("\n", 4096)), text(strings.Repeat("\n", 4096))), api.ErrSize)
	for _, x := range []struct {
		begin, repeated, end string
		tree                 func(n int) api.Node
	}{
		{"", "  return;\n", "", func(n int) api.Node { return function(slices.Repeat([]api.Node{node(api.SReturn)}, n)...) }},
		{"", "  if a {\n    return;\n  }\n", "", func(n int) api.Node { return function(slices.Repeat([]api.Node{ask("a")}, n)...) }},
		{"  let x = [", "9223372036854775807, ", "a];\n", func(n int) api.Node {
			return function(named(api.SLet, "x", node(api.XList, append(slices.Repeat([]api.Node{num(math.MaxInt)}, n), id("a"))...)))
		}},
		{"  return ", "(a or a) and ", "a;\n", func(n int) api.Node {
			chain := node(api.XOr, id("a"), id("a"))
			for range n - 1 {
				chain = node(api.XAnd, chain, node(api.XOr, id("a"), id("a")))
			}
			return function(node(api.SReturn, node(api.XAnd, chain, id("a"))))
		}},
	} {
		for n := 1; ; n++ {
			p := program(x.tree(n))
			if !syntax.Right(p) {
				break
			}
			want := "func f() {\n" + x.begin + strings.Repeat(x.repeated, n) + x.end + "}\n"
			if len(want) > api.MaxSource {
				checkRefused(t, source.Print, p, api.ErrSize)
				break
			}
			checkText(t, p, want)
		}
	}
}

// TestP9_1_ManyLongStrings has trees that are right, and whose texts would have millions of bytes.
func TestP9_1_ManyLongStrings(t *testing.T) {
	for _, s := range []string{long(api.MaxText), strings.Repeat("\xff", api.MaxText)} {
		checkRefused(t, source.Expr, node(api.XList, slices.Repeat([]api.Node{text(s)}, 3999)...), api.ErrSize)
		checkRefused(t, source.Expr, node(api.XMap, slices.Repeat([]api.Node{pair(s, id("a"))}, 1999)...), api.ErrSize)
		checkRefused(t, source.Print, program(slices.Repeat([]api.Node{named(api.DVar, "v", text(s))}, 1999)...), api.ErrSize)
	}
}

func TestP9_1_FormatOfLongTexts(t *testing.T) {
	for n := api.MaxSource - 3; n <= api.MaxSource+3; n++ {
		want := canonical(lines(n))
		short := strings.NewReplacer(" = ", "=", "\n", "").Replace(want)
		if n <= api.MaxSource {
			checkFormat(t, want, want)
			checkFormat(t, short, want)
			checkFormat(t, short+strings.Repeat(" ", api.MaxSource-len(short)), want)
		} else {
			checkFault(t, want, 0, api.ErrSize)
			checkFault(t, short, 0, api.ErrSize)
		}
		checkFault(t, short+strings.Repeat(" ", api.MaxSource+1-len(short)), 0, api.ErrSize)
		empty := strings.Repeat(" ", n-10) + "func f(){}"
		if n <= api.MaxSource {
			checkFormat(t, empty, "func f() {\n}\n")
		} else {
			checkFault(t, empty, 0, api.ErrSize)
		}
	}
	branch, wide := "if a{}", "  if a {\n  }\n"
	for n := 1000; n <= 1330; n += 10 {
		src, want := "func f(){"+strings.Repeat(branch, n)+"}", "func f() {\n"+strings.Repeat(wide, n)+"}\n"
		if len(want) <= api.MaxSource {
			checkFormat(t, src, want)
		} else {
			checkFault(t, src, 0, api.ErrSize)
		}
	}
}

// checkLimit expects that a tree is refused if what is measured of it, which must be n, exceeds a limit.
func checkLimit(t *testing.T, x api.Node, measure func(api.Node) int, n, limit int) {
	t.Helper()
	if measure(x) != n {
		t.Fatalf("the test has a tree of %d, not of %d", measure(x), n)
	}
	if n <= limit {
		checkText(t, x, canonical(x))
	} else {
		checkRefused(t, printer(x), x, api.ErrArg)
	}
}

func TestP9_1_TreesOverTheirLimits(t *testing.T) {
	for n := api.MaxTree - 2; n <= api.MaxTree+2; n++ {
		list := node(api.XList, slices.Repeat([]api.Node{id("a")}, n-1)...)
		inner := program(function(node(api.SReturn, node(api.XList, slices.Repeat([]api.Node{id("a")}, n-5)...))))
		checkLimit(t, list, syntax.Size, n, api.MaxTree)
		checkLimit(t, inner, syntax.Size, n, api.MaxTree)
	}
	for n := api.MaxNesting - 2; n <= api.MaxNesting+2; n++ {
		x, y := id("a"), id("a")
		for range n - 1 {
			x = node(api.XNot, x)
		}
		for range n - 5 {
			y = node(api.XAdd, y, id("b"))
		}
		checkLimit(t, x, syntax.Depth, n, api.MaxNesting)
		checkLimit(t, program(function(node(api.SReturn, y))), syntax.Depth, n, api.MaxNesting)
	}
	checkRefused(t, source.Expr, text(long(api.MaxText+1)), api.ErrArg)
	checkRefused(t, source.Expr, text(long(api.MaxSource)), api.ErrArg)
	checkRefused(t, source.Expr, id(long(api.MaxName+1)), api.ErrArg)
	checkRefused(t, source.Expr, num(-1), api.ErrArg)
	checkRefused(t, source.Print, program(named(api.DVar, "v", num(-1))), api.ErrArg)
	checkRefused(t, source.Print, program(function(node(api.SSelect, slices.Repeat([]api.Node{named(api.SCase, "", id("a"), block())},
		api.MaxCases+1)...))), api.ErrArg)
}

// TestP9_1_EndlessTrees has lists that contain themselves, or that few bytes make huge.
func TestP9_1_EndlessTrees(t *testing.T) {
	list := []api.Node{node(api.XNot)}
	list[0].Kids = list
	checkRefused(t, source.Expr, list[0], api.ErrArg)
	checkRefused(t, source.Print, list[0], api.ErrArg)
	saga := []api.Node{node(api.SSaga, block())}
	saga[0].Kids[0].Kids = saga
	checkRefused(t, source.Print, program(function(saga...)), api.ErrArg)
	n := text(long(api.MaxText))
	for range 39 {
		n = node(api.XAdd, n, n)
	}
	checkRefused(t, source.Expr, n, api.ErrArg)
}

func TestP9_1_ArgumentsThatAreNoTrees(t *testing.T) {
	a := id("a")
	wrong := []api.Node{
		{}, {Op: -1}, {Op: 1000}, {Op: math.MaxInt}, id(""), id("if"), id("a b"), id("1"), id("\u00e4"), named(api.XNull, "a"), named(api.XCall, "go"),
		node(api.XAdd, a), node(api.XAdd, a, a, a), node(api.XNot), node(api.XField, a), node(api.XMap, a), pair("k", a), node(api.XPair),
		node(api.XList, pair("k", a)), node(api.XIndex, a), node(api.XNeg, block()), block(), block(node(api.SReturn)), node(api.SReturn), ask("a"),
		node(api.SSaga, block()), named(api.SCase, "x", a, block()), node(api.SElse, block()), function(), named(api.DVar, "v", num(1)),
		{Op: api.DSignal, Name: "s", Text: "p", Kids: []api.Node{block()}}, program(a), program(block()), program(program()),
		program(node(api.SReturn)), program(named(api.DFunc, "f")), program(named(api.DFunc, "if", block())), program(function(block())),
		program(function(a)), program(named(api.DVar, "v", a)), program(named(api.DVar, "v", node(api.XNeg, node(api.XNeg, num(1))))),
		program(function(node(api.SSelect))), program(function(ask("a", a))), program(api.Node{Op: api.DQuery, Name: "q", Kids: []api.Node{block()}}),
		program(api.Node{Op: api.DUpdate, Name: "q", Text: "p", Kids: []api.Node{block(), block(), block()}}), {Op: api.DProgram, Text: "x"},
		{Op: api.DProgram, Name: "x"}, {Op: api.DProgram, Int: 1},
	}
	for _, n := range wrong {
		checkRefused(t, source.Print, n, api.ErrArg)
		checkRefused(t, source.Expr, n, api.ErrArg)
		checkRefused(t, source.Expr, node(api.XList, n), api.ErrArg)
		if n.Op < api.SLet || n.Op > api.SExpr || n.Op == api.SCase || n.Op == api.SElse {
			checkRefused(t, source.Print, program(function(n)), api.ErrArg)
		}
	}
	everyExpr(2, func(n api.Node) { checkRefused(t, source.Print, n, api.ErrArg) })
	everyProgram(2, func(n api.Node) { checkRefused(t, source.Expr, n, api.ErrArg) })
}

// TestP9_1_TreesWithADifference changes one node of right trees.
func TestP9_1_TreesWithADifference(t *testing.T) {
	r := &numbers{8}
	refused := 0
	check := func(n api.Node) {
		m := cloned(n)
		r.damage(&m)
		for _, f := range []struct {
			print func(api.Node) (string, api.Errno)
			right bool
		}{{source.Print, syntax.Right(m)}, {source.Expr, syntax.RightExpr(m)}} {
			if !f.right {
				checkRefused(t, f.print, m, api.ErrArg)
				refused++
			} else if s, e := f.print(m); s != canonical(m) || e != api.OK {
				t.Errorf("the text of %s is %s, %d", brief(m), brief(s), int(e))
			}
		}
	}
	randomExprs(5000, check)
	randomPrograms(5000, check)
	if refused < 10000 {
		t.Errorf("only %d refused trees", refused)
	}
}

// damage changes one field of a node.
func (r *numbers) damage(n *api.Node) {
	for len(n.Kids) > 0 && r.below(4) > 0 {
		n = &n.Kids[r.below(len(n.Kids))]
	}
	switch r.below(6) {
	case 0:
		n.Op = r.below(70) - 2
	case 1:
		n.Name = []string{"", "z", "if", "a b"}[r.below(4)]
	case 2:
		n.Int = []int{-1, 0, 1}[r.below(3)]
	case 3:
		n.Text = []string{"", "z", "not", "\n"}[r.below(4)]
	case 4:
		n.Kids = append(n.Kids, r.tree(place("espbkodc"[r.below(8)]), r.below(2)))
	case 5:
		n.Kids = n.Kids[:r.below(len(n.Kids)+1)]
	}
}

func TestP9_1_TextsThatParseRefuses(t *testing.T) {
	for _, x := range []struct {
		src string
		at  int
		e   api.Errno
	}{
		{"func f(", 7, api.ErrSyntax}, {"x", 0, api.ErrSyntax}, {"a + b", 0, api.ErrSyntax}, {"func f() { } }", 13, api.ErrSyntax},
		{"var x = y;", 8, api.ErrSyntax}, {"func f() { select { } }", 20, api.ErrSyntax}, {"func f() { a < b < c; }", 17, api.ErrSyntax},
		{"func f() { return 1 }", 20, api.ErrSyntax}, {"func f() { !a; }", 11, api.ErrForm}, {"func f() { 1a; }", 11, api.ErrForm},
		{"func f() { 01; }", 11, api.ErrForm}, {`var x = "a`, 8, api.ErrShort}, {`var x = "\A";`, 8, api.ErrForm},
		{" func " + long(api.MaxName+1) + "() { }", 6, api.ErrName}, {"var x = 9223372036854775808;", 8, api.ErrRange},
		{`var x = "` + long(api.MaxText+1) + `";`, 8, api.ErrSize}, {"var x = 1; // a comment", 11, api.ErrSyntax}, {"\x00", 0, api.ErrForm},
		{strings.Repeat(" ", api.MaxSource+1), 0, api.ErrSize}, {strings.Repeat("var v=1;", 2000), 0, api.ErrSize},
		{"func f() { return " + strings.Repeat("-", 36) + "1; }", 0, api.ErrDepth},
		{"func f() { select { " + strings.Repeat("case x { } ", 17) + "} }", 20 + 16*11, api.ErrSyntax},
	} {
		checkFault(t, x.src, x.at, x.e)
	}
	checkFormat(t, "func f() { return "+strings.Repeat("-", 35)+"1; }", inFunction("return "+strings.Repeat("-", 35)+"1;"))
}

// TestP9_1_DamagedTexts cuts texts and changes a byte of them.
func TestP9_1_DamagedTexts(t *testing.T) {
	r, refused := &numbers{9}, 0
	check := func(src string) {
		n, at, e := syntax.Parse(src)
		if e == api.OK {
			checkFormat(t, src, canonical(n))
			return
		}
		refused++
		checkFault(t, src, at, e)
	}
	randomPrograms(3000, func(n api.Node) {
		s := canonical(n)
		check(s[:r.below(len(s)+1)])
		if len(s) > 0 {
			i := r.below(len(s))
			check(s[:i] + []string{"", " ", "(", ";", "}", "\"", "!", "1", "a"}[r.below(9)] + s[i+1:])
		}
	})
	if refused < 1000 {
		t.Errorf("only %d texts are refused", refused)
	}
}
