package source_test

import (
	"reflect"
	"slices"
	"strings"
	"testing"

	"workflow/api"
	"workflow/source"
	"workflow/syntax"
)

// checkParsed expects that the text of a tree stands for it.
func checkParsed(t *testing.T, n api.Node) {
	t.Helper()
	s := printed(t, n)
	if m, at, e := parser(n)(s); !syntax.Same(m, n) || at != 0 || e != api.OK {
		t.Errorf("the tree of %s is %s, %d, %d, want %s", brief(s), brief(m), at, int(e), brief(n))
	}
}

func TestP9_2_TheTextStandsForTheTree(t *testing.T) {
	check := func(n api.Node) { checkParsed(t, n) }
	everyExpr(3, check)
	everyProgram(3, check)
	randomExprs(10000, check)
	randomPrograms(5000, check)
	for _, n := range []int{100, api.MaxSource - 1, api.MaxSource} {
		checkParsed(t, row(n))
		checkParsed(t, lines(n))
	}
	checkParsed(t, node(api.XList, slices.Repeat([]api.Node{id("a")}, api.MaxTree-1)...))
	for i := range 256 {
		checkParsed(t, text(strings.Repeat(string([]byte{byte(i)}), 4000)))
	}
}

func TestP9_3_FormatOfCanonicalText(t *testing.T) {
	check := func(n api.Node) {
		s := printed(t, n)
		checkFormat(t, s, s)
	}
	everyProgram(3, check)
	randomPrograms(5000, check)
	for _, src := range []string{"", "var x=1;", "func f(){if a{}else if b{}else{}}", "on update u(p)check{}{select{case a{}else{}}}"} {
		s, _, _ := source.Format(src)
		checkFormat(t, s, s)
	}
	check(lines(api.MaxSource))
}

// TestP9_3_OneTextForEachTree looks for trees that share a text: two programs have the same canonical text exactly if their
// trees are the same.
func TestP9_3_OneTextForEachTree(t *testing.T) {
	trees := map[string]api.Node{}
	check := func(n api.Node) {
		s, _, e := source.Format(canonical(n))
		m, ok := trees[s]
		if e != api.OK || ok && !syntax.Same(m, n) {
			t.Errorf("%s is the text of %s and of %s (error %d)", brief(s), brief(m), brief(n), int(e))
		}
		trees[s] = n
	}
	everyProgram(3, check)
	randomPrograms(5000, check)
	everyExpr(2, func(n api.Node) { check(program(function(node(api.SExpr, n)))) })
	if len(trees) < 20000 {
		t.Errorf("only %d texts", len(trees))
	}
}

func TestP9_3_ProgramsThatAreAlike(t *testing.T) {
	groups := [][]string{
		{"func f() { return a + b; }", "func f(){return(a+b);}", "func f() { return (a) + ((b)); }"},
		{"func f() { return b + a; }"}, {"func g() { return a + b; }"}, {"func f() { return a - b; }"}, {"func f(a) { return a + b; }"},
		{"func f() { return a + b + c; }", "func f() { return (a + b) + c; }"}, {"func f() { return a + (b + c); }"},
		{"func f() { if a { } else { if b { } } }"}, {"func f() { if a { } else if b { } }"}, {"func f() { if a { if b { } } }"},
		{"func f() { if a { if b { } else { } } }"}, {"func f() { if a { if b { } } else { } }"},
		{"func f() { return; }"}, {"func f() { return null; }"}, {"func f() { }"}, {"func f() { null; }"},
		{`var v = "a";`, `var v = "\x61";`}, {`var v = "\n";`, `var v = "\x0a";`}, {`var v = "\\n";`}, {"var v = 0;"}, {"var v = -0;"},
		{"var v = 1; func f() { }"}, {"func f() { } var v = 1;"}, {"on signal s(p) { }"}, {"on query s(p) { }"}, {"on update s(p) { }"},
		{"on update s(p) check { } { }"}, {"on signal s(q) { }"}, {"on signal p(s) { }"}, {"func f() { select { case a { } } }"},
		{"func f() { select { case a = a { } } }"}, {"func f() { select { case a { } else { } } }"}, {"func f() { a = b; }"},
		{"func f() { let a = b; }"},
		{"func f() { a == b; }"}, {"func f() { go g(); }"}, {"func f() { g(); }"}, {"func f() { undo g(); }"}, {`func f() { a["b"]; }`},
		{"func f() { a.b; }"}, {"func f() { a[b]; }"}, {"func f() { -(-a); }", "func f() { --a; }", "func f() { - (- (a)); }"}, {"", " ", "\n\t"},
	}
	seen := map[string]string{}
	for _, group := range groups {
		want, _, e := source.Format(group[0])
		if other, ok := seen[want]; ok || e != api.OK {
			t.Errorf("%q and %q have the same text (error %d)", other, group[0], int(e))
		}
		seen[want] = group[0]
		for _, src := range group {
			checkFormat(t, src, want)
		}
	}
}

// respelled writes the tokens of a text with other blanks between them. Only between words and numbers a blank is needed.
func respelled(src string, blank func() string) string {
	s := blank()
	l := scan(src)
	for i, x := range l[:len(l)-1] {
		part := src[x.At:l[i+1].At]
		s += strings.Trim(part, " \n")
		next := l[i+1].Kind
		gap := blank()
		if gap == "" && isWord(x.Kind) && isWord(next) {
			gap = " "
		}
		s += gap
	}
	return s
}

func isWord(kind int) bool {
	return kind == api.TokName || kind == api.TokKeyword || kind == api.TokInt
}

func TestP9_4_Blanks(t *testing.T) {
	r := &numbers{6}
	check := func(n api.Node) {
		want := canonical(n)
		for _, blanks := range [][]string{{""}, {" "}, {"\n"}, {"\t"}, {"", " ", "\n", "\t", " \t\n ", "   "}, {"", "", "", "\n\n"}} {
			src := respelled(want, func() string { return blanks[r.below(len(blanks))] })
			if len(src) <= api.MaxSource {
				checkFormat(t, src, want)
			}
		}
	}
	everyProgram(2, check)
	everyExpr(2, func(n api.Node) { check(program(function(node(api.SReturn, n)))) })
	randomPrograms(3000, check)
}

func TestP9_4_Parentheses(t *testing.T) {
	r, longer := &numbers{7}, 0
	check := func(n api.Node) {
		src, want := writer{r}.tree(n), canonical(n)
		if len(src) <= api.MaxSource {
			checkFormat(t, src, want)
		}
		if len(src) > len(want) {
			longer++
		}
	}
	everyProgram(3, check)
	randomPrograms(5000, check)
	for range 5 {
		everyExpr(2, func(n api.Node) { check(program(function(node(api.SReturn, n)))) })
	}
	if longer < 20000 {
		t.Errorf("only %d texts have other parentheses", longer)
	}
	for n := range 2000 {
		checkFormat(t, "func f() { "+strings.Repeat("(", n)+"a"+strings.Repeat(")", n)+"; }", inFunction("a;"))
	}
}

// cloned returns a tree that shares no memory with n, and has junk behind each of its lists.
func cloned(n api.Node) api.Node {
	kids := make([]api.Node, 0, len(n.Kids)+2)
	for _, k := range n.Kids {
		kids = append(kids, cloned(k))
	}
	junk := kids[:cap(kids)]
	for i := len(kids); i < len(junk); i++ {
		junk[i] = named(api.DFunc, "if", named(-1, "junk"))
	}
	n.Kids = kids
	return n
}

// withJunk returns a tree whose lists contain what lies behind them, too.
func withJunk(n api.Node) api.Node {
	kids := slices.Clone(n.Kids[:cap(n.Kids)])
	for i := range n.Kids {
		kids[i] = withJunk(kids[i])
	}
	n.Kids = kids
	return n
}

// TestR5_ArgumentsAreLeft has junk behind the lists, between their lengths and their capacities.
func TestR5_ArgumentsAreLeft(t *testing.T) {
	check := func(n api.Node) {
		m, before := cloned(n), cloned(n)
		checkText(t, m, canonical(n))
		for _, f := range []func(api.Node) (string, api.Errno){source.Print, source.Expr} {
			f(m)
		}
		if !reflect.DeepEqual(withJunk(m), withJunk(before)) {
			t.Errorf("the argument %s was changed to %s", brief(before), brief(m))
		}
	}
	everyExpr(2, check)
	everyProgram(2, check)
	randomExprs(500, check)
	randomPrograms(500, check)
	n := node(api.XNot, id("a"), id("b"))
	refused := cloned(n)
	checkRefused(t, source.Expr, refused, api.ErrArg)
	if !reflect.DeepEqual(withJunk(refused), withJunk(cloned(n))) {
		t.Error("a refused argument was changed")
	}
}

// TestR6_NilAndEmptyLists has trees whose lists are all empty instead of nil.
func TestR6_NilAndEmptyLists(t *testing.T) {
	var emptied func(n api.Node) api.Node
	emptied = func(n api.Node) api.Node {
		kids := []api.Node{}
		for _, k := range n.Kids {
			kids = append(kids, emptied(k))
		}
		n.Kids = kids
		return n
	}
	check := func(n api.Node) { checkText(t, emptied(n), canonical(n)) }
	everyExpr(2, check)
	everyProgram(2, check)
}
