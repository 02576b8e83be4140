package source_test

import (
	"fmt"
	"math"
	"strings"
	"testing"

	"workflow/api"
	"workflow/source"
	"workflow/syntax"
)

// checkExprs formats expressions.
func checkExprs(t *testing.T, texts map[string]string) {
	t.Helper()
	for src, want := range texts {
		n, at, e := syntax.Expr(src)
		if e != api.OK {
			t.Fatalf("the test cannot parse %s: error %d at %d", brief(src), int(e), at)
		}
		checkText(t, n, want)
	}
}

func TestP9_1_Examples(t *testing.T) {
	checkExprs(t, map[string]string{
		"(a+b)*-c":     "(a + b) * -c",
		"a+(b*c)":      "a + b * c",
		"not (a or b)": "not (a or b)",
	})
	checkFormat(t, `func main(x){if x{return 1;}else{throw "n";}}`, `func main(x) {
  if x {
    return 1;
  } else {
    throw "n";
  }
}
`)
}

func TestP9_1_ExpressionsOfEveryForm(t *testing.T) {
	a, b, c := id("a"), id("b"), id("c")
	for want, n := range map[string]api.Node{
		"null":                     node(api.XNull),
		"true":                     node(api.XTrue),
		"false":                    node(api.XFalse),
		"a":                        a,
		"_":                        id("_"),
		"If9":                      id("If9"),
		long(api.MaxName):          id(long(api.MaxName)),
		"0":                        num(0),
		"7":                        num(7),
		"10":                       num(10),
		"1000000":                  num(1000000),
		"9223372036854775807":      num(math.MaxInt),
		"[]":                       node(api.XList),
		"[a]":                      node(api.XList, a),
		"[a, b]":                   node(api.XList, a, b),
		"[a, [b, c], []]":          node(api.XList, a, node(api.XList, b, c), node(api.XList)),
		"{}":                       node(api.XMap),
		`{"k": a}`:                 node(api.XMap, pair("k", a)),
		`{"k": a, "l": b}`:         node(api.XMap, pair("k", a), pair("l", b)),
		`{"l": a, "k": b, "l": c}`: node(api.XMap, pair("l", a), pair("k", b), pair("l", c)),
		`{"": {}}`:                 node(api.XMap, pair("", node(api.XMap))),
		`{"k": a or b}`:            node(api.XMap, pair("k", node(api.XOr, a, b))),
		"f()":                      named(api.XCall, "f"),
		"f(a)":                     named(api.XCall, "f", a),
		"f(a, b, 1)":               named(api.XCall, "f", a, b, num(1)),
		"f(a or b, not c)":         named(api.XCall, "f", node(api.XOr, a, b), node(api.XNot, c)),
		"go f()":                   named(api.XGo, "f"),
		"go f(a)":                  named(api.XGo, "f", a),
		"go f(a, b)":               named(api.XGo, "f", a, b),
		"go f(go g(a or b))":       named(api.XGo, "f", named(api.XGo, "g", node(api.XOr, a, b))),
		"await a":                  node(api.XAwait, a),
		"not a":                    node(api.XNot, a),
		"-a":                       node(api.XNeg, a),
		"-1":                       node(api.XNeg, num(1)),
		"a[b]":                     node(api.XIndex, a, b),
		"a[b or c]":                node(api.XIndex, a, node(api.XOr, b, c)),
		"a.name":                   named(api.XField, "name", a),
		"a.b.c":                    named(api.XField, "c", named(api.XField, "b", a)),
		"a[b][c]":                  node(api.XIndex, node(api.XIndex, a, b), c),
		"a[b[c]]":                  node(api.XIndex, a, node(api.XIndex, b, c)),
		"f().a[0].b":               named(api.XField, "b", node(api.XIndex, named(api.XField, "a", named(api.XCall, "f")), num(0))),
		`"s".a`:                    named(api.XField, "a", text("s")),
		"1[null]":                  node(api.XIndex, num(1), node(api.XNull)),
		"[].a":                     named(api.XField, "a", node(api.XList)),
		"{}[a]":                    node(api.XIndex, node(api.XMap), a),
		"a * b":                    node(api.XMul, a, b),
		"a / b":                    node(api.XDiv, a, b),
		"a % b":                    node(api.XMod, a, b),
		"a + b":                    node(api.XAdd, a, b),
		"a - b":                    node(api.XSub, a, b),
		"a < b":                    node(api.XLt, a, b),
		"a <= b":                   node(api.XLe, a, b),
		"a > b":                    node(api.XGt, a, b),
		"a >= b":                   node(api.XGe, a, b),
		"a == b":                   node(api.XEq, a, b),
		"a != b":                   node(api.XNe, a, b),
		"a and b":                  node(api.XAnd, a, b),
		"a or b":                   node(api.XOr, a, b),
	} {
		checkText(t, n, want)
		checkText(t, program(function(node(api.SReturn, n))), inFunction("return "+want+";"))
	}
}

func TestP9_1_OperatorsWithinOperators(t *testing.T) {
	checkExprs(t, map[string]string{
		// -a, await, not and go within each other
		"--a": "--a", "- - -a": "---a", "-(-a)": "--a", "-not_a": "-not_a", "-(not a)": "-(not a)", "not -a": "not -a",
		"not (not a)": "not not a", "not not not a": "not not not a", "await await a": "await await a", "await(-a)": "await -a",
		"-await a": "-await a", "await (not a)": "await (not a)", "not await a": "not await a", "-(go f())": "-go f()",
		"await (go f(a))": "await go f(a)", "not (go f())": "not go f()", "-1": "-1", "-(1)": "-1", "a - -1": "a - -1", "a--b": "a - -b",
		"a-(-(-b))": "a - --b",
		// what is indexed, the index, and the operand of a field
		"(-a)[b]": "(-a)[b]", "-(a[b])": "-a[b]", "(-a).b": "(-a).b", "-(a.b)": "-a.b", "(await f)[1].x": "(await f)[1].x",
		"await (f[1].x)": "await f[1].x", "(go f()).a": "(go f()).a", "(go f())[0]": "(go f())[0]", "(f()).a": "f().a", "(a.b).c": "a.b.c",
		"(not a).b": "(not a).b", "not (a.b)": "not a.b", "(a + b)[c + d]": "(a + b)[c + d]", "a[(b)]": "a[b]", "(a or b).c": "(a or b).c",
		"(a[-b])": "a[-b]", "(a[go f()])": "a[go f()]", "({}).a": "{}.a", "([a])[0]": "[a][0]",
		// or, and, not
		"(a or b) or c": "a or b or c", "a or (b or c)": "a or (b or c)", "(a and b) and c": "a and b and c",
		"a and (b and c)": "a and (b and c)", "(a and b) or (c and d)": "a and b or c and d", "a or b and c": "a or b and c",
		"(a or b) and c": "(a or b) and c", "a and (b or c)": "a and (b or c)", "(not a) and (not b)": "not a and not b",
		"(not a) or (not b)": "not a or not b", "not (a and b)": "not (a and b)", "not (a < b)": "not a < b", "(not a) < b": "(not a) < b",
		"a < (not b)": "a < (not b)", "(not a) == (not b)": "(not a) == (not b)", "not (a) + b": "not a + b", "(not a) + b": "(not a) + b",
		"a + (not b)": "a + (not b)", "a * (not b)": "a * (not b)", "(a < b) and (c < d)": "a < b and c < d", "(a and b) < c": "(a and b) < c",
		"a < (b or c)": "a < (b or c)",
		// comparisons
		"(a < b) < c": "(a < b) < c", "a < (b < c)": "a < (b < c)", "(a == b) != (c >= d)": "(a == b) != (c >= d)",
		"(a + b) < (c - d)": "a + b < c - d", "(a <= b) + c": "(a <= b) + c", "a * (b > c)": "a * (b > c)", "-(a == b)": "-(a == b)",
		// + and -, and * / %
		"(a + b) + c": "a + b + c", "a + (b + c)": "a + (b + c)", "(a - b) - c": "a - b - c", "a - (b - c)": "a - (b - c)",
		"(a + b) - c": "a + b - c", "a + (b - c)": "a + (b - c)", "(a * b) * c": "a * b * c", "a * (b * c)": "a * (b * c)",
		"(a / b) % c": "a / b % c", "a / (b % c)": "a / (b % c)", "(a * b) + (c / d)": "a * b + c / d", "(a + b) * (c - d)": "(a + b) * (c - d)",
		"-(a * b)": "-(a * b)", "(-a) * (-b)": "-a * -b", "(await a) + (await b)": "await a + await b", "await (a + b)": "await (a + b)",
		"(go f()) * (go g())": "go f() * go g()", "-(a + b)": "-(a + b)", "(-a) + b": "-a + b", "(-a) % (-b)": "-a % -b",
		// places that take every expression
		"f((a or b), (not c))": "f(a or b, not c)", "[(a or b), (c < d)]": "[a or b, c < d]", `{"k": (a or b)}`: `{"k": a or b}`,
		"a[(b or c)]": "a[b or c]", "go f((a and b))": "go f(a and b)", "((((a))))": "a",
	})
}

// requirements are the levels that operators require, as the chapter lists them: on the left and on the right, or of the only
// operand.
var requirements = []struct {
	ops         string
	own         int
	left, right int
}{
	{"or", 1, 1, 2}, {"and", 2, 2, 3}, {"not", 3, 0, 3}, {"< <= > >= == !=", 4, 5, 5}, {"+ -", 5, 5, 6}, {"* / %", 6, 6, 7}, {"neg await", 7, 0, 7},
	{"go", 7, 0, 0}, {"index", 8, 8, 0}, {"field", 8, 8, 0},
}

// operator is an Op with its text, and what is required of its operands; 0 on both sides takes every level.
type operator struct {
	op               int
	text             string
	own, left, right int
}

func operators() []operator {
	ops := map[string]int{"or": api.XOr, "and": api.XAnd, "not": api.XNot, "<": api.XLt, "<=": api.XLe, ">": api.XGt, ">=": api.XGe, "==": api.XEq,
		"!=": api.XNe, "+": api.XAdd, "-": api.XSub, "*": api.XMul, "/": api.XDiv, "%": api.XMod, "neg": api.XNeg, "await": api.XAwait, "go": api.XGo,
		"index": api.XIndex, "field": api.XField}
	var l []operator
	for _, r := range requirements {
		for _, s := range strings.Fields(r.ops) {
			l = append(l, operator{ops[s], s, r.own, r.left, r.right})
		}
	}
	return l
}

// apply returns the tree and the text of an operator with operands whose texts are given.
func (o operator) apply(a, b api.Node, left, right string) (api.Node, string) {
	switch o.text {
	case "not", "await":
		return node(o.op, b), o.text + " " + right
	case "neg":
		return node(o.op, b), "-" + right
	case "go":
		return named(o.op, "f", a, b), "go f(" + left + ", " + right + ")"
	case "index":
		return node(o.op, a, b), left + "[" + right + "]"
	case "field":
		return named(o.op, "k", a), left + ".k"
	}
	return node(o.op, a, b), left + " " + o.text + " " + right
}

func enclosed(s string, own, least int) string {
	if own < least {
		return "(" + s + ")"
	}
	return s
}

func TestP9_1_EveryOperatorInEveryOther(t *testing.T) {
	all, parentheses := 0, 0
	for _, outer := range operators() {
		for _, l := range operators() {
			for _, r := range operators() {
				a, left := l.apply(id("a"), id("b"), "a", "b")
				b, right := r.apply(id("c"), id("d"), "c", "d")
				n, want := outer.apply(a, b, enclosed(left, l.own, outer.left), enclosed(right, r.own, outer.right))
				checkText(t, n, want)
				all++
				if strings.HasPrefix(want, "(") {
					parentheses++
				}
			}
		}
	}
	if all != 19*19*19 || parentheses < 1000 {
		t.Errorf("%d of %d texts begin with parentheses", parentheses, all)
	}
}

func TestP9_1_ChainsOfOneOperator(t *testing.T) {
	for _, o := range operators() {
		if o.left == 0 || o.text == "index" || o.text == "field" {
			continue
		}
		left, right := id("x0"), id("x38")
		l, r := "x0", "x38"
		for i := 1; i < 39; i++ {
			x, y := fmt.Sprint("x", i), fmt.Sprint("x", 38-i)
			if o.own == 4 && i > 1 {
				l = "(" + l + ")"
			}
			if i > 1 {
				r = "(" + r + ")"
			}
			left, l = node(o.op, left, id(x)), l+" "+o.text+" "+x
			right, r = node(o.op, id(y), right), y+" "+o.text+" "+r
			checkText(t, left, l)
			checkText(t, right, r)
		}
	}
}

func TestP9_1_ChainsOfUnaryOperators(t *testing.T) {
	for op, word := range map[int]string{api.XNot: "not ", api.XNeg: "-", api.XAwait: "await "} {
		n := id("a")
		for i := 1; i < api.MaxNesting; i++ {
			n = node(op, n)
			checkText(t, n, strings.Repeat(word, i)+"a")
			if i < api.MaxNesting-2 {
				checkText(t, named(api.XField, "b", n), "("+strings.Repeat(word, i)+"a).b")
				checkText(t, node(api.XIndex, n, n), "("+strings.Repeat(word, i)+"a)["+strings.Repeat(word, i)+"a]")
			}
		}
	}
	field, index := id("a"), id("a")
	for i := 1; i < api.MaxNesting; i++ {
		field, index = named(api.XField, "b", field), node(api.XIndex, index, num(0))
		checkText(t, field, "a"+strings.Repeat(".b", i))
		checkText(t, index, "a"+strings.Repeat("[0]", i))
	}
}

func TestP9_1_LongLists(t *testing.T) {
	var names, values, pairs []string
	var list, elements []api.Node
	for i := range 1000 {
		names = append(names, fmt.Sprint("x", i))
		values = append(values, fmt.Sprint(i))
		pairs = append(pairs, fmt.Sprintf(`"x%d": %d`, i, i))
		list = append(list, id(names[i]))
		elements = append(elements, pair(names[i], num(i)))
		if i > 20 && i < 990 {
			continue
		}
		row := strings.Join(names, ", ")
		checkText(t, node(api.XList, list...), "["+row+"]")
		checkText(t, named(api.XCall, "f", list...), "f("+row+")")
		checkText(t, named(api.XGo, "f", list...), "go f("+row+")")
		checkText(t, node(api.XMap, elements...), "{"+strings.Join(pairs, ", ")+"}")
		checkText(t, program(function(named(api.SUndo, "f", list...))), inFunction("undo f("+row+");"))
		function := named(api.DFunc, "f", append(append([]api.Node{}, list...), block())...)
		checkText(t, program(function), "func f("+row+") {\n}\n")
	}
}

func TestP9_1_Strings(t *testing.T) {
	hex := func(i int) string { return fmt.Sprintf(`\x%02x`, i) }
	for i := range 256 {
		want := hex(i)
		switch {
		case i == '"' || i == '\\':
			want = `\` + string(rune(i))
		case i == '\n':
			want = `\n`
		case i == '\t':
			want = `\t`
		case i >= 32 && i < 127:
			want = string(rune(i))
		}
		for _, s := range [][2]string{{"", ""}, {"a", "b"}, {`"`, `\`}} {
			before, after := strings.ReplaceAll(s[0], `"`, `\"`), strings.ReplaceAll(s[1], `\`, `\\`)
			literal := `"` + before + want + after + `"`
			raw := s[0] + string([]byte{byte(i)}) + s[1]
			checkText(t, text(raw), literal)
			checkText(t, node(api.XMap, pair(raw, text(raw))), "{"+literal+": "+literal+"}")
			checkText(t, program(named(api.DVar, "v", text(raw))), "var v = "+literal+";\n")
		}
	}
	for raw, want := range map[string]string{
		"": `""`, "a\"b\\c\nd\te": `"a\"b\\c\nd\te"`, "\r\x00\x7f\xff": `"\x0d\x00\x7f\xff"`, "\u00e4": `"\xc3\xa4"`, `\n`: `"\\n"`, `\"`: `"\\\""`,
		" (a) or, b ": `" (a) or, b "`, "/* // */": `"/* // */"`, long(api.MaxText): `"` + long(api.MaxText) + `"`,
	} {
		checkText(t, text(raw), want)
		checkText(t, node(api.XAdd, text(raw), text(raw)), want+" + "+want)
	}
}

func TestP9_1_ExpressionsWithinExpressions(t *testing.T) {
	count := 0
	everyExpr(3, func(n api.Node) {
		checkText(t, n, canonical(n))
		count++
	})
	randomExprs(20000, func(n api.Node) { checkText(t, n, canonical(n)) })
	if count < 30000 {
		t.Errorf("only %d expressions", count)
	}
}

// TestP9_1_NoOtherParentheses takes away one pair of parentheses after the other: each of them is needed.
func TestP9_1_NoOtherParentheses(t *testing.T) {
	count := 0
	check := func(n api.Node) {
		s := printed(t, n)
		for _, other := range withoutOnePair(s) {
			if m, _, e := syntax.Expr(other); e == api.OK && syntax.Same(m, n) {
				t.Errorf("%s has parentheses that %s has not", brief(s), brief(other))
			}
			count++
		}
	}
	everyExpr(2, check)
	randomExprs(10000, check)
	if count < 10000 {
		t.Errorf("only %d pairs of parentheses", count)
	}
}

// withoutOnePair returns the texts in which one pair of parentheses around an expression is missing.
func withoutOnePair(src string) []string {
	var texts []string
	l := scan(src)
	for i, x := range l {
		if x.Kind != api.TokSign || x.Text != "(" || i > 0 && l[i-1].Kind == api.TokName {
			continue
		}
		depth := 0
		for _, y := range l[i:] {
			if y.Kind == api.TokSign && y.Text == "(" {
				depth++
			}
			if y.Kind == api.TokSign && y.Text == ")" {
				depth--
			}
			if depth == 0 {
				texts = append(texts, src[:x.At]+" "+src[x.At+1:y.At]+" "+src[y.At+1:])
				break
			}
		}
	}
	return texts
}

func TestP9_1_Deterministic(t *testing.T) {
	randomPrograms(500, func(n api.Node) {
		s := printed(t, n)
		checkText(t, n, s)
		checkFormat(t, s, s)
		if again, _ := source.Print(n); again != s {
			t.Errorf("another call returns %s, not %s", brief(again), brief(s))
		}
	})
}
