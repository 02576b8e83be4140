package syntax_test

import (
	"fmt"
	"math"
	"slices"
	"strings"
	"testing"

	"workflow/api"
	"workflow/syntax"
)

func TestP8_1_P8_2_Examples(t *testing.T) {
	checkTree(t, syntax.Expr, "a + b * 2", "(+ a (* b 2))")
	checkTree(t, syntax.Expr, "(a)", "a")
	checkFault(t, syntax.Expr, "a +", 3, api.ErrSyntax)
	checkFault(t, syntax.Expr, "a < b < c", 6, api.ErrSyntax)
	checkTree(t, syntax.Parse, "func f(x) { return x; }", "(program (func f x (block (return x))))")
	checkTree(t, syntax.Parse, "", "(program)")
	checkFault(t, syntax.Parse, "func f() { select { } }", 20, api.ErrSyntax)
}

func TestP8_1_P8_2_TextsWithoutTokens(t *testing.T) {
	for _, src := range []string{"", " ", "\n", "\t", " \n\t ", strings.Repeat(" ", api.MaxSource)} {
		checkTree(t, syntax.Parse, src, "(program)")
		checkFault(t, syntax.Expr, src, len(src), api.ErrSyntax)
	}
}

func TestP8_2_Primaries(t *testing.T) {
	for src, want := range map[string]string{
		"a":                        "a",
		"_":                        "_",
		"x1":                       "x1",
		"0":                        "0",
		"7":                        "7",
		"true":                     "true",
		"false":                    "false",
		"null":                     "null",
		"truth":                    "truth",
		"nullx":                    "nullx",
		`""`:                       `""`,
		`"s"`:                      `"s"`,
		`"a\n\x00\xff\""`:          fmt.Sprintf("%q", "a\n\x00\xff\""),
		"9223372036854775807":      fmt.Sprint(math.MaxInt),
		"[]":                       "(list)",
		"[a]":                      "(list a)",
		"[a, b, 1]":                "(list a b 1)",
		"[[], [[]]]":               "(list (list) (list (list)))",
		"[a + b, not c]":           "(list (+ a b) (not c))",
		"{}":                       "(map)",
		`{"k": a}`:                 `(map (pair "k" a))`,
		`{"k": a, "": b}`:          `(map (pair "k" a) (pair b))`,
		`{"k": {"k": {}}}`:         `(map (pair "k" (map (pair "k" (map)))))`,
		`{"b": 1, "a": 2, "b": 3}`: `(map (pair "b" 1) (pair "a" 2) (pair "b" 3))`,
		`{"k": a or b}`:            `(map (pair "k" (or a b)))`,
		"f()":                      "(call f)",
		"f(a)":                     "(call f a)",
		"f(a, b, 1)":               "(call f a b 1)",
		"f(g(h()))":                "(call f (call g (call h)))",
		"f(a < b, -c)":             "(call f (< a b) (neg c))",
		"go f()":                   "(go f)",
		"go f(a)":                  "(go f a)",
		"go f(a, go g(b))":         "(go f a (go g b))",
		"main()":                   "(call main)",
		"len (x)":                  "(call len x)",
		long(api.MaxName):          long(api.MaxName),
		long(api.MaxName) + "()":   "(call " + long(api.MaxName) + ")",
	} {
		checkTree(t, syntax.Expr, src, want)
		checkTree(t, syntax.Expr, "\n"+src+"\t ", want)
		checkTree(t, syntax.Expr, "("+src+")", want)
		checkTree(t, syntax.Expr, "[x, "+src+"]", "(list x "+want+")")
		checkTree(t, syntax.Expr, "- "+src, "(neg "+want+")")
	}
}

// level returns the level of a binary operator in the grammar.
func level(sign string) int {
	for i, l := range []string{" or ", " and ", " < <= > >= == != ", " + - ", " * / % "} {
		if strings.Contains(l, " "+sign+" ") {
			return i
		}
	}
	panic("no operator: " + sign)
}

func signs() []string { return strings.Fields("or and < <= > >= == != + - * / %") }

const compareLevel = 2

// joined returns the tree of operands with operators between them: the last operator of the lowest level is applied last. It
// returns false if two comparisons meet.
func joined(operands, operators []string) (string, bool) {
	if len(operators) == 0 {
		return operands[0], true
	}
	last := 0
	for i, s := range operators {
		if level(s) <= level(operators[last]) {
			last = i
		}
	}
	left, ok := joined(operands[:last+1], operators[:last])
	right, good := joined(operands[last+1:], operators[last+1:])
	twice := level(operators[last]) == compareLevel && slices.ContainsFunc(operators[:last], func(s string) bool { return level(s) == compareLevel })
	return "(" + operators[last] + " " + left + " " + right + ")", ok && good && !twice
}

// checkOperators checks a, b, c, .. with the given operators between them.
func checkOperators(t *testing.T, operators ...string) {
	t.Helper()
	operands := []string{"a", "b", "c", "d"}[:len(operators)+1]
	src, compared, refused := "a", false, -1
	for i, s := range operators {
		if level(s) == compareLevel && compared && refused < 0 {
			refused = len(src) + 1
		}
		compared = level(s) == compareLevel || compared && level(s) > compareLevel
		src += " " + s + " " + operands[i+1]
	}
	want, ok := joined(operands, operators)
	if ok != (refused < 0) {
		t.Fatalf("the test is unsure of %s", src)
	}
	if ok {
		checkTree(t, syntax.Expr, src, want)
	} else {
		checkFault(t, syntax.Expr, src, refused, api.ErrSyntax)
	}
}

func TestP8_2_EveryOperatorBesideEveryOther(t *testing.T) {
	for _, a := range signs() {
		checkOperators(t, a)
		for _, b := range signs() {
			checkOperators(t, a, b)
			for _, c := range signs() {
				checkOperators(t, a, b, c)
			}
		}
	}
}

func TestP8_2_OperatorsBetweenParentheses(t *testing.T) {
	for _, a := range signs() {
		for _, b := range signs() {
			checkTree(t, syntax.Expr, "(a "+a+" b) "+b+" c", "("+b+" ("+a+" a b) c)")
			checkTree(t, syntax.Expr, "a "+a+" (b "+b+" c)", "("+a+" a ("+b+" b c))")
		}
	}
}

func TestP8_2_LevelsByHand(t *testing.T) {
	for src, want := range map[string]string{
		"a - b - c":                   "(- (- a b) c)",
		"a / b / c / d":               "(/ (/ (/ a b) c) d)",
		"a or b or c":                 "(or (or a b) c)",
		"a and b and c":               "(and (and a b) c)",
		"a + b - c + d":               "(+ (- (+ a b) c) d)",
		"a * b / c % d":               "(% (/ (* a b) c) d)",
		"a or b and c":                "(or a (and b c))",
		"a and b or c":                "(or (and a b) c)",
		"a and not b < c + d * -e.f":  "(and a (not (< b (+ c (* d (neg (field f e)))))))",
		"-a.b * c + d < e and f or g": "(or (and (< (+ (* (neg (field b a)) c) d) e) f) g)",
		"a+b*c":                       "(+ a (* b c))",
		"a-b":                         "(- a b)",
		"a- -b":                       "(- a (neg b))",
		"a--b":                        "(- a (neg b))",
		"a<-b":                        "(< a (neg b))",
		"a==b":                        "(== a b)",
		"(a < b) == (c < d)":          "(== (< a b) (< c d))",
	} {
		checkTree(t, syntax.Expr, src, want)
	}
}

func TestP8_2_ChainsOfComparisons(t *testing.T) {
	for _, a := range strings.Fields("< <= > >= == !=") {
		for _, b := range strings.Fields("< <= > >= == !=") {
			checkRefused(t, syntax.Expr, "a "+a+" b @"+b+" c")
			checkRefused(t, syntax.Expr, "a "+a+" b + 1 @"+b+" c + 1")
			checkRefused(t, syntax.Expr, "not a "+a+" - b @"+b+" c")
			checkRefused(t, syntax.Expr, "f(x and a "+a+" b @"+b+" c)")
			checkRefused(t, syntax.Expr, "a "+a+" (b "+b+" c) @"+a+" d")
			checkTree(t, syntax.Expr, "a "+a+" b and c "+b+" d", "(and ("+a+" a b) ("+b+" c d))")
			checkTree(t, syntax.Expr, "a "+a+" b or not c "+b+" d", "(or ("+a+" a b) (not ("+b+" c d)))")
			checkRefused(t, syntax.Expr, "a "+a+" @"+b+" c")
		}
	}
}

func TestP8_2_SignsAndNotBeforeOperands(t *testing.T) {
	for _, s := range signs() {
		checkTree(t, syntax.Expr, "-a "+s+" b", "("+s+" (neg a) b)")
		checkTree(t, syntax.Expr, "a "+s+" -b", "("+s+" a (neg b))")
		checkTree(t, syntax.Expr, "await a "+s+" await b", "("+s+" (await a) (await b))")
		checkTree(t, syntax.Expr, "go f() "+s+" go g()", "("+s+" (go f) (go g))")
		checkTree(t, syntax.Expr, "- await - a "+s+" await - await b", "("+s+" (neg (await (neg a))) (await (neg (await b))))")
		checkTree(t, syntax.Expr, "(not a) "+s+" (not b)", "("+s+" (not a) (not b))")
		if level(s) < compareLevel {
			checkTree(t, syntax.Expr, "not a "+s+" b", "("+s+" (not a) b)")
			checkTree(t, syntax.Expr, "a "+s+" not not b", "("+s+" a (not (not b)))")
		} else {
			checkTree(t, syntax.Expr, "not a "+s+" b", "(not ("+s+" a b))")
			checkTree(t, syntax.Expr, "not not a "+s+" -b", "(not (not ("+s+" a (neg b))))")
			checkRefused(t, syntax.Expr, "a "+s+" @not b")
			checkRefused(t, syntax.Expr, "not a "+s+" @not b")
		}
		if s != "-" {
			checkRefused(t, syntax.Expr, "@"+s+" a")
			checkRefused(t, syntax.Expr, "a "+s+" @"+s+" b")
		}
	}
	for _, before := range []string{"-", "await", "- -", "await -", "- await"} {
		checkRefused(t, syntax.Expr, before+" @not a")
		checkRefused(t, syntax.Expr, "not "+before+" @not a")
		checkTree(t, syntax.Expr, "not "+before+" a", strings.Replace(showPrefix("not "+before), "?", "a", 1))
		checkTree(t, syntax.Expr, before+" (not a)", strings.Replace(showPrefix(before), "?", "(not a)", 1))
		checkTree(t, syntax.Expr, before+" go f()", strings.Replace(showPrefix(before), "?", "(go f)", 1))
	}
	checkRefused(t, syntax.Expr, "not@")
	checkRefused(t, syntax.Expr, "a @not b")
	checkRefused(t, syntax.Expr, "a @await b")
	checkRefused(t, syntax.Expr, "a @go f()")
	checkRefused(t, syntax.Expr, "@+")
}

// showPrefix returns the tree of operators before an operand, which is written as a question mark.
func showPrefix(operators string) string {
	tree := "?"
	for _, s := range slices.Backward(strings.Fields(operators)) {
		tree = "(" + strings.Replace(s, "-", "neg", 1) + " " + tree + ")"
	}
	return tree
}

func TestP8_2_CallsIndexesAndFieldsInARow(t *testing.T) {
	for src, want := range map[string]string{
		"a.b":           "(field b a)",
		"a.b.c":         "(field c (field b a))",
		"a[b]":          "(index a b)",
		"a[b][c]":       "(index (index a b) c)",
		"a.b[c].d":      "(field d (index (field b a) c))",
		"f(a).b":        "(field b (call f a))",
		"f()[0]":        "(index (call f) 0)",
		"a[b.c[d]]":     "(index a (index (field c b) d))",
		"a[not b or c]": "(index a (or (not b) c))",
		"[a, b][0]":     "(index (list a b) 0)",
		`{"k": a}.k`:    `(field k (map (pair "k" a)))`,
		`"s"[1]`:        `(index "s" 1)`,
		"7 .a":          "(field a 7)",
		"7.a":           "(field a 7)",
		"null.a":        "(field a null)",
		"true[a]":       "(index true a)",
		"(a + b).c":     "(field c (+ a b))",
		"(f)[0]":        "(index f 0)",
		"-a[0]":         "(neg (index a 0))",
		"await a.b":     "(await (field b a))",
		"(await a).b":   "(field b (await a))",
		"(-a).b":        "(field b (neg a))",
		"(go f()).a":    "(field a (go f))",
		"not a.b":       "(not (field b a))",
		"a.b * c[d]":    "(* (field b a) (index c d))",
		"a . b [ c ]":   "(index (field b a) c)",
	} {
		checkTree(t, syntax.Expr, src, want)
	}
	for _, src := range []string{
		"f(1)@(2)", "a.b@(1)", "a[0]@(1)", "(f)@(1)", "[f]@(1)", `"f"@()`, "7@(1)", "true@()", "go f()@.a", "go f()@[0]", "go f()@()", "a.@7",
		"a.@", `a.@"b"`,
		"a.@(b)", "a.@[0]", "a.@.b", "a.@true", "a.@if", "a[@]", "a[b@", "a[b@, c]", "a[b @c]", "a[b@)", "a@]", "a @b", "a @7", `a @"s"`,
		"a @true", "a @{}", "7 @7", "go @7", "go @(f)()", "go f@",
		"go f@.g()", "go @go f()", "go f@;", "await@", "-@", "go@", "a@=b", "a @= b", "a@:", "a@,", "a@;", "(@)", "(a@", "(a@]", "(a@, b)",
		"@)", "@]", "@}", "@,", "@.", "@.a", "@=", "@:", "@;", "f(@", "f(a@", "f(a,@",
		"f(a,@)", "f(@,)", "f(@, a)", "f(a @b)", "f(a@;", "f(a, b@]", "f(a@: b)", "[@", "[a@", "[a,@", "[a,@]", "[@,]", "[a @b]", "[a@)",
		"[a@:", "{@", "{@a: 1}", "{@1: 1}", `{"k"@`, `{"k"@}`, `{"k"@, "l": 1}`,
		`{"k":@`, `{"k":@}`, `{"k":@, "l": 1}`, `{"k": a@`, `{"k": a,@}`, `{"k": a, @b}`, `{@,}`, `{"k": a @"l": b}`, `{"k": a@]`,
		`{"k": "l"@: a}`, `{@("k"): a}`, `{"k" @= a}`, "{@null: 1}", "{@{}: 1}",
		"@if", "@let x = 1;", "@return a", "@case", "@check", "@func f() { }", "@var x = 1;", "a and@", "a or@", "a <@", "not@", "@or a", "@and a",
	} {
		checkRefused(t, syntax.Expr, src)
	}
}

func TestP8_2_LiteralsAreNoSignsAndKeywords(t *testing.T) {
	for _, s := range append(strings.Fields("== != <= >= ( ) { } [ ] , ; . : = < > + - * / %"), keywords()...) {
		literal := `"` + s + `"`
		checkTree(t, syntax.Expr, literal, literal)
		checkTree(t, syntax.Expr, "["+literal+", -"+literal+"]", "(list "+literal+" (neg "+literal+"))")
		checkTree(t, syntax.Expr, "{"+literal+":"+literal+"}", "(map (pair "+literal+" "+literal+"))")
		checkRefused(t, syntax.Expr, "a @"+literal)
		checkRefused(t, syntax.Expr, "a @"+literal+" b")
		checkRefused(t, syntax.Expr, "f(a@"+literal)
		checkRefused(t, syntax.Expr, "a.@"+literal)
		checkRefused(t, syntax.Parse, "@"+literal)
		checkRefused(t, syntax.Parse, "func f@"+literal)
		checkRefused(t, syntax.Parse, "on @"+literal)
		checkRefused(t, syntax.Parse, "func f() @"+literal)
		checkStatement(t, literal+";", "(do "+literal+")")
		refusedStatement(t, "let x @"+literal)
		refusedStatement(t, "select { @"+literal)
	}
}

func TestP8_2_Parentheses(t *testing.T) {
	for _, src := range expressions() {
		n, _, _ := syntax.Expr(src)
		want := show(n)
		for _, around := range []string{"(", "((", "(((((", "( ( "} {
			end := strings.ReplaceAll(around, "(", ")")
			checkTree(t, syntax.Expr, around+src+end, want)
			checkTree(t, syntax.Expr, "-"+around+src+end, "(neg "+want+")")
			checkTree(t, syntax.Expr, around+src+end+".x", "(field x "+want+")")
			checkTree(t, syntax.Expr, around+src+end+" * ("+src+")", "(* "+want+" "+want+")")
			checkRefused(t, syntax.Expr, around+src+"@")
			checkRefused(t, syntax.Expr, around+src+end+"@)")
			checkRefused(t, syntax.Expr, around+src+end+"@(a)")
		}
	}
	for _, n := range []int{1, 39, 40, 41, 1000, (api.MaxSource - 1) / 2} {
		open, closed := strings.Repeat("(", n), strings.Repeat(")", n)
		checkTree(t, syntax.Expr, open+"a"+closed, "a")
		checkFault(t, syntax.Expr, open+"a"+closed[1:], 2*n, api.ErrSyntax)
		checkFault(t, syntax.Expr, open+closed, n, api.ErrSyntax)
		checkFault(t, syntax.Expr, open, n, api.ErrSyntax)
	}
}

func TestP8_1_Variables(t *testing.T) {
	for src, want := range map[string]string{
		"0":                    "0",
		"7":                    "7",
		"9223372036854775807":  fmt.Sprint(math.MaxInt),
		"-0":                   "(neg 0)",
		"-7":                   "(neg 7)",
		"- 7":                  "(neg 7)",
		"-9223372036854775807": fmt.Sprintf("(neg %d)", math.MaxInt),
		`""`:                   `""`,
		`"s"`:                  `"s"`,
		"true":                 "true",
		"false":                "false",
		"null":                 "null",
	} {
		checkTree(t, syntax.Parse, "var v = "+src+";", "(program (var v "+want+"))")
		checkTree(t, syntax.Parse, "var v="+src+" ;\nvar w = 1;", "(program (var v "+want+") (var w 1))")
	}
	for _, src := range []string{
		"var v = @x;", "var v = -@x;", `var v = -@"s";`, "var v = -@true;", "var v = -@null;", "var v = -@-1;", "var v = -@(1);",
		"var v = -@;", "var v = @;", "var v = @(1);", "var v = @[];", "var v = @{};",
		"var v = @not true;", "var v = @await 1;", "var v = @go f();", "var v = 1 @+ 1;", "var v = -1 @- 1;", "var v = null@[0];",
		"var v = 1@.a;", "var v = 1@", "var v = 1 @2;", "var v =@", "var v@", "var@",
		"var v@;", "var v @== 1;", "var v @1;", "var @1 = 1;", `var @"v" = 1;`, "var @= 1;", "var v = 1@, w = 2;", "var v@, w = 1;",
		"var v = 1;@;", "var v = 1; @v = 2;", "@v = 1;", "@let v = 1;",
		"var v = 1 @var w = 1;", "var v = @if;",
	} {
		checkRefused(t, syntax.Parse, src)
	}
	checkFault(t, syntax.Parse, "var v = -9223372036854775808;", 9, api.ErrRange)
}

func TestP8_1_Functions(t *testing.T) {
	for src, want := range map[string]string{
		"func f() { }": "(func f (block))", "func f(a){}": "(func f a (block))", "func f(a, b, a) { a; }": "(func f a b a (block (do a)))",
		"func f(" + strings.Repeat("p, ", 20) + "q) { }": "(func f " + strings.Repeat("p ", 20) + "q (block))",
	} {
		checkTree(t, syntax.Parse, src, "(program "+want+")")
		checkTree(t, syntax.Parse, src+"\n"+src, "(program "+want+" "+want+")")
	}
	for _, src := range []string{
		"func@", "func @() { }", "func @1() { }", `func @"f"() { }`, "func f@", "func f @{ }", "func f(@", "func f(a@", "func f(a,@",
		"func f(a,@) { }", "func f(@,) { }", "func f(@, a) { }", "func f(a @b) { }",
		"func f(@1) { }", `func f(@"a") { }`, "func f(a @= 1) { }", "func f(@(a)) { }", "func f(a@.b) { }", "func f()@", "func f()@;",
		"func f() @return 1;", "func f() {@", "func f() { a;@", "func f() { } @;", "func f() { } @{ }",
		"func f() { }@}", "func f() { @func g() { } }", "func f() { @var v = 1; }", "func f() { @on signal s(x) { } }", "@f() { }", "@{ }",
		"@;", "@1", `@"s"`, "func f() @check { }", "func f(@-a) { }", "func f@[]",
	} {
		checkRefused(t, syntax.Parse, src)
	}
}

func TestP8_1_Handlers(t *testing.T) {
	for src, want := range map[string]string{
		"on signal s(x) { }":                 `(signal s "x" (block))`,
		"on query q(x) { return x; }":        `(query q "x" (block (return x)))`,
		"on update u(x) { }":                 `(update u "x" (block))`,
		"on update u(x) check { } { }":       `(update u "x" (block) (block))`,
		"on update u(x)check{a;}{b;}":        `(update u "x" (block (do a)) (block (do b)))`,
		"on update u(x) check { a; b; } { }": `(update u "x" (block (do a) (do b)) (block))`,
		"on signal u(u) { u; }":              `(signal u "u" (block (do u)))`,
	} {
		checkTree(t, syntax.Parse, src, "(program "+want+")")
		checkTree(t, syntax.Parse, src+src, "(program "+want+" "+want+")")
		checkTree(t, syntax.Parse, "var v = 1; "+src+" func f() { }", "(program (var v 1) "+want+" (func f (block)))")
	}
	for _, kind := range []string{"signal", "query", "update"} {
		for _, rest := range []string{
			"@", "@(x) { }", "@1(x) { }", `@"s"(x) { }`, "s@", "s @{ }", "s(@", "s(@) { }", "s(@1) { }", `s(@"x") { }`, "s(@(x)) { }",
			"s(x@", "s(x@, y) { }", "s(x @= 1) { }", "s(x)@", "s(x)@;", "s(x) {@", "s(x) { } @{ }",
			"s(x) { } @check { }", "s(x) @else { }", "s(x) { } @else { }",
		} {
			checkRefused(t, syntax.Parse, "on "+kind+" "+rest)
		}
		checkRefused(t, syntax.Parse, "@"+kind+" s(x) { }")
	}
	for _, src := range []string{
		"on signal s(x) @check { } { }", "on query q(x) @check { } { }", "on update u(x) check@", "on update u(x) check { }@",
		"on update u(x) check { }@;", "on update u(x) check { } @check { } { }",
		"on update u(x) check { } { } @{ }", "on update u(x) check @a;", "on update u(x) check { } @func f() { }", "on@", "on @s(x) { }",
		"on @check f(x) { }", "on @func f() { }", "on @on signal s(x) { }", "on @(x)",
		"@check { }", "on @undo u(x) { }", "on signal @query q(x) { }",
	} {
		checkRefused(t, syntax.Parse, src)
	}
}

func TestP8_1_SimpleStatements(t *testing.T) {
	for src, want := range map[string]string{
		"let x = 1;":           "(let x 1)",
		"let x = y == z;":      "(let x (== y z))",
		"let x = not a or b;":  "(let x (or (not a) b))",
		"let x = {};":          "(let x (map))",
		"let x=(y);":           "(let x y)",
		"x = 1;":               "(set x 1)",
		"x = x + 1;":           "(set x (+ x 1))",
		"x = y == z;":          "(set x (== y z))",
		"x=-1;":                "(set x (neg 1))",
		"return;":              "(return)",
		"return a;":            "(return a)",
		"return a or b;":       "(return (or a b))",
		"return {};":           "(return (map))",
		"return (a);":          "(return a)",
		"return null;":         "(return null)",
		"throw a;":             "(throw a)",
		`throw "n";`:           `(throw "n")`,
		"throw {};":            "(throw (map))",
		"throw - a;":           "(throw (neg a))",
		"undo f();":            "(undo f)",
		"undo f(a);":           "(undo f a)",
		"undo f(a, not b, 1);": "(undo f a (not b) 1)",
		"undo f(g(a));":        "(undo f (call g a))",
		"a;":                   "(do a)",
		"f();":                 "(do (call f))",
		"x == 1;":              "(do (== x 1))",
		"x.y;":                 "(do (field y x))",
		"x[0];":                "(do (index x 0))",
		"x + 1;":               "(do (+ x 1))",
		"x and y;":             "(do (and x y))",
		"(x);":                 "(do x)",
		"7;":                   "(do 7)",
		"null;":                "(do null)",
		"-1;":                  "(do (neg 1))",
		"not a;":               "(do (not a))",
		"await a;":             "(do (await a))",
		"go f();":              "(do (go f))",
		"[];":                  "(do (list))",
		"{};":                  "(do (map))",
		`{"k": 1};`:            `(do (map (pair "k" 1)))`,
		"{}.k;":                "(do (field k (map)))",
		"{} == {};":            "(do (== (map) (map)))",
	} {
		checkStatement(t, src, want)
	}
	for _, src := range []string{
		"let@}", "let @= 1;", "let @1 = 1;", `let @"x" = 1;`, "let x@;", "let x@}", "let x @== 1;", "let x =@;", "let x = @}", "let x = 1@}",
		"let x = 1 @2;", "let x = 1@, y = 2;", "let x = y @= 1;", "let x@.y = 1;", "let x@[0] = 1;",
		"let @let x = 1;", "let x = @let y = 1;", "let x = @return;", "let @(x) = 1;", "x =@;", "x = 1@}", "x = y @= 1;", "x.y @= 1;",
		"x[0] @= 1;", "(x) @= 1;", "f() @= 1;", "x@, y = 1;", "7 @= 1;", "x @: 1;",
		"x = @= 1;", "@= 1;", "-x @= 1;", "x + y @= 1;", "return@}", "return a@}", "return a @b;", "return@, a;", "return @return;",
		"return a@, b;", "return @if a { }", "return x @= 1;", "throw@;", "throw@}", "throw a@}", "throw a @b;",
		"throw @throw a;", "undo@;", "undo @1();", "undo f@;", "undo f@.g();", "undo f()@.g;", "undo f()@}", "undo f(@;", "undo f(a@;",
		"undo f(a,@);", "undo @(f)();", "undo f() @+ 1;", "undo @go f();", "undo @undo f();", "undo f()@();",
		"a@}", "a @b;", "@;", "a;@;", "a@, b;", "a@) ;", "@)", "@]", "@,", "@else { }", "@catch x { }", "@case a { }", "@check { }",
		"@func f() { }", "@var v = 1;", "@on signal s(x) { }", "@query;", "@or;", "{ @a; }", "{ @let x = 1; }", "{ }@}",
		"@*a;", "@.a;", "@:", "{@{}}", "await@;", "go@;",
	} {
		refusedStatement(t, src)
	}
}

func TestP8_1_BlocksInStatements(t *testing.T) {
	for src, want := range map[string]string{
		"if a { }":                           "(if a (block))",
		"if a { } else { }":                  "(if a (block) (block))",
		"if a { b; } else { c; d; }":         "(if a (block (do b)) (block (do c) (do d)))",
		"if a { } else if b { }":             "(if a (block) (if b (block)))",
		"if a { } else if b { } else { c; }": "(if a (block) (if b (block) (block (do c))))",
		"if a { } else if b { } else if c { } else if d { } else { }": "(if a (block) (if b (block) (if c (block) (if d (block) (block)))))",
		"if a { if b { } else { } }":                                  "(if a (block (if b (block) (block))))",
		"if a { if b { } } else { }":                                  "(if a (block (if b (block))) (block))",
		"if a { } else { if b { } }":                                  "(if a (block) (block (if b (block))))",
		"if {} { }":                                                   "(if (map) (block))",
		"if {}.k { } else if {} { }":                                  "(if (field k (map)) (block) (if (map) (block)))",
		"if not a or b == c { }":                                      "(if (or (not a) (== b c)) (block))",
		"if (a) { }":                                                  "(if a (block))",
		"if a{}else{}":                                                "(if a (block) (block))",
		"if a { } {};":                                                "(if a (block)) (do (map))",
		"if a { } if b { } else { }":                                  "(if a (block)) (if b (block) (block))",
		"while a { }":                                                 "(while a (block))",
		"while a < b { a = a + 1; }":                                  "(while (< a b) (block (set a (+ a 1))))",
		"while {} { {}; }":                                            "(while (map) (block (do (map))))",
		"while true { while false { } }":                              "(while true (block (while false (block))))",
		"try { } catch e { }":                                         "(try e (block) (block))",
		"try { a; } catch b { c; d; }":                                "(try b (block (do a)) (block (do c) (do d)))",
		"try { try { } catch e { a; } } catch f { }":                  "(try f (block (try e (block) (block (do a)))) (block))",
		"saga { }":                                                    "(saga (block))",
		"saga { undo f(); saga { a; } }":                              "(saga (block (undo f) (saga (block (do a)))))",
	} {
		checkStatement(t, src, want)
	}
	for _, src := range []string{
		"if@;", "if @}", "if { @a; }", "if a@;", "if a@}", "if a @b;", "if a @return;", "if a { } else@}", "if a { } else @a;",
		"if a { } else@;", "if a { } else { } @else { }", "if a { } else { } @else if b { }", "if a { } else @while b { }",
		"if a { } else @else { }", "if a @= b { }", "if a @else { }", "if a { }@;", "if a { } { @a; }", "if a @if b { }", "if @if a { }",
		"if a { } else if@}", "if a { } else if b@;", "if (a @{ }", "if a@, b { }", "@else if a { }",
		"while@;", "while a@;", "while a@}", "while a { } @else { }", "while a @= b { }", "while @while a { }", "while a { }@;", "try@;",
		"try @a;", "try { }@}", "try { } catch@}", "try { } catch @{ }", "try { } catch @1 { }", `try { } catch @"e" { }`,
		"try { } catch e@;", "try { } catch e @a;", "try { } catch e { } @catch f { }", "try { } catch @(e) { }", "try { }@;",
		"try { } @else { }", "try { } catch e@.f { }", "try @catch e { }", "saga@;", "saga @a;", "saga { }@;", "saga { } @catch e { }",
		"saga @f() { }", "saga @saga { }", "try { } catch e@, f { }",
	} {
		refusedStatement(t, src)
	}
	for _, open := range []string{"if a {", "if a { } else {", "while a {", "try {", "try { } catch e {", "saga {", "select { case a {", "select { else {"} {
		checkRefused(t, syntax.Parse, "func f() { "+open+"@")
		checkRefused(t, syntax.Parse, "func f() { "+open+" b;@")
		checkRefused(t, syntax.Parse, "func f() { "+open+" b @}")
		refusedStatement(t, open+" let @}")
	}
}

func TestP8_1_SelectStatements(t *testing.T) {
	for src, want := range map[string]string{
		"select { case a { } }":                "(select (case a (block)))",
		"select { else { } }":                  "(select (else (block)))",
		"select { case x = a { } }":            "(select (case x a (block)))",
		"select { case a { b; } else { c; } }": "(select (case a (block (do b))) (else (block (do c))))",
		"select{case a==b{}}":                  "(select (case (== a b) (block)))",
		"select { case x = a { } case b { } case y = c.d { } else { } }": "(select (case x a (block)) (case b (block)) (case y (field d c) (block)) (else (block)))",
		"select { case {} { } case x = {} { {}; } }":                     "(select (case (map) (block)) (case x (map) (block (do (map)))))",
		"select { case x = y == z { } }":                                 "(select (case x (== y z) (block)))",
		"select { case (x) { } case x { } }":                             "(select (case x (block)) (case x (block)))",
		"select { case a { select { case b { } } } }":                    "(select (case a (block (select (case b (block))))))",
	} {
		checkStatement(t, src, want)
	}
	for _, src := range []string{
		"select@;", "select @case a { }", "select @a { }", "select { @}", "select { @a; }", "select { @{ } }", "select {@;",
		"select { else { } @case a { } }", "select { else { } @else { } }", "select { case a { } else { } @else { } }",
		"select { case a { } else { } @case b { } }", "select { case@}", "select { case @;", "select { case { @a; } }", "select { case a@;",
		"select { case a@}", "select { case a @case b { } }", "select { case x = { } @}",
		"select { case x = y @= z { } }", "select { case x.y @= z { } }", "select { case @= z { } }", "select { case 1 @= z { } }",
		"select { case a { }@;", "select { case a { } @a; }", "select { else@;", "select { else @if a { } }", "select { else@}",
		"select { else { } }@;", "select { case a { } } @else { }", "select { @default { } }", "select { case a@: b; }",
		"select { case a@, b { } }", "select { else @a { } }", "select { case (x) @= y { } }", "select { case x =@}",
	} {
		refusedStatement(t, src)
	}
}

func TestP8_1_CasesUpToTheirLimit(t *testing.T) {
	for n := 1; n <= api.MaxCases; n++ {
		src, want := "select { "+strings.Repeat("case a { } ", n), "(select"+strings.Repeat(" (case a (block))", n)
		checkStatement(t, src+"}", want+")")
		checkStatement(t, src+"else { b; } }", want+" (else (block (do b))))")
		checkStatement(t, strings.Repeat(src+"} ", 3), strings.TrimSpace(strings.Repeat(want+") ", 3)))
		if n < api.MaxCases {
			checkStatement(t, src+"case x = b { } }", want+" (case x b (block)))")
		}
	}
	full := strings.Repeat("case x = a { } ", api.MaxCases)
	refusedStatement(t, "select { "+full+"@case b { } }")
	refusedStatement(t, "select { "+full+"@case")
	refusedStatement(t, "select { "+full+"@case x = b { } else { } }")
	refusedStatement(t, "select { "+full+"else { } @case b { } }")
	refusedStatement(t, "select { "+full+"else { } @else { } }")
	refusedStatement(t, "select { "+full+"@a")
	refusedStatement(t, "select { case b { select { "+full+"} } "+strings.Repeat("case b { } ", api.MaxCases-1)+"@case b { } }")
	checkStatement(t, "select { case b { select { "+full+"} } "+strings.Repeat("case b { } ", api.MaxCases-1)+"}",
		"(select (case b (block (select"+strings.Repeat(" (case x a (block))", api.MaxCases)+")))"+strings.Repeat(" (case b (block))",
			api.MaxCases-1)+")")
}

func TestP8_1_KeywordsWhereANameIsAskedFor(t *testing.T) {
	for _, k := range keywords() {
		for _, src := range []string{
			"var @? = 1;", "func @?() { }", "func f(@?) { }", "func f(a, @?) { }", "on signal @?(x) { }", "on query @?(x) { }",
			"on update @?(x) { }", "on signal s(@?) { }", "on query q(@?) { }", "on update u(@?) { }",
		} {
			checkRefused(t, syntax.Parse, strings.Replace(src, "?", k, 1))
		}
		for _, src := range []string{"let @? = 1;", "try { } catch @? { }", "undo @?();", "undo @?;", "go @?();", "a.@?;", "a.b.@?;", "x = go @?(1);"} {
			refusedStatement(t, strings.Replace(src, "?", k, 1))
		}
		if !slices.Contains(strings.Fields("not await go true false null"), k) {
			checkRefused(t, syntax.Expr, "@"+k)
			checkRefused(t, syntax.Expr, "f(@"+k+")")
			checkRefused(t, syntax.Expr, "a + @"+k+"(1)")
			refusedStatement(t, "select { case @"+k+" = a { } }")
		}
	}
	for _, name := range []string{"If", "iff", "_if", "if_", "checks", "Signal", "nul", "_", "main", "len"} {
		checkTree(t, syntax.Parse, strings.ReplaceAll("var ? = 1; func ?(?) { let ? = ?(?).?; ? = 1; undo ?(); } on update ?(?) { }", "?", name),
			strings.ReplaceAll(`(program (var ? 1) (func ? ? (block (let ? (field ? (call ? ?))) (set ? 1) (undo ?))) (update ? "?" (block)))`,
				"?", name))
	}
}

func TestP8_1_P8_2_ErrorsOfTheScanComeFirst(t *testing.T) {
	for _, x := range []struct {
		fault string
		at    int
		e     api.Errno
	}{
		{"!", 0, api.ErrForm}, {"1a", 0, api.ErrForm}, {"01", 0, api.ErrForm}, {"\x00", 0, api.ErrForm}, {"; ? ;", 2, api.ErrForm},
		{`"a`, 0, api.ErrShort}, {`"\A"`, 0, api.ErrForm}, {long(api.MaxName + 1), 0, api.ErrName},
		{"9223372036854775808", 0, api.ErrRange}, {`"` + strings.Repeat("s", api.MaxText+1) + `"`, 0, api.ErrSize},
		{"x " + long(65) + " !", 2, api.ErrName},
	} {
		for _, before := range []string{"", " ", "a ", "a + ", ") ", "a b ", "func f() { } ", "func f() { let x = ", "} } ", "if ",
			"select { } ", strings.Repeat("- ", 50), "[" + strings.Repeat("0,", 4500)} {
			checkFault(t, syntax.Expr, before+x.fault, len(before)+x.at, x.e)
			checkFault(t, syntax.Parse, before+x.fault, len(before)+x.at, x.e)
		}
		if x.e != api.ErrShort {
			checkFault(t, syntax.Parse, x.fault+" )", x.at, x.e)
			checkFault(t, syntax.Expr, x.fault+" )", x.at, x.e)
		}
	}
	checkFault(t, syntax.Expr, "a ) ) 1a !", 6, api.ErrForm)
	checkFault(t, syntax.Expr, "a ) )", 2, api.ErrSyntax)
	checkTree(t, syntax.Expr, `"`+strings.Repeat("s", api.MaxText)+`"`, `"`+strings.Repeat("s", api.MaxText)+`"`)
}

func TestP8_1_P8_2_TextsOfMaxSourceBytes(t *testing.T) {
	for _, src := range []string{"", "var v = 1;", "func f() { }"} {
		full := src + strings.Repeat(" ", api.MaxSource-len(src))
		n, _, _ := syntax.Parse(src)
		checkNode(t, syntax.Parse, full, n)
		checkFault(t, syntax.Parse, full+" ", 0, api.ErrSize)
		checkFault(t, syntax.Parse, full[:api.MaxSource-1]+"x", api.MaxSource-1, api.ErrSyntax)
		checkFault(t, syntax.Parse, full+"!", 0, api.ErrSize)
		checkFault(t, syntax.Parse, full+")", 0, api.ErrSize)
	}
	full := strings.Repeat("\n", api.MaxSource-1) + "a"
	checkTree(t, syntax.Expr, full, "a")
	checkFault(t, syntax.Expr, full+" ", 0, api.ErrSize)
	checkFault(t, syntax.Expr, full[:api.MaxSource-1]+"-", api.MaxSource, api.ErrSyntax)
	checkFault(t, syntax.Expr, strings.Repeat("(", api.MaxSource), api.MaxSource, api.ErrSyntax)
	checkFault(t, syntax.Expr, strings.Repeat("(", api.MaxSource+1), 0, api.ErrSize)
	checkFault(t, syntax.Expr, strings.Repeat("not ", 1<<20), 0, api.ErrSize)
}

// nestings are texts in which the part between the marks < and > can be repeated, and how many levels it then adds; the part
// behind the mark | is repeated as often.
func nestings() map[string]int {
	return map[string]int{
		"«-»1":                1,
		"«not »a":             1,
		"«await »a":           1,
		"«- await »a":         2,
		"«[»a«|]»":            1,
		"«f(»a«|)»":           1,
		"«go f(»a«|)»":        1,
		`«{"k": »a«|}»`:       2,
		"a«.b»":               1,
		"a«[0]»":              1,
		"«a[»b«|]»":           1,
		"a«+b»":               1,
		"a« or b»":            1,
		"«a+(»b«|)»":          1,
		"«(a < »b«|)»":        1,
		"«a and (b or »c«|)»": 2,
		"«(go f(»a«|)).b»":    2,
	}
}

// nested repeats the marked parts of a text.
func nested(marked string, n int) string {
	for {
		before, rest, ok := strings.Cut(marked, "«")
		if !ok {
			return marked
		}
		inner, after, _ := strings.Cut(rest, "»")
		marked = before + strings.Repeat(strings.TrimPrefix(inner, "|"), n) + after
	}
}

// checkDepth checks texts that nest more and more, around the limit; depth is that of the text that does not nest.
func checkDepth(t *testing.T, f parse, marked string, depth, step int) {
	t.Helper()
	for n := range (api.MaxNesting + 4 - depth) / step {
		src, deep := nested(marked, n), depth+n*step
		tree, at, e := f(src)
		if deep > api.MaxNesting {
			checkFault(t, f, src, 0, api.ErrDepth)
		} else if len(levels(tree)) != deep || at != 0 || e != api.OK {
			t.Errorf("%s: the depth is %d, error %d at %d, want %d", brief(src), len(levels(tree)), int(e), at, deep)
		}
	}
}

func TestP8_1_P8_2_DepthUpToItsLimit(t *testing.T) {
	for marked, step := range nestings() {
		checkDepth(t, syntax.Expr, marked, 1, step)
		checkDepth(t, syntax.Parse, inFunction("x = "+marked+";"), 5, step)
	}
	for marked, step := range map[string]int{
		"«if a { »«|}»":                  2,
		"«if a { } else { »«|}»":         2,
		"«while a { »«|}»":               2,
		"«try { »«|} catch e { }»":       2,
		"«try { } catch e { »«|}»":       2,
		"«saga { »«|}»":                  2,
		"«select { case x = a { »«|} }»": 3,
		"«select { else { »«|} }»":       3,
	} {
		checkDepth(t, syntax.Parse, inFunction(marked), 3, step)
		checkDepth(t, syntax.Parse, "on update u(x) { "+marked+"}", 3, step)
		checkDepth(t, syntax.Parse, "on update u(x) check { } { "+marked+"}", 3, step)
		checkDepth(t, syntax.Parse, "on update u(x) check { "+marked+"} { }", 3, step)
		checkDepth(t, syntax.Parse, "on signal s(x) { "+marked+"}", 3, step)
	}
	checkDepth(t, syntax.Parse, inFunction("if a { }« else if b { }»"), 5, 1)
	checkDepth(t, syntax.Parse, inFunction("if a { }« else if b { }» else { x; }"), 7, 1)
	for _, n := range []int{40, 41, 100, 2000, api.MaxSource - 1} {
		checkFault(t, syntax.Expr, strings.Repeat("-", n)+"1", 0, map[bool]api.Errno{true: api.ErrSize, false: api.ErrDepth}[n+1 > api.MaxTree])
	}
}

// checkSize checks texts that grow, around the limit of nodes.
func checkSize(t *testing.T, f parse, begin, repeated, end string, nodes, step int) {
	t.Helper()
	most := (api.MaxTree - nodes) / step
	for n := most - 2; n <= most+2; n++ {
		src := begin + strings.Repeat(repeated, n) + end
		tree, at, e := f(src)
		if n > most {
			checkFault(t, f, src, 0, api.ErrSize)
		} else if got := len(slices.Concat(levels(tree)...)); got != nodes+n*step || at != 0 || e != api.OK {
			t.Errorf("%s: %d nodes, error %d at %d, want %d", brief(src), got, int(e), at, nodes+n*step)
		}
	}
}

func TestP8_1_P8_2_SizeUpToItsLimit(t *testing.T) {
	checkSize(t, syntax.Expr, "[", "0,", "0]", 2, 1)
	checkSize(t, syntax.Expr, "f(", "a,", "a)", 2, 1)
	checkSize(t, syntax.Expr, "go f(", "a,", "a)", 2, 1)
	checkSize(t, syntax.Expr, "{", `"":0,`, `"":0}`, 3, 2)
	checkSize(t, syntax.Expr, `{"":1,`, `"":0,`, `"":[]}`, 5, 2)
	checkSize(t, syntax.Expr, "[[[", "-0,", "0]]]", 4, 2)
	checkSize(t, syntax.Parse, "", "var v=1;", "", 1, 2)
	checkSize(t, syntax.Parse, "func f(a) { } ", "var v=1;", "", 4, 2)
	checkSize(t, syntax.Parse, "func f(", "p,", "p) { }", 4, 1)
	checkSize(t, syntax.Parse, "func f() {", "a;", "}", 3, 2)
	checkSize(t, syntax.Parse, "func f() { return; ", "a;", "}", 4, 2)
	checkSize(t, syntax.Parse, "on update u(x) check {", "if a {}", "} { }", 4, 3)
}

func TestP8_1_P8_2_OrderOfErrors(t *testing.T) {
	// a+a+..: n operands have 2n - 1 nodes and the depth n.
	sum := func(n int) string { return strings.TrimSuffix(strings.Repeat("a+", n), "+") }
	checkFault(t, syntax.Expr, sum(41), 0, api.ErrDepth)
	checkFault(t, syntax.Expr, sum(2000), 0, api.ErrDepth)
	checkFault(t, syntax.Expr, sum(2001), 0, api.ErrSize)
	checkFault(t, syntax.Expr, sum(8000), 0, api.ErrSize)
	checkFault(t, syntax.Expr, sum(8000)+" b", 16000, api.ErrSyntax)
	checkFault(t, syntax.Expr, strings.Repeat("-", 50)+")", 50, api.ErrSyntax)
	checkFault(t, syntax.Expr, "["+strings.Repeat("0,", 5000), 10001, api.ErrSyntax)
	checkFault(t, syntax.Expr, "["+strings.Repeat("0,", 5000)+"0]", 0, api.ErrSize)
	checkFault(t, syntax.Expr, "["+strings.Repeat("0,", 5000)+strings.Repeat("-", 50)+"0]", 0, api.ErrSize)
	checkFault(t, syntax.Expr, strings.Repeat("-", 50)+"["+strings.Repeat("0,", 5000)+"0]", 0, api.ErrSize)
	checkFault(t, syntax.Parse, inFunction(sum(2000)+";"), 0, api.ErrSize)
	checkFault(t, syntax.Parse, inFunction(sum(1998)+";"), 0, api.ErrDepth)
	checkFault(t, syntax.Parse, strings.Repeat("var v=1;", 2000)+"x", 16000, api.ErrSyntax)
	checkFault(t, syntax.Parse, inFunction(strings.Repeat("saga { ", 100)+strings.Repeat("}", 100))+" }", 11+700+100+3, api.ErrSyntax)
	checkFault(t, syntax.Parse, inFunction(strings.Repeat("saga { ", 100)+strings.Repeat("}", 100)), 0, api.ErrDepth)
}

func TestP8_1_P8_2_BlanksBetweenTokens(t *testing.T) {
	for _, src := range append(programs(), wholeProgram()) {
		n, _, _ := syntax.Parse(src)
		checkNode(t, syntax.Parse, spelled(scan(src)), n)
		checkNode(t, syntax.Parse, strings.ReplaceAll(spelled(scan(src)), " ", "\n\t "), n)
	}
	for _, src := range expressions() {
		n, _, _ := syntax.Expr(src)
		checkNode(t, syntax.Expr, strings.ReplaceAll(spelled(scan(src)), " ", "\n")+"\t", n)
	}
}
