package source_test

import (
	"fmt"
	"math"
	"strings"
	"testing"

	"workflow/api"
)

// checkStatement expects the lines of a statement, alone in a function and between others in a block within blocks.
func checkStatement(t *testing.T, n api.Node, lines ...string) {
	t.Helper()
	checkText(t, program(function(n)), inFunction(lines...))
	inner := "    " + strings.Join(lines, "\n    ") + "\n"
	loop := node(api.SWhile, node(api.XTrue), block(node(api.SReturn), n, node(api.SExpr, id("z"))))
	checkText(t, program(function(loop)), "func f() {\n  while true {\n    return;\n"+inner+"    z;\n  }\n}\n")
}

func TestP9_1_SimpleStatements(t *testing.T) {
	a, b := id("a"), id("b")
	sum := node(api.XOr, a, node(api.XOr, b, a))
	checkStatement(t, named(api.SLet, "x", a), "let x = a;")
	checkStatement(t, named(api.SLet, "x", sum), "let x = a or (b or a);")
	checkStatement(t, named(api.SSet, "x", a), "x = a;")
	checkStatement(t, named(api.SSet, "x", node(api.XEq, a, b)), "x = a == b;")
	checkStatement(t, node(api.SReturn), "return;")
	checkStatement(t, node(api.SReturn, a), "return a;")
	checkStatement(t, node(api.SReturn, node(api.XMap)), "return {};")
	checkStatement(t, node(api.SReturn, sum), "return a or (b or a);")
	checkStatement(t, node(api.SReturn, node(api.XNull)), "return null;")
	checkStatement(t, node(api.SThrow, a), "throw a;")
	checkStatement(t, node(api.SThrow, text("a\nb")), `throw "a\nb";`)
	checkStatement(t, node(api.SThrow, node(api.XNeg, num(1))), "throw -1;")
	checkStatement(t, node(api.SExpr, a), "a;")
	checkStatement(t, node(api.SExpr, node(api.XMap)), "{};")
	checkStatement(t, node(api.SExpr, node(api.XEq, a, b)), "a == b;")
	checkStatement(t, node(api.SExpr, node(api.XNot, node(api.XAnd, a, b))), "not (a and b);")
	checkStatement(t, node(api.SExpr, node(api.XAwait, named(api.XGo, "f"))), "await go f();")
	checkStatement(t, named(api.SUndo, "f"), "undo f();")
	checkStatement(t, named(api.SUndo, "f", a), "undo f(a);")
	checkStatement(t, named(api.SUndo, "f", a, sum, num(1)), "undo f(a, a or (b or a), 1);")
}

// ask returns an if statement whose first block has one statement.
func ask(name string, other ...api.Node) api.Node {
	return node(api.SIf, append([]api.Node{id(name), block(node(api.SReturn))}, other...)...)
}

func TestP9_1_IfStatements(t *testing.T) {
	other := block(node(api.SThrow, num(1)))
	checkStatement(t, node(api.SIf, id("a"), block()), "if a {", "}")
	checkStatement(t, node(api.SIf, id("a"), block(), block()), "if a {", "} else {", "}")
	checkStatement(t, ask("a"), "if a {", "  return;", "}")
	checkStatement(t, ask("a", other), "if a {", "  return;", "} else {", "  throw 1;", "}")
	checkStatement(t, ask("a", ask("b")), "if a {", "  return;", "} else if b {", "  return;", "}")
	checkStatement(t, ask("a", ask("b", other)), "if a {", "  return;", "} else if b {", "  return;", "} else {", "  throw 1;", "}")
	checkStatement(t, ask("a", ask("b", ask("c", ask("d", block())))), "if a {", "  return;", "} else if b {", "  return;", "} else if c {",
		"  return;", "} else if d {", "  return;", "} else {", "}")
	checkStatement(t, ask("a", block(ask("b", other))), "if a {", "  return;", "} else {", "  if b {", "    return;", "  } else {",
		"    throw 1;", "  }", "}")
	checkStatement(t, ask("a", block(ask("b"))), "if a {", "  return;", "} else {", "  if b {", "    return;", "  }", "}")
	checkStatement(t, node(api.SIf, id("a"), block(ask("b")), other), "if a {", "  if b {", "    return;", "  }", "} else {", "  throw 1;", "}")
	checkStatement(t, node(api.SIf, node(api.XMap), block(), block()), "if {} {", "} else {", "}")
	checkStatement(t, node(api.SIf, node(api.XOr, id("a"), id("b")), block()), "if a or b {", "}")
}

func TestP9_1_LoopsAndCatches(t *testing.T) {
	back, again := node(api.SReturn), node(api.SExpr, named(api.XCall, "g"))
	checkStatement(t, node(api.SWhile, id("a"), block()), "while a {", "}")
	checkStatement(t, node(api.SWhile, node(api.XNot, id("a")), block(back, again)), "while not a {", "  return;", "  g();", "}")
	checkStatement(t, node(api.SWhile, node(api.XMap, pair("k", id("a"))), block()), `while {"k": a} {`, "}")
	checkStatement(t, node(api.SSaga, block()), "saga {", "}")
	checkStatement(t, node(api.SSaga, block(named(api.SUndo, "f"), again)), "saga {", "  undo f();", "  g();", "}")
	checkStatement(t, node(api.SSaga, block(node(api.SSaga, block()))), "saga {", "  saga {", "  }", "}")
	checkStatement(t, named(api.STry, "x", block(), block()), "try {", "} catch x {", "}")
	checkStatement(t, named(api.STry, "x", block(back), block(again, back)), "try {", "  return;", "} catch x {", "  g();", "  return;", "}")
	checkStatement(t, named(api.STry, "x", block(named(api.STry, "y", block(), block())), block(named(api.STry, "z", block(), block()))),
		"try {", "  try {", "  } catch y {", "  }", "} catch x {", "  try {", "  } catch z {", "  }", "}")
}

func TestP9_1_SelectStatements(t *testing.T) {
	back, receive := node(api.SReturn), named(api.XCall, "receive", text("s"))
	plain, bound := named(api.SCase, "", id("t"), block()), named(api.SCase, "x", receive, block(back))
	checkStatement(t, node(api.SSelect, plain), "select {", "  case t {", "  }", "}")
	checkStatement(t, node(api.SSelect, bound), "select {", `  case x = receive("s") {`, "    return;", "  }", "}")
	checkStatement(t, node(api.SSelect, node(api.SElse, block())), "select {", "  else {", "  }", "}")
	checkStatement(t, node(api.SSelect, node(api.SElse, block(back, back))), "select {", "  else {", "    return;", "    return;", "  }", "}")
	checkStatement(t, node(api.SSelect, bound, plain), "select {", `  case x = receive("s") {`, "    return;", "  }", "  case t {", "  }", "}")
	checkStatement(t, node(api.SSelect, plain, bound, node(api.SElse, block(back))), "select {", "  case t {", "  }", `  case x = receive("s") {`,
		"    return;", "  }", "  else {", "    return;", "  }", "}")
	checkStatement(t, node(api.SSelect, named(api.SCase, "x", node(api.XEq, id("x"), id("y")), block())), "select {", "  case x = x == y {", "  }", "}")
	checkStatement(t, node(api.SSelect, named(api.SCase, "", node(api.XEq, id("x"), id("y")), block())), "select {", "  case x == y {", "  }", "}")
	checkStatement(t, node(api.SSelect, named(api.SCase, "", node(api.XMap), block())), "select {", "  case {} {", "  }", "}")
	checkStatement(t, node(api.SSelect, named(api.SCase, "", id("a"), block(node(api.SSelect, bound)))), "select {", "  case a {", "    select {",
		`      case x = receive("s") {`, "        return;", "      }", "    }", "  }", "}")
	var cases []api.Node
	lines := []string{"select {"}
	for i := range api.MaxCases {
		cases = append(cases, named(api.SCase, "", id(fmt.Sprint("t", i)), block()))
		lines = append(lines, fmt.Sprintf("  case t%d {", i), "  }")
		checkStatement(t, node(api.SSelect, cases...), append(lines[:len(lines):len(lines)], "}")...)
		checkStatement(t, node(api.SSelect, append(cases[:len(cases):len(cases)], node(api.SElse, block()))...),
			append(lines[:len(lines):len(lines)], "  else {", "  }", "}")...)
	}
}

func TestP9_1_BlocksWithinBlocks(t *testing.T) {
	inner := block()
	lines := []string{}
	for depth := 5; depth < api.MaxNesting; depth += 2 {
		inner = block(node(api.SSaga, inner))
		lines = append(append([]string{"saga {"}, moved(lines)...), "}")
		checkText(t, program(named(api.DFunc, "f", inner)), inFunction(lines...))
	}
	if len(lines) != 36 {
		t.Errorf("only %d lines", len(lines))
	}
	checkText(t, program(function(named(api.SLet, "x", num(1)), node(api.SWhile, id("x"), block(ask("x", block(node(api.SSaga, block())))))),
		named(api.DVar, "v", num(1))), inFunction("let x = 1;", "while x {", "  if x {", "    return;", "  } else {", "    saga {", "    }", "  }",
		"}")+"var v = 1;\n")
}

// moved returns lines that are indented further.
func moved(lines []string) []string {
	var l []string
	for _, x := range lines {
		l = append(l, "  "+x)
	}
	return l
}

func TestP9_1_ProgramsWithoutDeclarations(t *testing.T) {
	checkText(t, program(), "")
	checkFormat(t, "", "")
	checkFormat(t, " \n\t", "")
	checkFormat(t, strings.Repeat("\n", api.MaxSource), "")
}

func TestP9_1_Declarations(t *testing.T) {
	a, back := id("a"), node(api.SReturn)
	handler := func(op int, blocks ...api.Node) api.Node { return api.Node{Op: op, Name: "h", Text: "p", Kids: blocks} }
	for want, n := range map[string]api.Node{
		"var x = null;\n":                                 named(api.DVar, "x", node(api.XNull)),
		"var x = true;\n":                                 named(api.DVar, "x", node(api.XTrue)),
		"var x = false;\n":                                named(api.DVar, "x", node(api.XFalse)),
		"var x = 0;\n":                                    named(api.DVar, "x", num(0)),
		"var x = 9223372036854775807;\n":                  named(api.DVar, "x", num(math.MaxInt)),
		"var x = -0;\n":                                   named(api.DVar, "x", node(api.XNeg, num(0))),
		"var x = -9223372036854775807;\n":                 named(api.DVar, "x", node(api.XNeg, num(math.MaxInt))),
		"var x = \"s\\n\";\n":                             named(api.DVar, "x", text("s\n")),
		"func f() {\n}\n":                                 function(),
		"func f() {\n  return;\n}\n":                      function(back),
		"func f() {\n  return;\n  return;\n}\n":           function(back, back),
		"func f(a) {\n}\n":                                named(api.DFunc, "f", a, block()),
		"func f(a, b) {\n  return;\n}\n":                  named(api.DFunc, "f", a, id("b"), block(back)),
		"func f(a, a, a) {\n}\n":                          named(api.DFunc, "f", a, a, a, block()),
		"on signal h(p) {\n}\n":                           handler(api.DSignal, block()),
		"on signal h(p) {\n  return;\n}\n":                handler(api.DSignal, block(back)),
		"on query h(p) {\n}\n":                            handler(api.DQuery, block()),
		"on query h(p) {\n  return;\n}\n":                 handler(api.DQuery, block(back)),
		"on update h(p) {\n}\n":                           handler(api.DUpdate, block()),
		"on update h(p) {\n  return;\n}\n":                handler(api.DUpdate, block(back)),
		"on update h(p) check {\n} {\n}\n":                handler(api.DUpdate, block(), block()),
		"on update h(p) check {\n  return;\n} {\n}\n":     handler(api.DUpdate, block(back), block()),
		"on update h(p) check {\n} {\n  return;\n}\n":     handler(api.DUpdate, block(), block(back)),
		"on update h(p) check {\n  a;\n} {\n  b;\n}\n":    handler(api.DUpdate, block(node(api.SExpr, a)), block(node(api.SExpr, id("b")))),
		"on update h(p) check {\n  saga {\n  }\n} {\n}\n": handler(api.DUpdate, block(node(api.SSaga, block())), block()),
	} {
		checkText(t, program(n), want)
		checkText(t, program(function(), n, named(api.DVar, "v", num(1)), n), "func f() {\n}\n"+want+"var v = 1;\n"+want)
	}
}

func TestP9_1_WholePrograms(t *testing.T) {
	checkFormat(t, `var x = -5; on update u(p) check { } { select { case y = f() { undo g(y); } else { } } }
		func main(x){if x{return 1;}else if 1{throw "n";}}`, `var x = -5;
on update u(p) check {
} {
  select {
    case y = f() {
      undo g(y);
    }
    else {
    }
  }
}
func main(x) {
  if x {
    return 1;
  } else if 1 {
    throw "n";
  }
}
`)
	checkFormat(t, `func main() { let t = timer(5); select { case x = receive("s") { return x; } case t { return null; } } }`, `func main() {
  let t = timer(5);
  select {
    case x = receive("s") {
      return x;
    }
    case t {
      return null;
    }
  }
}
`)
	checkFormat(t, `func main(){saga{undo a(1);undo a(2);throw"x";}}func a(n){await activity("undo",n,{"first":100,"coef":200});}
		on signal s(p){log=push(log,[p,now()]);while len(log)>10{log=log[1];}}var log=null;on query q(p){return{"n":len(log)-1}[p];}`,
		`func main() {
  saga {
    undo a(1);
    undo a(2);
    throw "x";
  }
}
func a(n) {
  await activity("undo", n, {"first": 100, "coef": 200});
}
on signal s(p) {
  log = push(log, [p, now()]);
  while len(log) > 10 {
    log = log[1];
  }
}
var log = null;
on query q(p) {
  return {"n": len(log) - 1}[p];
}
`)
}

func TestP9_1_StatementsWithinStatements(t *testing.T) {
	count := 0
	everyProgram(3, func(n api.Node) {
		checkText(t, n, canonical(n))
		count++
	})
	randomPrograms(5000, func(n api.Node) { checkText(t, n, canonical(n)) })
	if count < 10000 {
		t.Errorf("only %d programs", count)
	}
}

// TestP9_1_Layout checks what the chapter says of all lines.
func TestP9_1_Layout(t *testing.T) {
	randomPrograms(3000, func(n api.Node) {
		indent := 0
		s := printed(t, n)
		if s != "" && !strings.HasSuffix(s, "\n") {
			t.Errorf("no line feed ends %s", brief(s))
		}
		for _, line := range strings.SplitAfter(s, "\n") {
			if line == "" {
				continue
			}
			if strings.HasPrefix(strings.TrimLeft(line, " "), "}") {
				indent--
			}
			content := strings.TrimPrefix(line, strings.Repeat("  ", indent))
			if content == "" || strings.ContainsAny(content[:1], " \n\t") || strings.ContainsAny(line[len(line)-2:len(line)-1], " \t") {
				t.Errorf("%q has a line %q", s, line)
			}
			if strings.HasSuffix(line, "{\n") {
				indent++
			}
		}
	})
}
