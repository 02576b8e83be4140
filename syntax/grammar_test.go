package syntax_test

import (
	"regexp"
	"slices"
	"strings"
	"testing"

	"workflow/api"
	"workflow/syntax"
	"workflow/token"
)

// grammar is the grammar of DOC.md. Declarations, cases and the else branch have rules of their own here, the if statement has
// its own because DOC.md refers to it, and a select statement has a branch, as P8.1 asks for.
const grammar = `
program   = { declaration }
declaration = "var" name "=" constant ";" | "func" name "(" [ name { "," name } ] ")" block
          | "on" "signal" name "(" name ")" block | "on" "query" name "(" name ")" block
          | "on" "update" name "(" name ")" [ "check" block ] block
block     = "{" { statement } "}"
statement = "let" name "=" expr ";" | name "=" expr ";" | if-statement
          | "while" expr block | "return" [ expr ] ";" | "throw" expr ";" | "try" block "catch" name block
          | "saga" block | "undo" name "(" [ expr { "," expr } ] ")" ";"
          | "select" "{" ( case { case } [ otherwise ] | otherwise ) "}" | expr ";"
if-statement = "if" expr block [ "else" ( block | if-statement ) ]
case      = "case" [ name "=" ] expr block
otherwise = "else" block
expr      = and { "or" and }          and = not { "and" not }          not = "not" not | compare
compare   = sum [ ( "<" | "<=" | ">" | ">=" | "==" | "!=" ) sum ]
sum       = product { ( "+" | "-" ) product }     product = unary { ( "*" | "/" | "%" ) unary }
unary     = "-" unary | "await" unary | "go" name "(" [ expr { "," expr } ] ")" | postfix
postfix   = primary { "." name | "[" expr "]" }
primary   = integer | string | "true" | "false" | "null" | name | name "(" [ expr { "," expr } ] ")"
          | "[" [ expr { "," expr } ] "]" | "{" [ string ":" expr { "," string ":" expr } ] "}" | "(" expr ")"
constant  = integer | "-" integer | string | "true" | "false" | "null"
`

// rule is a part of the grammar: a terminal in quotation marks, the name of a rule or of a kind of tokens, or one of | { [ and
// a space (a sequence) with parts.
type rule struct {
	what  string
	parts []rule
}

var grammarWord = regexp.MustCompile(`"[^"]+"|[a-z-]+|[={}\[\]()|]`)

// grammarReader reads the grammar itself.
type grammarReader struct{ words []string }

func rules() map[string]rule {
	r := grammarReader{grammarWord.FindAllString(grammar, -1)}
	found := map[string]rule{}
	for len(r.words) > 0 {
		name := r.words[0]
		r.words = r.words[2:]
		found[name] = r.alternatives()
	}
	return found
}

func (r *grammarReader) alternatives() rule {
	l := []rule{r.sequence()}
	for len(r.words) > 0 && r.words[0] == "|" {
		r.words = r.words[1:]
		l = append(l, r.sequence())
	}
	return rule{"|", l}
}

// sequence ends before the name of the next rule, which an equals sign follows.
func (r *grammarReader) sequence() rule {
	s := rule{what: " "}
	for len(r.words) > 0 && !strings.Contains("}])|", r.words[0]) && (len(r.words) < 2 || r.words[1] != "=") {
		word := r.words[0]
		r.words = r.words[1:]
		if !strings.Contains("{[(", word) {
			s.parts = append(s.parts, rule{what: word})
			continue
		}
		inner := r.alternatives()
		r.words = r.words[1:]
		if word != "(" {
			inner = rule{word, []rule{inner}}
		}
		s.parts = append(s.parts, inner)
	}
	return s
}

// part is a part of a text: a token, or what a rule of the grammar stands for.
type part struct {
	rule  string
	token api.Token
	parts []part
}

// matcher tries all ways in which the grammar can read tokens.
type matcher struct {
	rules    map[string]rule
	tokens   []api.Token
	furthest int // the index of the first token that none of them can step over
}

// match calls then for each way in which tokens from at on belong to a rule, until it returns true.
func (m *matcher) match(r rule, at int, found []part, then func(int, []part) bool) bool {
	found = slices.Clip(found)
	switch r.what {
	case " ":
		return m.sequence(r.parts, at, found, then)
	case "|":
		return slices.ContainsFunc(r.parts, func(x rule) bool { return m.match(x, at, found, then) })
	case "[":
		return m.match(r.parts[0], at, found, then) || then(at, found)
	case "{":
		return m.match(r.parts[0], at, found, func(k int, l []part) bool { return m.match(r, k, l, then) }) || then(at, found)
	}
	if inner, ok := m.rules[r.what]; ok {
		return m.match(inner, at, nil, func(k int, l []part) bool { return then(k, append(found, part{rule: r.what, parts: l})) })
	}
	m.furthest = max(m.furthest, at)
	return m.fits(r.what, m.tokens[at]) && then(at+1, append(found, part{token: m.tokens[at]}))
}

func (m *matcher) sequence(l []rule, at int, found []part, then func(int, []part) bool) bool {
	if len(l) == 0 {
		return then(at, found)
	}
	return m.match(l[0], at, found, func(k int, more []part) bool { return m.sequence(l[1:], k, more, then) })
}

// fits reports whether a token is a terminal of the grammar.
func (m *matcher) fits(terminal string, x api.Token) bool {
	switch terminal {
	case "name":
		return x.Kind == api.TokName
	case "integer":
		return x.Kind == api.TokInt
	case "string":
		return x.Kind == api.TokText
	}
	return (x.Kind == api.TokKeyword || x.Kind == api.TokSign) && `"`+x.Text+`"` == terminal
}

// spec parses as the grammar says. Only the limit of cases is left to other tests.
type spec struct{ rules map[string]rule }

func newSpec() spec { return spec{rules()} }

func (s spec) program(src string) (api.Node, int, api.Errno) { return s.read("program", src) }

func (s spec) expr(src string) (api.Node, int, api.Errno) { return s.read("expr", src) }

func (s spec) read(start, src string) (n api.Node, at int, e api.Errno) {
	tokens, at, e := token.Scan(src)
	if e != api.OK {
		return n, at, e
	}
	m := matcher{rules: s.rules, tokens: tokens}
	if !m.match(rule{what: start}, 0, nil, func(k int, l []part) bool {
		m.furthest = max(m.furthest, k)
		n = l[0].tree()
		return tokens[k].Kind == api.TokEnd
	}) {
		return api.Node{}, tokens[m.furthest].At, api.ErrSyntax
	}
	all := levels(n)
	if len(slices.Concat(all...)) > 4000 {
		return api.Node{}, 0, api.ErrSize
	}
	if len(all) > 40 {
		return api.Node{}, 0, api.ErrDepth
	}
	return n, 0, api.OK
}

// names returns the names among the tokens of a part, and trees what its rules stand for.
func (p part) names() []string {
	var l []string
	for _, x := range p.parts {
		if x.token.Kind == api.TokName {
			l = append(l, x.token.Text)
		}
	}
	return l
}

func (p part) trees() []api.Node {
	var l []api.Node
	for _, x := range p.parts {
		if x.rule != "" {
			l = append(l, x.tree())
		}
	}
	return l
}

// tree returns the node that chapter 8 describes for a part.
func (p part) tree() api.Node {
	switch p.rule {
	case "program":
		return node(api.DProgram, p.trees()...)
	case "declaration":
		return p.declaration()
	case "block":
		return node(api.SBlock, p.trees()...)
	case "otherwise":
		return node(api.SElse, p.trees()...)
	case "statement", "if-statement", "case":
		return p.statement()
	case "not", "unary":
		return p.prefix()
	case "postfix":
		return p.postfix()
	case "primary", "constant":
		return p.primary()
	}
	n := p.parts[0].tree()
	for i := 1; i < len(p.parts); i += 2 {
		n = node(binaries()[p.parts[i].token.Text], n, p.parts[i+1].tree())
	}
	return n
}

func binaries() map[string]int {
	l := map[string]int{}
	for op := api.XMul; op <= api.XOr; op++ {
		l[words[op]] = op
	}
	return l
}

func (p part) declaration() api.Node {
	names, trees := p.names(), p.trees()
	switch p.parts[0].token.Text {
	case "var":
		return named(api.DVar, names[0], trees...)
	case "func":
		var kids []api.Node
		for _, x := range names[1:] {
			kids = append(kids, id(x))
		}
		return named(api.DFunc, names[0], append(kids, trees...)...)
	}
	ops := map[string]int{"signal": api.DSignal, "query": api.DQuery, "update": api.DUpdate}
	return handler(ops[p.parts[1].token.Text], names[0], names[1], trees...)
}

func (p part) statement() api.Node {
	if p.parts[0].rule == "if-statement" {
		return p.parts[0].tree()
	}
	if p.parts[0].rule == "expr" {
		return node(api.SExpr, p.trees()...)
	}
	ops := map[string]int{
		"let": api.SLet, "if": api.SIf, "while": api.SWhile, "return": api.SReturn, "throw": api.SThrow, "try": api.STry, "saga": api.SSaga,
		"undo": api.SUndo, "select": api.SSelect, "case": api.SCase,
	}
	op := ops[p.parts[0].token.Text]
	if op == 0 {
		op = api.SSet
	}
	return named(op, strings.Join(p.names(), ""), p.trees()...)
}

func (p part) prefix() api.Node {
	ops := map[string]int{"not": api.XNot, "-": api.XNeg, "await": api.XAwait, "go": api.XGo}
	if op := ops[p.parts[0].token.Text]; op != 0 {
		return named(op, strings.Join(p.names(), ""), p.trees()...)
	}
	return p.parts[0].tree()
}

func (p part) postfix() api.Node {
	n := p.parts[0].tree()
	for i, x := range p.parts {
		if x.token.Text == "." {
			n = named(api.XField, p.parts[i+1].token.Text, n)
		} else if x.rule == "expr" {
			n = node(api.XIndex, n, x.tree())
		}
	}
	return n
}

func (p part) primary() api.Node {
	first := p.parts[0].token
	switch first.Kind {
	case api.TokInt:
		return num(first.Int)
	case api.TokText:
		return text(first.Text)
	case api.TokName:
		if len(p.parts) == 1 {
			return id(first.Text)
		}
		return named(api.XCall, first.Text, p.trees()...)
	}
	switch first.Text {
	case "[":
		return node(api.XList, p.trees()...)
	case "{":
		return p.pairs()
	case "(":
		return p.parts[1].tree()
	case "-":
		return node(api.XNeg, num(p.parts[1].token.Int))
	}
	return node(map[string]int{"true": api.XTrue, "false": api.XFalse, "null": api.XNull}[first.Text])
}

func (p part) pairs() api.Node {
	n := node(api.XMap)
	for i := 1; i+3 < len(p.parts); i += 4 {
		n.Kids = append(n.Kids, pair(p.parts[i].token.Text, p.parts[i+2].tree()))
	}
	return n
}

// checker compares the package with the grammar.
type checker struct {
	*testing.T
	spec spec
	good int // the texts that the grammar accepts
}

func newChecker(t *testing.T) *checker { return &checker{T: t, spec: newSpec()} }

// program compares the results of Parse, and expr those of Expr. They return the offset of a syntax error, or -1.
func (c *checker) program(src string) int { return c.compare(syntax.Parse, c.spec.program, src) }

func (c *checker) expr(src string) int { return c.compare(syntax.Expr, c.spec.expr, src) }

func (c *checker) compare(f, want parse, src string) int {
	c.Helper()
	n, at, e := f(src)
	m, k, g := want(src)
	if !same(n, m) || at != k || e != g {
		c.Errorf("%s: %s, %d, %d, want %s, %d, %d", brief(src), brief(show(n)), at, int(e), brief(show(m)), k, int(g))
	}
	if g == api.OK {
		c.good++
	}
	if g != api.ErrSyntax {
		return -1
	}
	return k
}

// extend checks all texts that begin with s and continue with at most n of the pieces. A text that is refused before its end
// is not continued, because every continuation is refused at the same place.
func (c *checker) extend(check func(string) int, s string, pieces []string, n int) {
	if at := check(s); n == 0 || at >= 0 && at < len(s) {
		return
	}
	for _, p := range pieces {
		c.extend(check, s+p, pieces, n-1)
	}
}

// atLeast fails unless so many of the texts were good: otherwise the test would compare little.
func (c *checker) atLeast(n int) {
	c.Helper()
	if c.good < n {
		c.Errorf("the grammar accepts only %d of the texts", c.good)
	}
}

// spelled writes tokens with a blank before each.
func spelled(l []api.Token) string {
	if len(l) == 0 {
		return ""
	}
	return " " + token.Spell(l)
}

// damaged calls f with each text that differs from src in one place: cut off, or a token left out, doubled, moved behind the
// next one, or replaced by or preceded by one of each other kind.
func damaged(src string, f func(string)) {
	l := scan(src)
	l = l[:len(l)-1]
	others := scan(`x 7 "s" ` + strings.Join(keywords(), " ") + " == != <= >= ( ) { } [ ] , ; . : = < > + - * / %")
	others = others[:len(others)-1]
	for i := range l {
		before, rest := spelled(l[:i]), spelled(l[i+1:])
		this := spelled(l[i : i+1])
		f(before)
		f(before + rest)
		f(before + this + this + rest)
		if i > 0 {
			f(spelled(l[:i-1]) + this + spelled(l[i-1:i]) + rest)
		}
		for k := range others {
			other := spelled(others[k : k+1])
			f(before + other + rest)
			f(before + other + this + rest)
		}
	}
}

// expressions returns texts with each form of an expression, in each place that takes one.
func expressions() []string {
	return []string{
		"a", "7", `"s"`, "true", "false", "null", "[]", "[a]", "[a, 1, [b]]", "{}", `{"k": a}`, `{"k": a, "": {"l": []}}`, "f()", "f(a)",
		"f(a, b, g(c))",
		"go f()", "go f(a)", "go f(a, go g(b, 1))", "await a", "not a", "-a", "a * b", "a / b", "a % b", "a + b", "a - b", "a < b", "a <= b",
		"a > b", "a >= b",
		"a == b", "a != b", "a and b", "a or b", "a[b]", "a.b", "(a)", "((a))",
		"a or b and not c < d + e * -f[g].h", "-await not_a.b[0] * (c + d) - e", "await go f(a) == 1 or not not b", "(go f(a)).b[go g()]",
		"a - b - c * d / e % f + g", "not a == b and c or d", "[not a, b or c, -1][2]", `{"k": not a or b}.k[1].l`, "f(not a, b and c)[d]",
		"(a < b) < (c == d)",
		"a.b.c[d][e].f", `"s"[0]`, "7.a", "null.b[1]", "[].a", "{}[0]", "- - await - await a", "f(a).b[f(b)]",
	}
}

// programs returns texts with each form of a declaration and of a statement.
func programs() []string {
	l := []string{
		"", "var v = 1;", "var v = -1;", `var v = "s";`, "var v = true; var w = false; var x = null;", "func f() { }", "func f(a) { }",
		"func f(a, b, c) { f(); }",
		"on signal s(x) { }", "on query q(x) { return x; }", "on update u(x) { }", "on update u(x) check { throw x; } { return; }",
		"var v = 1; func f(a) { } on signal s(x) { v = x; } on query q(x) { } on update u(x) check { } { } func g() { }",
	}
	for _, s := range statements() {
		l = append(l, inFunction(s))
	}
	return l
}

// wholeProgram has all statements in one text.
func wholeProgram() string {
	all := statements()
	return "on update u(x) check { " + strings.Join(all[:9], " ") + " } { " + strings.Join(all[9:], " ") + " }"
}

func statements() []string {
	return []string{
		"let x = a;", "x = a;", "if a { }", "if a { b; } else { c; }", "if a { } else if b { x = 1; } else if c { } else { }",
		"while a { b; }", "return;",
		"return a;", "throw a;", "try { a; } catch x { b; }", "saga { undo f(); }", "undo f();", "undo f(a, b);", "select { else { } }",
		"select { case a { } }", "select { case x = a { b; } else { c; } }", "select { case a.b { } case x = f() { } case {} { } else { } }",
		"a;", "f(a);",
		"x == a;", "{};", `{"k": a}.k;`, "[a];", "-a;", "not a;", "await a;", "go f(a);", "(a);", "x.b;", "x[a];", "if {} { }",
		`while {"k": a}.k { }`,
		"if a { if b { } else { } } else { while c { try { } catch d { saga { } } } }", "let y = x == a; y = (y); ",
	}
}

func TestP8_1_P8_2_EveryFormWithEveryDamage(t *testing.T) {
	c := newChecker(t)
	c.program(wholeProgram())
	for _, src := range programs() {
		c.program(src)
		damaged(src, func(s string) { c.program(s) })
	}
	for _, src := range expressions() {
		c.expr(src)
		damaged(src, func(s string) { c.expr(s) })
	}
	c.atLeast(4000)
}

func TestP8_2_AllShortExpressions(t *testing.T) {
	c := newChecker(t)
	c.extend(c.expr, "", []string{"a ", "7 ", `"k"`, "not ", "- ", "< ", "+ ", "* ", "and ", "or "}, 5)
	c.extend(c.expr, "", []string{"a ", `"k"`, "( ", ") ", "[ ", "] ", "{ ", "} ", ", ", ": "}, 7)
	c.extend(c.expr, "", []string{"a ", "go ", "await ", "( ", ") ", ". ", "[ ", "] ", "- ", "== "}, 6)
	c.extend(c.expr, "f(a", []string{"a ", ", ", "( ", ") ", "= ", "; "}, 7)
	c.atLeast(2500)
}

func TestP8_1_AllShortPrograms(t *testing.T) {
	c := newChecker(t)
	c.extend(c.program, "",
		[]string{"var ", "func ", "on ", "signal ", "query ", "update ", "check ", "v ", "= ", "- ", "1 ", "; ", "( ", ") ", "{ ", "} ", ", "}, 10)
	c.extend(c.program, "on update u(x)", []string{"check ", "{ ", "} ", "on ", "func "}, 9)
	c.atLeast(40)
}

func TestP8_1_AllShortStatements(t *testing.T) {
	c := newChecker(t)
	pieces := strings.Fields("let return throw undo try catch saga x = == ( ) { } ; ,")
	for i := range pieces {
		pieces[i] += " "
	}
	c.extend(c.program, "func f(){", pieces, 6)
	c.extend(c.program, "func f(){", []string{"if ", "else ", "while ", "a ", "{ ", "} ", "; "}, 9)
	c.extend(c.program, "func f(){ select ", []string{"case ", "else ", "x ", "= ", "{ ", "} "}, 11)
	c.extend(c.program, "func f(){ try ", []string{"catch ", "x ", "{ ", "} ", "; ", "= "}, 9)
	c.atLeast(100)
}
