package token_test

import (
	"math/big"
	"regexp"
	"slices"
	"strconv"
	"strings"
	"testing"

	"workflow/api"
	"workflow/token"
)

var (
	blankForm   = regexp.MustCompile(`^[ \t\n]*`)
	wordForm    = regexp.MustCompile(`^[A-Za-z_][A-Za-z0-9_]*`)
	digitsForm  = regexp.MustCompile(`^[0-9]+`)
	wrongDigits = regexp.MustCompile(`^(0[0-9]|[0-9]+[A-Za-z_])`)
	openLiteral = regexp.MustCompile(`^"([ !#-\[\]-~]|\\["\\nt]|\\x[0-9a-f][0-9a-f])*`)
	cutEscape   = regexp.MustCompile(`^(\\(x[0-9a-f]?)?)?$`)
	signForm    = regexp.MustCompile(`^(==|!=|<=|>=|[(){}\[\],;.:=<>+*/%-])`)
)

// specScan reads a text with regular expressions, which the package itself does not do.
func specScan(src string) ([]api.Token, int, api.Errno) {
	if len(src) > 16384 {
		return nil, 0, api.ErrSize
	}
	var l []api.Token
	for at := 0; ; {
		at += len(blankForm.FindString(src[at:]))
		if at == len(src) {
			return append(l, end(at)), 0, api.OK
		}
		t, n, e := specToken(src[at:])
		if e != api.OK {
			return nil, at, e
		}
		t.At = at
		l = append(l, t)
		at += n
	}
}

// specToken returns the first token of a text without leading blanks, and its length.
func specToken(s string) (api.Token, int, api.Errno) {
	if w := wordForm.FindString(s); len(w) > 64 {
		return api.Token{}, 0, api.ErrName
	} else if w != "" && slices.Contains(keywords(), w) {
		return kw(0, w), len(w), api.OK
	} else if w != "" {
		return id(0, w), len(w), api.OK
	}
	if wrongDigits.MatchString(s) {
		return api.Token{}, 0, api.ErrForm
	}
	if d := digitsForm.FindString(s); d != "" {
		n, _ := new(big.Int).SetString(d, 10)
		if !n.IsInt64() {
			return api.Token{}, 0, api.ErrRange
		}
		return num(0, int(n.Int64())), len(d), api.OK
	}
	if s[0] == '"' {
		return specLiteral(s)
	}
	if w := signForm.FindString(s); w != "" {
		return sign(0, w), len(w), api.OK
	}
	return api.Token{}, 0, api.ErrForm
}

// specLiteral decodes a literal as one of Go, in which all escapes of this one mean the same.
func specLiteral(s string) (api.Token, int, api.Errno) {
	begin := openLiteral.FindString(s)
	rest := s[len(begin):]
	if cutEscape.MatchString(rest) {
		return api.Token{}, 0, api.ErrShort
	}
	if rest[0] != '"' {
		return api.Token{}, 0, api.ErrForm
	}
	meant, err := strconv.Unquote(begin + `"`)
	if err != nil {
		panic("the test cannot decode " + begin)
	}
	if len(meant) > 4096 {
		return api.Token{}, 0, api.ErrSize
	}
	return text(0, meant), len(begin) + 1, api.OK
}

// checkSame compares the package with specScan, and reports whether the text has tokens.
func checkSame(t *testing.T, src string) ([]api.Token, bool) {
	t.Helper()
	l, at, e := token.Scan(src)
	want, k, f := specScan(src)
	if !slices.Equal(l, want) || at != k || e != f {
		t.Errorf("Scan(%s) = %v, %d, %d, want %v, %d, %d", brief(src), l, at, e, want, k, f)
	}
	return l, e == api.OK
}

// eachText calls f with every text of at most n of the given pieces.
func eachText(pieces []string, n int, f func(string)) {
	texts := []string{""}
	for range n {
		var longer []string
		for _, s := range texts {
			for _, p := range pieces {
				longer = append(longer, s+p)
			}
		}
		texts = longer
		for _, s := range texts {
			f(s)
		}
	}
}

// numbers is a fixed sequence that looks random.
type numbers struct{ state uint64 }

func (r *numbers) below(n int) int {
	r.state = r.state*6364136223846793005 + 1442695040888963407
	return int(r.state>>33) % n
}

func (r *numbers) pick(l []string) string { return l[r.below(len(l))] }

// join returns n of the pieces, one behind the other.
func (r *numbers) join(n int, pieces []string) string {
	var b strings.Builder
	for range n {
		b.WriteString(r.pick(pieces))
	}
	return b.String()
}

// rightPieces are texts of tokens with a blank behind them, some behind a blank, and signs that stand alone.
func rightPieces() []string {
	l := []string{" ", "\t", "\n", "x ", "_a1\n", "Main\t", "0 ", "7 ", "12\n", "9223372036854775807 ", `""`, `"a b"`, `"\"\\\n\t"`, `"\x00\xff"`, `"let"`,
		long(api.MaxName) + " "}
	for _, k := range keywords() {
		l = append(l, k+" ")
	}
	return append(l, strings.Fields("== != <= >= ( ) { } [ ] , ; . : = < > + - * / %")...)
}

// goodTexts returns texts that have tokens.
func goodTexts() []string {
	l := []string{
		"", " ", "func main(x) { return x + 1; }", `func main(x) { return await activity("a", x); }`,
		`func main() { let t = timer(5); select { case x = receive("s") { return x; } case t { return null; } } }`,
		`func main() { saga { undo a(1); undo a(2); throw "x"; } } func a(n) { await activity("undo", n); }`,
		"var n = -1;\n\non update put(x) check { if x<0 or x>=9{throw \"\\x00\";} } { n = n*10%7/x-1; }\ton query get(q){return {\"n\":n, \"q\" : q[0].k};}",
		"a<=b< =c", "====!====", "1 2 3", "a.b.c", "x\ny", "-9223372036854775807-1", `"a""b"c`, strings.Repeat(";", api.MaxSource),
		strings.Repeat("x ", api.MaxSource/2), strings.Repeat("(", 8191) + "12", `"` + long(api.MaxText) + `"`, `"` + strings.Repeat(`\xff`, 4095) + `"`,
	}
	r := numbers{7}
	for n := range 600 {
		l = append(l, r.join(n%40, rightPieces()))
	}
	eachText([]string{" ", "\n", "a", "if", "0", "1", `"\n"`, "=", "<", "!=", "(", "-"}, 3, func(s string) {
		if _, _, e := specScan(s); e == api.OK {
			l = append(l, s)
		}
	})
	return l
}

// withoutPlaces returns the tokens apart from At.
func withoutPlaces(l []api.Token) []api.Token {
	l = slices.Clone(l)
	for i := range l {
		l[i].At = 0
	}
	return l
}

func TestP7_1_AllShortTexts(t *testing.T) {
	found := 0
	eachText([]string{" ", "\n", "a", "f", "x", "0", "7", "_", `"`, `\`, "=", "!", "<", "-", "if", "\x80"}, 4, func(s string) {
		if _, ok := checkSame(t, s); ok {
			found++
		}
	})
	if found < 1000 {
		t.Errorf("only %d of the texts have tokens", found)
	}
}

func TestP7_1_AllShortLiterals(t *testing.T) {
	eachText([]string{`"`, `\`, "x", "n", "0", "a", "A", "\n", " "}, 5, func(s string) { checkSame(t, `"`+s) })
}

func TestP7_1_AllShortRowsOfSigns(t *testing.T) {
	signs := strings.Fields("== != <= >= ( ) { } [ ] , ; . : = < > + - * / % !")
	eachText(signs, 3, func(s string) { checkSame(t, s) })
}

func TestP7_1_AllPairsOfBytes(t *testing.T) {
	for _, c := range bytesOf() {
		for _, d := range bytesOf() {
			checkSame(t, c+d)
			checkSame(t, "a"+c+d+`"`)
			checkSame(t, `"a`+c+d+`b"`)
		}
	}
}

func TestP7_1_LongTexts(t *testing.T) {
	r := numbers{1}
	pieces := append(rightPieces(), bytesOf()...)
	for n := range 3000 {
		checkSame(t, r.join(n%30, pieces))
		checkSame(t, r.join(n%1000, rightPieces()))
	}
	for _, s := range goodTexts() {
		if _, ok := checkSame(t, s); !ok {
			t.Errorf("the text %s has an error", brief(s))
		}
	}
}

func TestP7_5_OffsetsIncrease(t *testing.T) {
	for _, src := range goodTexts() {
		l, _, _ := token.Scan(src)
		for i, x := range l[:len(l)-1] {
			if x.Kind == api.TokEnd || x.At < 0 || x.At >= len(src) || i > 0 && x.At <= l[i-1].At || strings.Contains(blanks, src[x.At:x.At+1]) {
				t.Errorf("Scan(%s): token %d is %v", brief(src), i, x)
			}
		}
		if last := l[len(l)-1]; last != end(len(src)) {
			t.Errorf("Scan(%s): the last token is %v", brief(src), last)
		}
	}
}

// TestP7_5_OffsetsAreExact compares with the source text, in which each token must stand as the next one begins.
func TestP7_5_OffsetsAreExact(t *testing.T) {
	for _, src := range goodTexts() {
		l, _, _ := token.Scan(src)
		for i, x := range l[:len(l)-1] {
			piece := strings.TrimRight(src[x.At:l[i+1].At], blanks)
			if x.Kind == api.TokText {
				piece = token.Quote(mustUnquote(piece))
			}
			if piece != token.Spell([]api.Token{x}) {
				t.Errorf("Scan(%s): token %d is %v, but %s stands there", brief(src), i, x, brief(piece))
			}
		}
	}
}

func mustUnquote(s string) string {
	meant, err := strconv.Unquote(s)
	if err != nil {
		return "no literal: " + s
	}
	return meant
}

func TestP7_6_SpelledTokensScanAlike(t *testing.T) {
	skipped := 0
	for _, src := range goodTexts() {
		l, _, _ := token.Scan(src)
		spelled := token.Spell(l)
		if len(spelled) > api.MaxSource {
			skipped++
			checkFault(t, spelled, 0, api.ErrSize)
			continue
		}
		again, at, e := token.Scan(spelled)
		if !slices.Equal(withoutPlaces(again), withoutPlaces(l)) || at != 0 || e != api.OK || again[len(again)-1].At != len(spelled) {
			t.Errorf("Scan(%s) = %v, %d, %d, but the tokens of %s were spelled", brief(spelled), again, at, e, brief(src))
		}
		if token.Spell(again) != spelled {
			t.Errorf("Spell of the tokens of %s = %s", brief(spelled), brief(token.Spell(again)))
		}
	}
	if skipped > 10 {
		t.Errorf("%d texts are spelled with more than MaxSource bytes", skipped)
	}
}

func TestP7_7_QuotedStringsScan(t *testing.T) {
	strs := append(bytesOf(), "", "a\"b", "\\", "\\\"", "\\x41", "\\n", "\u00e4", strings.Join(bytesOf(), ""), long(api.MaxText), strings.Repeat("\n", api.MaxText),
		strings.Repeat("\"", api.MaxText), strings.Repeat("\x00", 4095), strings.Repeat("\xff", 4095))
	r := numbers{3}
	for n := range 500 {
		strs = append(strs, r.join(n, bytesOf()))
	}
	for _, c := range bytesOf() {
		for _, d := range bytesOf() {
			strs = append(strs, c+d)
		}
	}
	for _, s := range strs {
		l, at, e := token.Scan(token.Quote(s))
		if !slices.Equal(l, []api.Token{text(0, s), end(len(token.Quote(s)))}) || at != 0 || e != api.OK {
			t.Errorf("Scan(Quote(%s)) = %v, %d, %d", brief(s), l, at, e)
		}
	}
	checkFault(t, token.Quote(long(api.MaxText+1)), 0, api.ErrSize)
	checkFault(t, token.Quote(strings.Repeat("\x00", 4096)), 0, api.ErrSize)
}

func TestP7_7_ABlankBetweenTokens(t *testing.T) {
	for _, src := range goodTexts() {
		l, _, _ := token.Scan(src)
		if len(src) == api.MaxSource {
			continue
		}
		for i := 0; i < len(l); i += 1 + len(l)/50 {
			for _, b := range []string{" ", "\t", "\n"} {
				want := slices.Clone(l)
				for k := i; k < len(want); k++ {
					want[k].At++
				}
				checkScan(t, src[:l[i].At]+b+src[l[i].At:], want[:len(want)-1]...)
			}
		}
	}
}
