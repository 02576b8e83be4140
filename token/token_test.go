package token_test

import (
	"fmt"
	"math"
	"math/big"
	"slices"
	"strings"
	"testing"

	"workflow/api"
	"workflow/token"
)

const (
	letters = "ABCDEFGHIJKLMNOPQRSTUVWXYZ_abcdefghijklmnopqrstuvwxyz"
	digits  = "0123456789"
	blanks  = " \t\n"
)

func keywords() []string {
	return strings.Fields("and await case catch check else false func go if let not null on or query return saga select signal throw true try " +
		"undo update var while")
}

// bytesOf returns the 256 strings of one byte.
func bytesOf() []string {
	var l []string
	for c := range 256 {
		l = append(l, string([]byte{byte(c)}))
	}
	return l
}

// brief shortens a text for a message, because some texts in these tests are huge.
func brief(s string) string {
	if len(s) > 120 {
		return fmt.Sprintf("%q..%q (%d bytes)", s[:60], s[len(s)-40:], len(s))
	}
	return fmt.Sprintf("%q", s)
}

// specQuote writes a literal as P7.3 says.
func specQuote(s string) string {
	escapes := map[byte]string{34: "\\\"", 92: "\\\\", 10: "\\n", 9: "\\t"}
	l := []string{"\""}
	for _, c := range []byte(s) {
		written, special := escapes[c]
		if !special && (c < 32 || c > 126) {
			written = fmt.Sprintf("\\x%02x", c)
		} else if !special {
			written = fmt.Sprintf("%c", c)
		}
		l = append(l, written)
	}
	return strings.Join(append(l, "\""), "")
}

func checkQuote(t *testing.T, s, want string) {
	t.Helper()
	if got := token.Quote(s); got != want {
		t.Errorf("Quote(%s) = %s, want %s", brief(s), brief(got), brief(want))
	}
}

func checkSpell(t *testing.T, want string, l ...api.Token) {
	t.Helper()
	if got := token.Spell(l); got != want {
		t.Errorf("Spell(%v) = %s, want %s", l, brief(got), brief(want))
	}
}

func TestP7_2_Keywords(t *testing.T) {
	if n := len(keywords()); n != 27 {
		t.Fatalf("the test has %d keywords", n)
	}
	for _, k := range keywords() {
		if !token.Keyword(k) {
			t.Errorf("Keyword(%q) = false", k)
		}
	}
}

func TestP7_2_NoKeywords(t *testing.T) {
	for _, s := range []string{
		"", " ", "_", "a", "x", "main", "len", "str", "int", "keys", "push", "put", "has", "activity", "timer", "child", "send", "receive", "cancellation",
		"now", "random", "version", "record", "done", "cancel", "cancelled", "attrs", "continueAs", "canceled", "for", "break", "continue", "do", "then",
		"end", "in", "is", "xor", "elif", "elseif", "const", "import", "handler", "yield", "async", "spawn", "finally", "defer", "goto", "function",
		"nil", "none", "unless", "until", "match", "switch", "validate", "compensate", "=", "==", "(", "\"and\"", "0", "1", "and or", "and,or",
		"\x00", "\xff", "\u00e4nd",
	} {
		if token.Keyword(s) {
			t.Errorf("Keyword(%q) = true", s)
		}
	}
}

func TestP7_2_WordsLikeKeywords(t *testing.T) {
	for _, k := range keywords() {
		words := []string{strings.ToUpper(k), strings.ToUpper(k[:1]) + k[1:], k[:len(k)-1] + strings.ToUpper(k[len(k)-1:]), k + k, k + "\x00", "\x00" + k}
		for _, c := range bytesOf() {
			words = append(words, k+c, c+k, k[:1]+c+k[1:], k[:1]+c+k[2:], c+k[1:], k[:len(k)-1]+c)
		}
		for n := range len(k) {
			words = append(words, k[:n], k[n+1:])
		}
		for _, w := range words {
			if want := slices.Contains(keywords(), w); token.Keyword(w) != want {
				t.Errorf("Keyword(%q) = %t", w, !want)
			}
		}
	}
}

func TestP7_2_AllShortWords(t *testing.T) {
	words := []string{""}
	for range 4 {
		var longer []string
		for _, w := range words {
			for c := 'a'; c <= 'z'; c++ {
				longer = append(longer, w+string(c))
			}
		}
		words = longer
		for _, w := range words {
			if token.Keyword(w) && !slices.Contains(keywords(), w) {
				t.Errorf("Keyword(%q) = true", w)
			}
		}
	}
}

func TestP7_3_QuoteExamples(t *testing.T) {
	checkQuote(t, "", `""`)
	checkQuote(t, "a", `"a"`)
	checkQuote(t, "order 7", `"order 7"`)
	checkQuote(t, "\"", `"\""`)
	checkQuote(t, "\\", `"\\"`)
	checkQuote(t, "\n", `"\n"`)
	checkQuote(t, "\t", `"\t"`)
	checkQuote(t, "\r\a\b\f\v\x00\x1b", `"\x0d\x07\x08\x0c\x0b\x00\x1b"`)
	checkQuote(t, "\x1f !#[]^~\x7f\x80\xab\xff", `"\x1f !#[]^~\x7f\x80\xab\xff"`)
	checkQuote(t, "\\n", `"\\n"`)
	checkQuote(t, "\\\"", `"\\\""`)
	checkQuote(t, "\\x41", `"\\x41"`)
	checkQuote(t, "'`/", "\"'`/\"")
	checkQuote(t, "\u00e4\u2028\U0001f600", `"\xc3\xa4\xe2\x80\xa8\xf0\x9f\x98\x80"`)
	checkQuote(t, "\u0141\ufffd\xc3", `"\xc5\x81\xef\xbf\xbd\xc3"`)
	checkQuote(t, "a\"b\\c\nd\te\x01f\xfeg", `"a\"b\\c\nd\te\x01f\xfeg"`)
}

func TestP7_3_QuoteOfBytes(t *testing.T) {
	for _, c := range bytesOf() {
		checkQuote(t, c, specQuote(c))
		checkQuote(t, "x"+c+"y", specQuote("x"+c+"y"))
		for _, d := range bytesOf() {
			checkQuote(t, c+d, specQuote(c+d))
		}
	}
	all := strings.Join(bytesOf(), "")
	checkQuote(t, all, specQuote(all))
}

func TestP7_3_QuoteOfLongStrings(t *testing.T) {
	for _, n := range []int{api.MaxText, api.MaxText + 1, api.MaxSource, api.MaxSource + 1, 1 << 20} {
		checkQuote(t, strings.Repeat("a", n), "\""+strings.Repeat("a", n)+"\"")
		checkQuote(t, strings.Repeat("\xff", n), "\""+strings.Repeat("\\xff", n)+"\"")
	}
}

func TestP7_4_SpellExamples(t *testing.T) {
	checkSpell(t, "")
	checkSpell(t, "x", id(0, "x"))
	checkSpell(t, "let x = 10 ;", kw(0, "let"), id(4, "x"), sign(6, "="), num(8, 10), sign(10, ";"), end(11))
	checkSpell(t, `f ( "a\n\"" , "" , -1 )`, id(0, "f"), sign(0, "("), text(0, "a\n\""), sign(0, ","), text(0, ""), sign(0, ","), num(0, -1), sign(0, ")"))
	checkSpell(t, "a < = b", id(0, "a"), sign(1, "<"), sign(2, "="), id(3, "b"))
	checkSpell(t, "a <= b", id(9, "a"), sign(5, "<="), id(-3, "b"))
}

func TestP7_4_SpellOfIntegers(t *testing.T) {
	for _, n := range []int{0, 1, -1, 9, 10, 11, -10, 99, 100, 255, 256, 1<<31 - 1, 1 << 31, 1<<53 + 1, -1 << 31, math.MaxInt - 1, math.MaxInt, math.MinInt, math.MinInt + 1} {
		want := big.NewInt(int64(n)).String()
		checkSpell(t, want, num(0, n))
		checkSpell(t, "- "+want, sign(0, "-"), num(0, n))
		checkSpell(t, want, api.Token{Kind: api.TokInt, At: 7, Int: n, Text: "text"})
	}
}

// TestP7_4_SpellTakesTexts has tokens that no text has: Spell does not look at what is in a Text.
func TestP7_4_SpellTakesTexts(t *testing.T) {
	for _, kind := range []int{api.TokName, api.TokKeyword, api.TokSign} {
		for _, s := range []string{"", " ", "a", "let", "=", "a b", "\"", "\\", "\n", "\x00\xff", "\u00e4", strings.Repeat("n", 1<<16)} {
			x := api.Token{Kind: kind, Text: s, Int: 5}
			checkSpell(t, s, x)
			checkSpell(t, s+" "+s, x, x)
			checkSpell(t, "1 "+s+" 2", num(0, 1), x, num(0, 2))
		}
	}
	checkSpell(t, "  =", id(0, ""), id(0, ""), sign(0, "="))
}

func TestP7_4_SpellQuotes(t *testing.T) {
	for _, c := range bytesOf() {
		checkSpell(t, specQuote(c), text(0, c))
		checkSpell(t, "a "+specQuote(c+"b")+" c", id(0, "a"), text(0, c+"b"), id(0, "c"))
	}
	checkSpell(t, `"\\"`, api.Token{Kind: api.TokText, Text: "\\", Int: 3, At: 1})
	long := strings.Repeat("\x7f", api.MaxSource)
	checkSpell(t, specQuote(long), text(0, long))
}

func TestP7_4_SpellOmitsOtherKinds(t *testing.T) {
	for _, kind := range []int{api.TokEnd, 6, 7, 9, 100, -1, -2, math.MaxInt, math.MinInt, 1 << 32, 1<<32 + 1, 256 + api.TokName} {
		x := api.Token{Kind: kind, Text: "text", Int: 5}
		checkSpell(t, "", x)
		checkSpell(t, "", x, x, end(0))
		checkSpell(t, "a b", x, id(0, "a"), x, x, id(0, "b"), x)
	}
}

func TestP7_4_SpellOfManyTokens(t *testing.T) {
	l := slices.Repeat([]api.Token{id(0, "ab"), num(0, 12), sign(0, "("), end(0)}, 5000)
	checkSpell(t, strings.TrimSuffix(strings.Repeat("ab 12 ( ", 5000), " "), l...)
}

func TestR5_SpellLeavesItsArgument(t *testing.T) {
	l := []api.Token{kw(0, "let"), id(4, "x"), sign(6, "="), num(8, 10), text(11, "a\n"), end(15), {Kind: 9, Text: "no", Int: 3}}
	before := slices.Clone(l)
	first := token.Spell(l[:3])
	if first != "let x =" || !slices.Equal(l, before) {
		t.Errorf("Spell of the first tokens = %q, and the list is then %v", first, l)
	}
	whole := token.Spell(l)
	if whole != `let x = 10 "a\n"` || token.Spell(l) != whole || !slices.Equal(l, before) {
		t.Errorf("Spell = %q, and the list is then %v", whole, l)
	}
	l[1].Text = "y"
	if token.Spell(l[:3]) != "let y =" || first != "let x =" {
		t.Errorf("Spell keeps a result or an argument: %q, %q", token.Spell(l[:3]), first)
	}
}
