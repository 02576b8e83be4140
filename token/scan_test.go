package token_test

import (
	"fmt"
	"math"
	"math/big"
	"slices"
	"strings"
	"testing"

	"workflow/api"
	"workflow/token"
)

func kw(at int, s string) api.Token   { return api.Token{Kind: api.TokKeyword, At: at, Text: s} }
func id(at int, s string) api.Token   { return api.Token{Kind: api.TokName, At: at, Text: s} }
func num(at, n int) api.Token         { return api.Token{Kind: api.TokInt, At: at, Int: n} }
func text(at int, s string) api.Token { return api.Token{Kind: api.TokText, At: at, Text: s} }
func sign(at int, s string) api.Token { return api.Token{Kind: api.TokSign, At: at, Text: s} }
func end(at int) api.Token            { return api.Token{Kind: api.TokEnd, At: at} }

func long(n int) string { return strings.Repeat("n", n) }

// checkScan expects the given tokens, behind which it adds the end.
func checkScan(t *testing.T, src string, want ...api.Token) {
	t.Helper()
	want = append(slices.Clone(want), end(len(src)))
	if l, at, e := token.Scan(src); !slices.Equal(l, want) || at != 0 || e != api.OK {
		t.Errorf("Scan(%s) = %v, %d, %d, want %v", brief(src), l, at, e, want)
	}
}

func checkFault(t *testing.T, src string, at int, want api.Errno) {
	t.Helper()
	if l, k, e := token.Scan(src); len(l) != 0 || k != at || e != want {
		t.Errorf("Scan(%s) = %d tokens, %d, %d, want none, %d, %d", brief(src), len(l), k, e, at, want)
	}
}

func TestP7_1_Examples(t *testing.T) {
	checkScan(t, "let x = 10;", kw(0, "let"), id(4, "x"), sign(6, "="), num(8, 10), sign(10, ";"))
	checkFault(t, "a !b", 2, api.ErrForm)
	checkFault(t, "12ab", 0, api.ErrForm)
	checkFault(t, "\"ab", 0, api.ErrShort)
	checkScan(t, "a<=b", id(0, "a"), sign(1, "<="), id(3, "b"))
	checkScan(t, "a< =b", id(0, "a"), sign(1, "<"), sign(3, "="), id(4, "b"))
}

func TestP7_1_Programs(t *testing.T) {
	checkScan(t, "func main(x) { return x + 1; }", kw(0, "func"), id(5, "main"), sign(9, "("), id(10, "x"), sign(11, ")"), sign(13, "{"),
		kw(15, "return"), id(22, "x"), sign(24, "+"), num(26, 1), sign(27, ";"), sign(29, "}"))
	checkScan(t, "{\n\tundo a(\"\\x41b\\n\")[-2];}", sign(0, "{"), kw(3, "undo"), id(8, "a"), sign(9, "("), text(10, "Ab\n"), sign(19, ")"),
		sign(20, "["), sign(21, "-"), num(22, 2), sign(23, "]"), sign(24, ";"), sign(25, "}"))
	checkScan(t, "if x1!=y_.z%3{}", kw(0, "if"), id(3, "x1"), sign(5, "!="), id(7, "y_"), sign(9, "."), id(10, "z"), sign(11, "%"), num(12, 3),
		sign(13, "{"), sign(14, "}"))
	checkScan(t, "a\"b\"\"c\"1\"d\"e", id(0, "a"), text(1, "b"), text(4, "c"), num(7, 1), text(8, "d"), id(11, "e"))
	checkScan(t, `{"k":null,"":-7}`, sign(0, "{"), text(1, "k"), sign(4, ":"), kw(5, "null"), sign(9, ","), text(10, ""), sign(12, ":"), sign(13, "-"),
		num(14, 7), sign(15, "}"))
}

func TestP7_1_BlanksAlone(t *testing.T) {
	for _, src := range []string{"", " ", "\t", "\n", "  ", " \t\n", "\n\n\t  ", strings.Repeat("\n", 1000)} {
		checkScan(t, src)
	}
}

func TestP7_1_BlanksBetweenTokens(t *testing.T) {
	for _, b := range []string{" ", "\t", "\n", " \t\n", "    ", "\n\t\n"} {
		n := len(b)
		checkScan(t, b+"a"+b+"1"+b, id(n, "a"), num(2*n+1, 1))
		checkScan(t, "<"+b+"="+b+"=", sign(0, "<"), sign(n+1, "="), sign(2*n+2, "="))
		checkScan(t, "x"+b+"y", id(0, "x"), id(n+1, "y"))
		checkScan(t, "1"+b+"2"+b+"z", num(0, 1), num(n+1, 2), id(2*n+2, "z"))
		checkScan(t, "on"+b+"\"\"", kw(0, "on"), text(n+2, ""))
		checkFault(t, b+"!"+b+"=", n, api.ErrForm)
	}
}

// oneByte returns the token that c is alone, at an offset, or the error that it has.
func oneByte(c string, at int) (api.Token, api.Errno) {
	switch {
	case strings.Contains(letters, c):
		return id(at, c), api.OK
	case strings.Contains(digits, c):
		return num(at, int(c[0]-'0')), api.OK
	case strings.Contains("(){}[],;.:=<>+-*/%", c):
		return sign(at, c), api.OK
	case c == "\"":
		return api.Token{}, api.ErrShort
	}
	return api.Token{}, api.ErrForm
}

func TestP7_1_EveryByteAlone(t *testing.T) {
	for _, c := range bytesOf() {
		want, e := oneByte(c, 0)
		switch {
		case strings.Contains(blanks, c):
			checkScan(t, c)
		case e != api.OK:
			checkFault(t, c, 0, e)
		default:
			checkScan(t, c, want)
		}
	}
}

func TestP7_1_EveryByteAsAFirstByte(t *testing.T) {
	for _, c := range bytesOf() {
		want, e := oneByte(c, 3)
		for _, before := range []string{"a  ", "a\n\t", "a ;", "a==", "a\"\""} {
			tokens, _, _ := token.Scan(before)
			tokens = tokens[:len(tokens)-1]
			src := before + c + " b"
			switch {
			case before == "a==" && c == "=":
				checkScan(t, src, id(0, "a"), sign(1, "=="), sign(3, "="), id(5, "b"))
			case strings.Contains(blanks, c):
				checkScan(t, src, append(tokens, id(5, "b"))...)
			case e != api.OK:
				checkFault(t, src, 3, e)
			default:
				checkScan(t, src, append(tokens, want, id(5, "b"))...)
			}
		}
	}
}

func TestP7_1_EveryByteBehindAWord(t *testing.T) {
	for _, c := range bytesOf() {
		want, e := oneByte(c, 2)
		switch {
		case strings.Contains(letters+digits, c):
			checkScan(t, "ab"+c, id(0, "ab"+c))
		case strings.Contains(blanks, c):
			checkScan(t, "ab"+c, id(0, "ab"))
		case e != api.OK:
			checkFault(t, "ab"+c, 2, e)
		default:
			checkScan(t, "ab"+c, id(0, "ab"), want)
		}
	}
}

func TestP7_1_EveryByteBehindAnInteger(t *testing.T) {
	for _, c := range bytesOf() {
		want, e := oneByte(c, 2)
		switch {
		case strings.Contains(letters, c):
			checkFault(t, "12"+c, 0, api.ErrForm)
			checkFault(t, "; 0"+c+" ", 2, api.ErrForm)
		case strings.Contains(digits, c):
			checkScan(t, "12"+c, num(0, 120+want.Int))
		case strings.Contains(blanks, c):
			checkScan(t, "12"+c, num(0, 12))
		case e != api.OK:
			checkFault(t, "12"+c, 2, e)
		default:
			checkScan(t, "12"+c, num(0, 12), want)
		}
	}
}

func TestP7_1_Signs(t *testing.T) {
	for _, s := range strings.Fields("== != <= >= ( ) { } [ ] , ; . : = < > + - * / %") {
		checkScan(t, s, sign(0, s))
		checkScan(t, " "+s+" x", sign(1, s), id(len(s)+2, "x"))
		checkScan(t, "a"+s+"1", id(0, "a"), sign(1, s), num(len(s)+1, 1))
		switch s {
		case "=", "<", ">":
			checkScan(t, s+"=", sign(0, s+"="))
			checkScan(t, s+"==", sign(0, s+"="), sign(2, "="))
			checkScan(t, s+" =", sign(0, s), sign(2, "="))
		default:
			checkScan(t, s+"=", sign(0, s), sign(len(s), "="))
			checkScan(t, s+"==", sign(0, s), sign(len(s), "=="))
		}
	}
}

func TestP7_1_SignsInARow(t *testing.T) {
	checkScan(t, "====", sign(0, "=="), sign(2, "=="))
	checkScan(t, "===!=", sign(0, "=="), sign(2, "="), sign(3, "!="))
	checkScan(t, "!==", sign(0, "!="), sign(2, "="))
	checkScan(t, "!===", sign(0, "!="), sign(2, "=="))
	checkScan(t, "=<", sign(0, "="), sign(1, "<"))
	checkScan(t, "=<=", sign(0, "="), sign(1, "<="))
	checkScan(t, "=>", sign(0, "="), sign(1, ">"))
	checkScan(t, "<>", sign(0, "<"), sign(1, ">"))
	checkScan(t, "<<=", sign(0, "<"), sign(1, "<="))
	checkScan(t, ">>", sign(0, ">"), sign(1, ">"))
	checkScan(t, "+=", sign(0, "+"), sign(1, "="))
	checkScan(t, ":=", sign(0, ":"), sign(1, "="))
	checkScan(t, "++--", sign(0, "+"), sign(1, "+"), sign(2, "-"), sign(3, "-"))
	checkScan(t, "//*", sign(0, "/"), sign(1, "/"), sign(2, "*"))
	checkScan(t, "..", sign(0, "."), sign(1, "."))
	checkScan(t, "{}[]()", sign(0, "{"), sign(1, "}"), sign(2, "["), sign(3, "]"), sign(4, "("), sign(5, ")"))
}

func TestP7_1_ExclamationMarks(t *testing.T) {
	for _, src := range []string{"!", "!!", "!!=", "! =", "!\n=", "!a", "!1", "!\"\"", "!<=", "!\xff"} {
		checkFault(t, src, 0, api.ErrForm)
		checkFault(t, "x"+src, 1, api.ErrForm)
		checkFault(t, "!="+src, 2, api.ErrForm)
		checkFault(t, "("+src, 1, api.ErrForm)
	}
	checkFault(t, "=!", 1, api.ErrForm)
	checkScan(t, "=!=", sign(0, "="), sign(1, "!="))
}

func TestP7_1_Keywords(t *testing.T) {
	for _, k := range keywords() {
		n := len(k)
		checkScan(t, k, kw(0, k))
		checkScan(t, "("+k+")", sign(0, "("), kw(1, k), sign(n+1, ")"))
		checkScan(t, k+" "+k+"\""+k+"\"", kw(0, k), kw(n+1, k), text(2*n+1, k))
		for _, w := range []string{k + "s", k + "_", k + "0", "_" + k, "x" + k, k + k, k[:n-1] + "_", strings.ToUpper(k), strings.ToUpper(k[:1]) + k[1:], k[:1]} {
			checkScan(t, w, id(0, w))
		}
		checkFault(t, "1"+k, 0, api.ErrForm)
	}
}

func TestP7_1_Words(t *testing.T) {
	for _, w := range []string{"a", "Z", "_", "__", "_0", "a9", "x_y_Z_0", "goto", "orelse", "notnull", "iff", "elsee", "main", letters, "a" + digits} {
		checkScan(t, w, id(0, w))
		checkScan(t, "."+w+"[", sign(0, "."), id(1, w), sign(len(w)+1, "["))
	}
	checkScan(t, "a.b", id(0, "a"), sign(1, "."), id(2, "b"))
	checkScan(t, "a-b", id(0, "a"), sign(1, "-"), id(2, "b"))
}

func TestP7_1_WordsByLength(t *testing.T) {
	for n := 1; n <= 4*api.MaxName; n++ {
		words := []string{long(n), strings.Repeat("_", n), "Q" + strings.Repeat("7", n-1), "await" + long(n)}
		for _, w := range words {
			if len(w) <= api.MaxName {
				checkScan(t, "x "+w+";", id(0, "x"), id(2, w), sign(2+len(w), ";"))
			} else {
				checkFault(t, "x "+w+";", 2, api.ErrName)
			}
		}
	}
	for _, n := range []int{256, 257, 256 + api.MaxName, 1 << 12, api.MaxSource} {
		checkFault(t, long(n), 0, api.ErrName)
	}
	checkScan(t, long(64)+"+"+long(64), id(0, long(64)), sign(64, "+"), id(65, long(64)))
	checkFault(t, long(64)+"\xff", 64, api.ErrForm)
	checkFault(t, long(65)+"\xff", 0, api.ErrName)
}

func TestP7_1_Integers(t *testing.T) {
	values := []int{0, 1, 2, 9, 10, 11, 99, 100, 1234567890, 1<<31 - 1, 1 << 31, 1<<32 - 1, 1 << 32, 1<<53 + 1, math.MaxInt - 1, math.MaxInt}
	for shift := range 63 {
		values = append(values, 1<<shift, 1<<shift-1)
	}
	for ten := 10; ten <= math.MaxInt/10; ten *= 10 {
		values = append(values, ten, ten-1, ten*9+9)
	}
	for _, n := range values {
		s := big.NewInt(int64(n)).String()
		checkScan(t, s, num(0, n))
		checkScan(t, "-"+s+".", sign(0, "-"), num(1, n), sign(1+len(s), "."))
		checkScan(t, s+" "+s, num(0, n), num(len(s)+1, n))
		checkFault(t, s+"e1", 0, api.ErrForm)
		checkFault(t, " 0"+s, 1, api.ErrForm)
	}
}

func TestP7_1_IntegersWithLeadingZeros(t *testing.T) {
	for _, s := range []string{"00", "01", "09", "000", "007", "010", "00000000000000000001", "09223372036854775807", "09223372036854775808",
		"0" + strings.Repeat("9", 1000), strings.Repeat("0", api.MaxSource-3)} {
		checkFault(t, s, 0, api.ErrForm)
		checkFault(t, "a;"+s, 2, api.ErrForm)
		checkFault(t, "-"+s, 1, api.ErrForm)
		checkFault(t, s+"a", 0, api.ErrForm)
	}
	checkScan(t, "0", num(0, 0))
	checkScan(t, "0 0", num(0, 0), num(2, 0))
	checkScan(t, "0.0", num(0, 0), sign(1, "."), num(2, 0))
	checkScan(t, "-0;", sign(0, "-"), num(1, 0), sign(2, ";"))
	checkScan(t, "100", num(0, 100))
}

func TestP7_1_IntegersBeforeLetters(t *testing.T) {
	for _, s := range []string{"1a", "1_", "0a", "0_", "0x10", "0b1", "1e5", "1E5", "10L", "12ab", "1_000", "9223372036854775807a", "9223372036854775808a",
		"9223372036854775808_", strings.Repeat("9", 500) + "Z", "1and", "1" + long(65), "5" + long(65) + "\xff"} {
		checkFault(t, s, 0, api.ErrForm)
		checkFault(t, "x = "+s+" ! ", 4, api.ErrForm)
	}
}

func TestP7_1_IntegersOutsideTheirRange(t *testing.T) {
	for _, s := range []string{"9223372036854775808", "9223372036854775809", "9223372036854775810", "9300000000000000000", "10000000000000000000",
		"18446744073709551615", "18446744073709551616", "18446744073709551617", "36893488147419103232", "92233720368547758070",
		"100000000000000000000000000000", "1" + strings.Repeat("0", 1000), strings.Repeat("9", api.MaxSource-3)} {
		checkFault(t, s, 0, api.ErrRange)
		checkFault(t, "-"+s, 1, api.ErrRange)
		checkFault(t, "x "+s+";", 2, api.ErrRange)
		checkFault(t, s+"\xff", 0, api.ErrRange)
	}
}

func TestP7_1_Literals(t *testing.T) {
	checkScan(t, `""`, text(0, ""))
	checkScan(t, `"ab c"`, text(0, "ab c"))
	checkScan(t, `"\"\\\n\t"`, text(0, "\"\\\n\t"))
	checkScan(t, `"\x00\x0a\xa0\x41\x7f\xff\x22\x5c"`, text(0, "\x00\n\xa0A\x7f\xff\"\\"))
	checkScan(t, `"\xc3\xa4"`, text(0, "\u00e4"))
	checkScan(t, `"\\n\\x41\x5cn"`, text(0, "\\n\\x41\\n"))
	checkScan(t, `"\x414"`, text(0, "A4"))
	checkScan(t, `"let x = 10; !#$&'@^`+"`|~?\"", text(0, "let x = 10; !#$&'@^`|~?"))
	checkScan(t, `"a""b"`, text(0, "a"), text(3, "b"))
	checkScan(t, `""""`, text(0, ""), text(2, ""))
	checkScan(t, `"\""a`, text(0, "\""), id(4, "a"))
	checkScan(t, `"\\"a`, text(0, "\\"), id(4, "a"))
}

func TestP7_1_EveryByteInALiteral(t *testing.T) {
	for _, c := range bytesOf() {
		switch {
		case c == "\"":
			checkFault(t, `x "`+c+`"`, 4, api.ErrShort)
			checkScan(t, `x "ab`+c+` cd`, id(0, "x"), text(2, "ab"), id(7, "cd"))
		case c == "\\":
			checkFault(t, `x "`+c+`"`, 2, api.ErrShort)
			checkFault(t, `x "ab`+c+`cd"`, 2, api.ErrForm)
		case ' ' <= c[0] && c[0] <= '~':
			checkScan(t, `x "`+c+`"`, id(0, "x"), text(2, c))
			checkScan(t, `x "ab`+c+`cd"`, id(0, "x"), text(2, "ab"+c+"cd"))
		default:
			checkFault(t, `x "`+c+`"`, 2, api.ErrForm)
			checkFault(t, `x "ab`+c+`cd"`, 2, api.ErrForm)
			checkFault(t, `x "ab`+c, 2, api.ErrForm)
		}
	}
}

func TestP7_1_EveryByteBehindABackslash(t *testing.T) {
	meanings := map[string]string{"\"": "\"", "\\": "\\", "n": "\n", "t": "\t"}
	for _, c := range bytesOf() {
		meaning, known := meanings[c]
		if known {
			checkScan(t, `"a\`+c+`b"`, text(0, "a"+meaning+"b"))
			checkScan(t, `"\`+c+`"`, text(0, meaning))
			checkFault(t, `;"\`+c, 1, api.ErrShort)
			continue
		}
		checkFault(t, `;"a\`+c+`z"`, 1, api.ErrForm)
		checkFault(t, `;"\`+c+`"`, 1, api.ErrForm)
		if c != "x" {
			checkFault(t, `;"\`+c, 1, api.ErrForm)
		}
	}
}

func TestP7_1_EveryPairOfHexadecimalDigits(t *testing.T) {
	const hex = "0123456789abcdef"
	for _, c := range bytesOf() {
		for _, d := range bytesOf() {
			src := `"\x` + c + d + `"`
			if high, low := strings.Index(hex, c), strings.Index(hex, d); high < 0 || low < 0 {
				checkFault(t, src, 0, api.ErrForm)
			} else {
				checkScan(t, src, text(0, string([]byte{byte(16*high + low)})))
			}
		}
		if strings.Contains(hex, c) {
			checkFault(t, `"\x`+c, 0, api.ErrShort)
		} else {
			checkFault(t, `"\x`+c, 0, api.ErrForm)
		}
	}
}

func TestP7_1_HexadecimalDigitsInUpperCase(t *testing.T) {
	for _, s := range []string{`\xAB`, `\xaB`, `\xAb`, `\x4A`, `\xF0`, `\X41`, `\xG0`, `\x0g`, `\x 4`, `\x4 `, `\x"`, `\x4"`, `\x\\`, `\x+1`, `\x0x`} {
		checkFault(t, `"`+s+`"`, 0, api.ErrForm)
		checkFault(t, `a "b`+s, 2, api.ErrForm)
	}
}

func TestP7_1_LiteralsThatEndEarly(t *testing.T) {
	for _, whole := range []string{`"a\"\\\n\t\x0f\xf0~ z"`, `"\""`, `"\\"`, `"\x41"`, `"ab"`, `""`} {
		for n := 1; n < len(whole); n++ {
			checkFault(t, whole[:n], 0, api.ErrShort)
			checkFault(t, "ab == "+whole[:n], 6, api.ErrShort)
			checkFault(t, whole+whole[:n], len(whole), api.ErrShort)
		}
	}
	checkFault(t, `"`+long(api.MaxSource-1), 0, api.ErrShort)
}

func TestP7_1_LiteralsByLength(t *testing.T) {
	for _, x := range []struct{ written, meant string }{{"s", "s"}, {" ", " "}, {`\n`, "\n"}, {`\"`, "\""}, {`\\`, "\\"}} {
		for _, n := range []int{0, 1, 2, 255, 256, 257, api.MaxText - 1, api.MaxText} {
			checkScan(t, `x "`+strings.Repeat(x.written, n)+`"y`, id(0, "x"), text(2, strings.Repeat(x.meant, n)), id(4+n*len(x.written), "y"))
		}
		for _, n := range []int{api.MaxText + 1, api.MaxText + 2, 2*api.MaxText - 2, 2*api.MaxText - 1} {
			literal := `"` + strings.Repeat(x.written, n)
			if len(literal) < api.MaxSource-4 {
				checkFault(t, "x "+literal+`"`, 2, api.ErrSize)
				checkFault(t, "x "+literal+`" !`, 2, api.ErrSize)
			}
		}
	}
	escapes := strings.Repeat(`\xff`, 3000)
	checkScan(t, `"`+escapes+long(api.MaxText-3000)+`"`, text(0, strings.Repeat("\xff", 3000)+long(api.MaxText-3000)))
	checkFault(t, `"`+escapes+long(api.MaxText-2999)+`"`, 0, api.ErrSize)
}

func TestP7_1_LongLiteralsWithAnotherError(t *testing.T) {
	tooLong := `"` + long(api.MaxText+1)
	checkFault(t, tooLong, 0, api.ErrShort)
	checkFault(t, tooLong+`\`, 0, api.ErrShort)
	checkFault(t, tooLong+`\x0`, 0, api.ErrShort)
	checkFault(t, tooLong+`\"`, 0, api.ErrShort)
	checkFault(t, tooLong+`\q"`, 0, api.ErrForm)
	checkFault(t, tooLong+"\n\"", 0, api.ErrForm)
	checkFault(t, tooLong+"\x80\"", 0, api.ErrForm)
	checkFault(t, tooLong+`"`, 0, api.ErrSize)
	checkFault(t, `"\q`+long(api.MaxText+1)+`"`, 0, api.ErrForm)
}

func TestP7_1_TextsByLength(t *testing.T) {
	for _, n := range []int{api.MaxSource - 1, api.MaxSource} {
		checkScan(t, strings.Repeat(" ", n))
		checkScan(t, strings.Repeat("\n", n-1)+"a", id(n-1, "a"))
		checkFault(t, strings.Repeat(" ", n-1)+"#", n-1, api.ErrForm)
		checkFault(t, strings.Repeat(" ", n-1)+"\"", n-1, api.ErrShort)
	}
	for _, n := range []int{api.MaxSource + 1, api.MaxSource + 2, 2 * api.MaxSource, 1 << 16, 1<<16 + 1, 1 << 20} {
		for _, s := range []string{" ", "\n", "a", "#", "\"", "0", ";", "\xff"} {
			checkFault(t, strings.Repeat(s, n), 0, api.ErrSize)
			checkFault(t, strings.Repeat(" ", n-1)+s, 0, api.ErrSize)
		}
	}
	var want []api.Token
	for at := 0; at < api.MaxSource; at += 2 {
		want = append(want, id(at, "a"))
	}
	checkScan(t, strings.Repeat("a ", api.MaxSource/2), want...)
}

func TestP7_1_TheFirstError(t *testing.T) {
	faults := []struct {
		src string
		e   api.Errno
	}{
		{"#", api.ErrForm}, {"!", api.ErrForm}, {"\xe4", api.ErrForm}, {"01", api.ErrForm}, {"1a", api.ErrForm}, {"9223372036854775808", api.ErrRange},
		{long(65), api.ErrName}, {`"\q"`, api.ErrForm}, {`"` + long(api.MaxText+1) + `"`, api.ErrSize},
	}
	for _, first := range faults {
		for _, second := range faults {
			checkFault(t, "ok = "+first.src+" "+second.src, 5, first.e)
		}
		checkFault(t, first.src+" \"ab", 0, first.e)
		checkFault(t, "\"ab\\q \" "+first.src, 0, api.ErrForm)
	}
	checkFault(t, `"ab # ! 01 1a 9223372036854775808 `+long(65), 0, api.ErrShort)
	checkFault(t, long(65)+"#", 0, api.ErrName)
	checkFault(t, "a#"+long(65), 1, api.ErrForm)
	checkFault(t, "9223372036854775808#", 0, api.ErrRange)
	checkFault(t, `""01"`, 2, api.ErrForm)
}

func TestP7_1_BytesAbove127(t *testing.T) {
	for _, c := range append(bytesOf()[128:], "\u00e4", "\u00a0", "\u0085", "\u2028", "\ufeff", "\u0141", "\u0661", "\uff41", "\uff11", "\u037e", "\u201c", "\U0001f600", "\ufffd",
		"\u0130", "\u017f", "\u212a") {
		checkFault(t, c, 0, api.ErrForm)
		checkFault(t, " "+c, 1, api.ErrForm)
		checkFault(t, c+"a", 0, api.ErrForm)
		checkFault(t, "a"+c, 1, api.ErrForm)
		checkFault(t, "1"+c, 1, api.ErrForm)
		checkFault(t, "a = "+c+";", 4, api.ErrForm)
		checkFault(t, "!"+c, 0, api.ErrForm)
		checkFault(t, "<"+c, 1, api.ErrForm)
		checkFault(t, `x"`+c+`"`, 1, api.ErrForm)
		checkFault(t, `x"a\`+c+`"`, 1, api.ErrForm)
		checkFault(t, `x"a\x`+c+`"`, 1, api.ErrForm)
		checkFault(t, `x"a\x4`+c+`"`, 1, api.ErrForm)
		checkFault(t, `""`+c, 2, api.ErrForm)
	}
}

func TestR5_ScanReturnsNewMemory(t *testing.T) {
	src := "let x = \"a\\n\";"
	l, _, _ := token.Scan(src)
	want := fmt.Sprint(l)
	other, _, _ := token.Scan(src)
	for i := range l {
		l[i] = api.Token{Kind: 77, Text: "changed"}
	}
	if again, _, _ := token.Scan(src); fmt.Sprint(other) != want || fmt.Sprint(again) != want {
		t.Errorf("a change of one result changes another one: %v, %v, want %s", other, again, want)
	}
}
