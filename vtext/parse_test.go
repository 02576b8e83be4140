package vtext_test

import (
	"math"
	"slices"
	"strconv"
	"strings"
	"testing"
	"unsafe"

	"workflow/api"
	"workflow/value"
	"workflow/vtext"
)

const (
	blanks = " \t\n\r"
	digits = "0123456789"
	// starts are the bytes that can begin a value.
	starts = `"[{-ntf` + digits
	hex    = digits + "abcdef"
)

// printable holds the bytes from 32 to 126.
var printable = everyByte()[32:127]

func checkParse(t *testing.T, s string, want api.Value) {
	t.Helper()
	got, at, e := vtext.Parse(s)
	if e != api.OK || at != 0 {
		t.Errorf("Parse(%s): error %d at %d", brief(s), int(e), at)
	} else if !value.Same(got, want) {
		t.Errorf("Parse(%s): %.200v, want %.200v", brief(s), got, want)
	}
}

func checkError(t *testing.T, s string, at int, e api.Errno) {
	t.Helper()
	got, gotAt, gotErr := vtext.Parse(s)
	if gotErr != e || gotAt != at {
		t.Errorf("Parse(%s): error %d at %d, want %d at %d", brief(s), int(gotErr), gotAt, int(e), at)
	}
	if !value.Same(got, api.Value{}) {
		t.Errorf("Parse(%s): %.200v with the error %d", brief(s), got, int(gotErr))
	}
}

func TestP3_1_ParseExamples(t *testing.T) {
	checkError(t, `{"a": 01}`, 7, api.ErrForm)
	checkError(t, `{"a": 1, "a": 2}`, 9, api.ErrTwice)
	checkError(t, `[1,`, 3, api.ErrShort)
	checkParse(t, `"\x41"`, value.Text("A"))
	checkParse(t, `{"a": [null, true], "b": -5}`, dict("a b", list(value.Null(), value.Bool(true)), num(-5)))
}

func TestP3_1_ParseListsAndMaps(t *testing.T) {
	for s, want := range map[string]api.Value{
		`[]`:                          list(),
		`[[]]`:                        list(list()),
		`[null]`:                      list(value.Null()),
		`[1,2,3]`:                     list(num(1), num(2), num(3)),
		`[3,1,2,1]`:                   list(num(3), num(1), num(2), num(1)),
		`[[1,[2]],[],{},["x"],false]`: list(list(num(1), list(num(2))), list(), dict(""), list(value.Text("x")), value.Bool(false)),
		`{}`:                          dict(""),
		`{"":null}`:                   emptyKey(value.Null()),
		`{"a":{}}`:                    dict("a", dict("")),
		`{"a":{"a":{"a":1}}}`:         dict("a", dict("a", dict("a", num(1)))),
		`{"a":{"b":1},"b":{"a":1}}`:   dict("a b", dict("b", num(1)), dict("a", num(1))),
		`[{"a":1},{"a":1}]`:           list(dict("a", num(1)), dict("a", num(1))),
		`{"a":[{"a":1}],"b":"a"}`:     dict("a b", list(dict("a", num(1))), value.Text("a")),
		`{"\"\\\n\t\x00":true}`:       {Kind: api.VMap, Keys: []string{"\"\\\n\t\x00"}, Items: []api.Value{value.Bool(true)}},
		`{"[1":"]","{":"}",",":":"}`:  dict(", [1 {", value.Text(":"), value.Text("]"), value.Text("}")),
	} {
		checkParse(t, s, want)
	}
}

// checkNext expects that exactly the bytes of allowed can follow the prefix. The prefix itself is complete or too short.
func checkNext(t *testing.T, prefix, allowed string, complete bool) {
	t.Helper()
	if !complete {
		checkError(t, prefix, len(prefix), api.ErrShort)
	} else if _, at, e := vtext.Parse(prefix); e != api.OK || at != 0 {
		t.Errorf("Parse(%s): error %d at %d", brief(prefix), int(e), at)
	}
	for c := range 256 {
		s := prefix + string([]byte{byte(c)})
		if strings.IndexByte(allowed, byte(c)) < 0 {
			checkError(t, s, len(prefix), api.ErrForm)
			checkError(t, s+`"`, len(prefix), api.ErrForm)
			checkError(t, s+"]}", len(prefix), api.ErrForm)
		} else if _, at, e := vtext.Parse(s); e != api.OK && (e != api.ErrShort || at != len(s)) {
			t.Errorf("Parse(%s): error %d at %d", brief(s), int(e), at)
		}
	}
}

func TestP3_1_ParseByteAfterByte(t *testing.T) {
	for _, x := range []struct{ prefix, allowed string }{
		{"", starts + blanks}, {" \t\n\r", starts + blanks},
		{"-", "123456789"}, {"[-", "123456789"}, {`{"a":-`, "123456789"},
		{"[", "]" + starts + blanks}, {"[ ", "]" + starts + blanks}, {"[[[", "]" + starts + blanks},
		{"[1", ",]" + digits + blanks}, {"[-1", ",]" + digits + blanks}, {"[90", ",]" + digits + blanks},
		{"[0", ",]" + blanks}, {"[1,0", ",]" + blanks}, {"[1 ", ",]" + blanks},
		{"[null", ",]" + blanks}, {"[true", ",]" + blanks}, {"[false", ",]" + blanks}, {`[""`, ",]" + blanks},
		{"[[]", ",]" + blanks}, {"[{}", ",]" + blanks}, {"[[1]", ",]" + blanks}, {`[{"a":1}`, ",]" + blanks},
		{"[1,", starts + blanks}, {"[1, ", starts + blanks}, {"[[],", starts + blanks}, {"[[1],2,", starts + blanks},
		{"{", `"}` + blanks}, {"{ ", `"}` + blanks}, {"[{", `"}` + blanks}, {`{"a":{`, `"}` + blanks},
		{`{"a"`, ":" + blanks}, {`{""`, ":" + blanks}, {`{"a" `, ":" + blanks}, {`{"b":1,"a"`, ":" + blanks},
		{`{"a":`, starts + blanks}, {`{"a": `, starts + blanks}, {`{"a":1,"b":`, starts + blanks},
		{`{"a":1`, ",}" + digits + blanks}, {`{"a":0`, ",}" + blanks}, {`{"a":1 `, ",}" + blanks},
		{`{"a":null`, ",}" + blanks}, {`{"a":""`, ",}" + blanks}, {`{"a":[]`, ",}" + blanks}, {`{"a":{}`, ",}" + blanks},
		{`{"a":1,`, `"` + blanks}, {`{"a":1, `, `"` + blanks}, {`{"a":{},`, `"` + blanks}, {`{"a":1,"b":2,`, `"` + blanks},
		{`[{"a":1`, ",}" + digits + blanks}, {`[{"a":[1`, ",]" + digits + blanks}, {`{"a":[{}`, ",]" + blanks},
	} {
		checkNext(t, x.prefix, x.allowed, false)
	}
}

func TestP3_1_ParseByteBehindTheText(t *testing.T) {
	for _, s := range []string{
		"null", "true", "false", `""`, `"a"`, `"\x00"`, "[]", "{}", "[1]", `{"a":1}`, "[[],[]]", "0", "1 ", "0 ", "-5\n", "null\t", "[]\r", " 0", " {} ",
	} {
		checkNext(t, s, blanks, true)
	}
	for _, s := range []string{"1", "9", "-1", "-9", "10", "900", "-10", " 7"} {
		checkNext(t, s, digits+blanks, true)
	}
}

func TestP3_1_ParseWords(t *testing.T) {
	for word, want := range map[string]api.Value{"null": value.Null(), "true": value.Bool(true), "false": value.Bool(false)} {
		checkParse(t, word, want)
		checkParse(t, "["+word+"]", list(want))
		for i := 1; i < len(word); i++ {
			checkNext(t, word[:i], word[i:i+1], false)
			checkNext(t, "["+word[:i], word[i:i+1], false)
			checkError(t, "["+word[:i]+"]", 1+i, api.ErrForm)
			checkError(t, strings.ToUpper(word[:i])+word[i:], 0, api.ErrForm)
			checkError(t, word[:i]+strings.ToUpper(word[i:]), i, api.ErrForm)
		}
	}
	checkError(t, "nullnull", 4, api.ErrForm)
	checkError(t, "nulltrue", 4, api.ErrForm)
	checkError(t, "[truefalse]", 5, api.ErrForm)
	checkError(t, "nil", 1, api.ErrForm)
}

func TestP3_1_ParseIntegers(t *testing.T) {
	for s, want := range map[string]int{
		"0": 0, "1": 1, "-1": -1, "9": 9, "-9": -9, "10": 10, "-10": -10, "1000": 1000, "102030": 102030, "987654321": 987654321,
		"9223372036854775807": math.MaxInt, "-9223372036854775807": -math.MaxInt, "-9223372036854775808": math.MinInt,
		"9223372036854775799": math.MaxInt - 8, "1000000000000000000": 1e18, "-1000000000000000000": -1e18, "4294967296": 1 << 32,
	} {
		checkParse(t, s, num(want))
		checkParse(t, "["+s+",0,"+s+"]", list(num(want), num(0), num(want)))
		checkParse(t, `{"a":`+s+`}`, dict("a", num(want)))
	}
	for s, at := range map[string]int{
		"00": 1, "01": 1, "09": 1, "007": 1, "0x1": 1, "0.5": 1, "-0": 1, "-00": 1, "-01": 1, "--1": 1, "-a": 1, "- 1": 1, "+1": 0, ".5": 0,
		"1.5": 1, "1e5": 1, "1_0": 1, "1-": 1, "1-1": 1, "1a": 1, "12 3": 3, "\u0661": 0, "00000000000000000000000000": 1, "-+1": 1, "0-1": 1,
	} {
		checkError(t, s, at, api.ErrForm)
		checkError(t, "[0, "+s+"]", 4+at, api.ErrForm)
		checkError(t, `{"a" :`+s+`}`, 6+at, api.ErrForm)
	}
	checkError(t, "-", 1, api.ErrShort)
	checkError(t, "[7,-", 4, api.ErrShort)
}

func TestP3_1_ParseIntegersOfMoreThan64Bits(t *testing.T) {
	for _, s := range []string{
		"9223372036854775808", "-9223372036854775809", "9223372036854775810", "9999999999999999999", "-9999999999999999999",
		"10000000000000000000", "-10000000000000000000", "18446744073709551615", "18446744073709551616", "18446744073709551617",
		"-18446744073709551616", "-18446744073709551617", "36893488147419103232", "340282366920938463463374607431768211457",
		"1" + strings.Repeat("0", 100000), "-" + strings.Repeat("9", 100000),
	} {
		for _, x := range []struct {
			before, behind string
		}{
			{"", ""}, {"", " "}, {"", "x"}, {"", "-"}, {"", ".5"}, {"", "]"}, {"", `"`}, {" \n", "\t"}, {"", " x"},
			{"[", "]"}, {"[", ""}, {"[", "x"}, {"[", "}"}, {"[1, ", ",2]"}, {"[1, ", ",]"}, {"[[[", ""}, {`["a",`, `"`},
			{`{"a":`, "}"}, {`{"a":`, ""}, {`{"a": `, "]"}, {`{"a":1,"b":`, `,"a":2}`}, {`{"a":`, `,"a":2}`}, {"[", ",01]"},
		} {
			checkError(t, x.before+s+x.behind, len(x.before), api.ErrRange)
		}
		checkError(t, "x"+s, 0, api.ErrForm)
		checkError(t, "0"+strings.TrimPrefix(s, "-"), 1, api.ErrForm)
		checkError(t, `["a" `+s, 5, api.ErrForm)
	}
}

func TestP3_1_ParseEveryByteInALiteral(t *testing.T) {
	for c := range 256 {
		s := string([]byte{byte(c)})
		plain := c >= 32 && c <= 126 && c != '"' && c != '\\'
		for _, before := range []string{"", "a", "abc", `\n`, `\x41`} {
			text := `"` + before + s + `z"`
			head := strings.NewReplacer(`\n`, "\n", `\x41`, "A").Replace(before)
			switch {
			case plain:
				checkParse(t, text, value.Text(head+s+"z"))
				checkParse(t, "{"+text+":1}", api.Value{Kind: api.VMap, Keys: []string{head + s + "z"}, Items: []api.Value{num(1)}})
			case c == '"':
				checkError(t, text, 2+len(before), api.ErrForm)
			case c == '\\':
				checkError(t, text, 2+len(before), api.ErrForm)
			default:
				checkError(t, text, 1+len(before), api.ErrForm)
				checkError(t, "{"+text+":1}", 2+len(before), api.ErrForm)
			}
		}
	}
	for _, prefix := range []string{`"`, `"a`, `"\n`, `"\x00`, `{"`, `{"a`, `{"a":1,"`, `["`, `["a","`, `{"a":"`} {
		checkNext(t, prefix, printable, false)
	}
}

func TestP3_1_ParseEveryEscape(t *testing.T) {
	for _, x := range []struct{ escape, want string }{{`\"`, "\""}, {`\\`, "\\"}, {`\n`, "\n"}, {`\t`, "\t"}} {
		checkParse(t, `"`+x.escape+`"`, value.Text(x.want))
		checkParse(t, `"a`+x.escape+x.escape+`b"`, value.Text("a"+x.want+x.want+"b"))
	}
	for c := range 256 {
		s := string([]byte{byte(c)})
		checkParse(t, `"\x`+hex[c/16:c/16+1]+hex[c%16:c%16+1]+`"`, value.Text(s))
		checkParse(t, `"0\x`+hex[c/16:c/16+1]+hex[c%16:c%16+1]+`0"`, value.Text("0"+s+"0"))
	}
	checkParse(t, `"\\n\\\"\\x41"`, value.Text(`\n\"\x41`))
	checkParse(t, `"\x5cn\x22"`, value.Text(`\n"`))
	for _, in := range []string{`"`, `"ab`, `"\\`, `"\x00`, `{"`, `["x", "`, `{"a":1,"`} {
		checkNext(t, in+`\`, `"\ntx`, false)
		checkNext(t, in+`\x`, hex, false)
		for _, digit := range hex {
			checkNext(t, in+`\x`+string(digit), hex, false)
		}
	}
	for s, at := range map[string]int{
		`"\r"`: 2, `"\0"`: 2, `"\u0041"`: 2, `"\/"`: 2, `"\b"`: 2, `"\N"`: 2, `"\X41"`: 2, `"\x"`: 3, `"\x4"`: 4, `"\xA0"`: 3, `"\x0F"`: 4,
		`"\xg0"`: 3, `"\x 1"`: 3, `"\x1 "`: 4, `"\'"`: 2, "\"\\\n\"": 2, `"ab\q"`: 4, `"\n\q"`: 4, `"\x41\q"`: 6, `"\x\x41"`: 3, `"\x4\n"`: 4,
	} {
		checkError(t, s, at, api.ErrForm)
		checkError(t, "["+s+"]", 1+at, api.ErrForm)
		checkError(t, "{"+s+":1}", 1+at, api.ErrForm)
	}
}

func TestP3_1_ParseOfATextThatEndsAnywhere(t *testing.T) {
	for _, s := range []string{
		`[null, true, false]`, `{"a" : [1, -23 , "x\"\\\n\t\x41"] , "b": {} }`, ` [ [ ] , { } , { "k" : "" } ]`, `"a\x41\\"`, "[\n0\t,\r10 ]", `{"\x00\"":{"\n":[-7]}}`,
	} {
		if _, _, e := vtext.Parse(s); e != api.OK {
			t.Fatal(s, int(e))
		}
		for i := range len(s) {
			checkError(t, s[:i], i, api.ErrShort)
			checkError(t, "\n"+s[:i], 1+i, api.ErrShort)
		}
	}
	for n := range 5 {
		checkError(t, strings.Repeat(" ", n), n, api.ErrShort)
	}
	checkError(t, blanks, 4, api.ErrShort)
}

// pieces are the parts of a text between which blanks are allowed, and pieceValue is its payload.
var pieces = []string{
	"", "{", `"b"`, ":", "[", "12", ",", "null", ",", `"x y"`, ",", "[", "]", ",", "{", "}", "]", ",", `"a"`, ":", "{", `" "`, ":", "-5", "}", "}", "",
}

func pieceValue() api.Value {
	inner := api.Value{Kind: api.VMap, Keys: []string{" "}, Items: []api.Value{num(-5)}}
	return dict("a b", inner, list(num(12), value.Null(), value.Text("x y"), list(), dict("")))
}

func TestP3_1_ParseBlanksBetweenPieces(t *testing.T) {
	for _, blank := range []string{"", " ", "\t", "\n", "\r", "  ", "\r\n", " \t\r\n \n\n\t\t", strings.Repeat(" ", 5000)} {
		checkParse(t, strings.Join(pieces, blank), pieceValue())
		for i := 1; i < len(pieces); i++ {
			checkParse(t, strings.Join(pieces[:i], "")+blank+strings.Join(pieces[i:], ""), pieceValue())
		}
	}
	for _, other := range []string{"\v", "\f", "\x00", "\xa0", "\u00a0", "\u2003", "\ufeff", "\x1f", "\x7f", "//", "#", "_", ";"} {
		for i := 1; i < len(pieces); i++ {
			before := strings.Join(pieces[:i], "")
			checkError(t, before+other+strings.Join(pieces[i:], ""), len(before), api.ErrForm)
			checkError(t, before+" "+other+strings.Join(pieces[i:], " "), len(before)+1, api.ErrForm)
		}
	}
}

func TestP3_1_ParseBlanksInsidePieces(t *testing.T) {
	for _, blank := range []string{" ", "\t", "\n", "\r"} {
		for _, word := range []string{"null", "true", "false"} {
			for i := 1; i < len(word); i++ {
				checkError(t, word[:i]+blank+word[i:], i, api.ErrForm)
			}
		}
		checkError(t, "-"+blank+"1", 1, api.ErrForm)
		checkError(t, "1"+blank+"2", 2, api.ErrForm)
		checkError(t, "[1"+blank+"2]", 3, api.ErrForm)
		checkError(t, `"\`+blank+`n"`, 2, api.ErrForm)
		checkError(t, `"\x`+blank+`41"`, 3, api.ErrForm)
		checkError(t, `"\x4`+blank+`1"`, 4, api.ErrForm)
		checkError(t, `"a"`+blank+`"b"`, 4, api.ErrForm)
		if blank != " " {
			checkError(t, `"a`+blank+`b"`, 2, api.ErrForm)
		}
	}
	checkParse(t, `"a b "`, value.Text("a b "))
}

func TestP3_1_ParseDepth(t *testing.T) {
	full := api.MaxDepth
	open, closed := strings.Repeat("[", full), strings.Repeat("]", full)
	checkParse(t, open+closed, deep(full))
	checkParse(t, open[1:]+"5"+closed[1:], deep(full-1, num(5)))
	checkParse(t, open[1:]+`{},"a",[ ]`+closed[1:], deep(full-1, dict(""), value.Text("a"), list()))
	for n := 1; n <= full+20; n++ {
		s := strings.Repeat(`{"k":`, n-1) + "{}" + strings.Repeat("}", n-1)
		if n > full {
			checkError(t, s, 5*full, api.ErrDepth)
			checkError(t, strings.Repeat("[", n)+strings.Repeat("]", n), full, api.ErrDepth)
			checkError(t, strings.Repeat("[", n), full, api.ErrDepth)
			continue
		}
		want := dict("")
		for range n - 1 {
			want = dict("k", want)
		}
		checkParse(t, s, want)
		checkParse(t, strings.Repeat("[", n)+strings.Repeat("]", n), deep(n))
		checkError(t, strings.Repeat("[", n), n, api.ErrShort)
	}
	for _, start := range starts {
		checkError(t, open+string(start), full, api.ErrDepth)
		checkError(t, open+" \n"+string(start)+"!", full+2, api.ErrDepth)
		checkError(t, open[1:]+`{"a":`+string(start), full+4, api.ErrDepth)
		checkError(t, open[1:]+`{"a":`+string(start)+"}", full+4, api.ErrDepth)
	}
	for _, s := range []string{",", "}", ":", "x", "+", "N", "\x00", ")"} {
		checkError(t, open+s, full, api.ErrForm)
		checkError(t, open+" "+s, full+1, api.ErrForm)
		checkError(t, open[1:]+`{"a":`+s, full+4, api.ErrForm)
	}
	checkError(t, open+"  ", full+2, api.ErrShort)
	checkError(t, open[1:]+`{"a": `, full+5, api.ErrShort)
	checkError(t, open[1:]+`{1`, full, api.ErrForm)
}

func TestP3_1_ParseDepthIsThatOfTheOpenBrackets(t *testing.T) {
	half := strings.Repeat("[", 8) + strings.Repeat("]", 8)
	checkParse(t, "["+half+","+half+","+half+"]", list(deep(8), deep(8), deep(8)))
	rest := strings.Repeat("[", api.MaxDepth-1) + strings.Repeat("]", api.MaxDepth-1)
	checkParse(t, "["+rest+","+rest+"]", list(deep(api.MaxDepth-1), deep(api.MaxDepth-1)))
	checkError(t, "["+rest+",["+rest+"]]", len(rest)+2+api.MaxDepth-1, api.ErrDepth)
	checkError(t, `{"a":`+rest+`,"b":["x",`+rest+"]}", 5+len(rest)+5+5+api.MaxDepth-2, api.ErrDepth)
}

// nulls returns n elements of a list.
func nulls(n int) string { return strings.TrimSuffix(strings.Repeat("null,", n), ",") }

// manyPairs returns n elements of a map, with keys in descending order.
func manyPairs(n int) string {
	var b strings.Builder
	for i := range n {
		b.WriteString(`"` + strconv.Itoa(100000-i) + `":null,`)
	}
	return strings.TrimSuffix(b.String(), ",")
}

func TestP3_1_ParseNodes(t *testing.T) {
	most := api.MaxNodes
	checkParse(t, "["+nulls(most-1)+"]", wide(most))
	checkParse(t, "[["+nulls(498)+"],["+nulls(499)+"]]", list(wide(499), wide(500)))
	full := "[" + nulls(most-1)
	maps := "{" + manyPairs(most-1)
	halves := "[[" + nulls(498) + "],[" + nulls(499)
	if v, _, e := vtext.Parse(maps + "}"); e != api.OK || value.Size(v) != most || !value.Right(v) {
		t.Errorf("a map with %d nodes: error %d", most, int(e))
	}
	for _, start := range starts {
		checkError(t, full+","+string(start), len(full)+1, api.ErrSize)
		checkError(t, full+", "+string(start)+"]", len(full)+2, api.ErrSize)
		checkError(t, halves+","+string(start), len(halves)+1, api.ErrSize)
		checkError(t, halves+"],\n"+string(start), len(halves)+3, api.ErrSize)
		checkError(t, maps+`,"k":`+string(start)+"}", len(maps)+5, api.ErrSize)
		checkError(t, maps+`,"k" : `+string(start), len(maps)+7, api.ErrSize)
	}
	for _, s := range []string{",", "]", "}", ":", "x", "+"} {
		checkError(t, full+","+s, len(full)+1, api.ErrForm)
		checkError(t, full+", "+s, len(full)+2, api.ErrForm)
		checkError(t, maps+`,"k":`+s, len(maps)+5, api.ErrForm)
	}
	checkError(t, full+",", len(full)+1, api.ErrShort)
	checkError(t, full+", ", len(full)+2, api.ErrShort)
	checkError(t, full, len(full), api.ErrShort)
	checkError(t, maps+`,"k":`, len(maps)+5, api.ErrShort)
	checkError(t, "["+nulls(5000)+"]", len(full)+1, api.ErrSize)
	for n := most - 3; n <= most+3; n++ {
		s := "[" + strings.TrimSuffix(strings.Repeat("[],", n-1), ",") + "]"
		if n > most {
			checkError(t, s, 1+3*(most-1), api.ErrSize)
		} else {
			checkParse(t, s, list(slices.Repeat([]api.Value{list()}, n-1)...))
		}
	}
}

func TestP3_1_ParseChecksDepthBeforeNodes(t *testing.T) {
	// The last value is the first one too many; it is also too deep if there are as many brackets as levels.
	for levels, e := range map[int]api.Errno{api.MaxDepth - 1: api.ErrSize, api.MaxDepth: api.ErrDepth} {
		s := "[" + nulls(api.MaxNodes-levels) + "," + strings.Repeat("[", levels-1)
		checkError(t, s+"1", len(s), e)
		checkError(t, s+`"`+long(5000)+`"`, len(s), e)
		checkError(t, s+"x", len(s), api.ErrForm)
		checkError(t, s, len(s), api.ErrShort)
	}
}

func TestP3_1_ParseLongLiterals(t *testing.T) {
	most := api.MaxText
	for _, unit := range []struct{ text, want string }{{"x", "x"}, {`\n`, "\n"}, {`\"`, "\""}, {`\\`, "\\"}, {`\x00`, "\x00"}, {" ", " "}, {"[", "["}} {
		for n := most - 2; n <= most+2; n++ {
			literal := `"` + strings.Repeat(unit.text, n) + `"`
			want := value.Text(strings.Repeat(unit.want, n))
			if n <= most {
				checkParse(t, literal, want)
				checkParse(t, "{"+literal+":1}", api.Value{Kind: api.VMap, Keys: []string{want.Text}, Items: []api.Value{num(1)}})
				continue
			}
			checkError(t, literal, 0, api.ErrSize)
			checkError(t, literal+"x", 0, api.ErrSize)
			checkError(t, " "+literal+" ", 1, api.ErrSize)
			checkError(t, "[1, "+literal, 4, api.ErrSize)
			checkError(t, "{"+literal, 1, api.ErrSize)
			checkError(t, "{"+literal+"x", 1, api.ErrSize)
			checkError(t, `{"a":1, `+literal+":2}", 8, api.ErrSize)
			checkError(t, `{"a": `+literal+"}", 6, api.ErrSize)
			checkError(t, "{"+literal+":1,"+literal+":2}", 1, api.ErrSize)
		}
	}
	checkParse(t, `"`+strings.Repeat(`a\x62`, most/2)+`"`, value.Text(strings.Repeat("ab", most/2)))
	checkError(t, `"`+strings.Repeat(`a\x62`, most/2)+`c"`, 0, api.ErrSize)
}

func TestP3_1_ParseFindsALongLiteralAtItsEnd(t *testing.T) {
	for _, n := range []int{api.MaxText + 1, api.MaxText + 2, 3 * api.MaxText, 1 << 20} {
		for _, before := range []string{"", "[", "{", `{"a":1,`, `{"a":`} {
			s := before + `"` + long(n)
			checkError(t, s, len(s), api.ErrShort)
			checkError(t, s+`\`, len(s)+1, api.ErrShort)
			checkError(t, s+`\x0`, len(s)+3, api.ErrShort)
			checkError(t, s+`\"`, len(s)+2, api.ErrShort)
			checkError(t, s+"\n\"", len(s), api.ErrForm)
			checkError(t, s+`\q"`, len(s)+1, api.ErrForm)
			checkError(t, s+`\x0G"`, len(s)+3, api.ErrForm)
			checkError(t, s+`"`, len(before), api.ErrSize)
		}
	}
}

func TestP3_1_ParseKeysInEveryOrder(t *testing.T) {
	sorted := []string{"", "\x00", "B", "a", "a\x00", "aa", "b", "\xff"}
	want := api.Value{Kind: api.VMap, Keys: sorted}
	for i := range sorted {
		want.Items = append(want.Items, num(i))
	}
	for step := 1; step < len(sorted); step += 2 {
		for start := range sorted {
			var parts []string
			for i := range sorted {
				k := (start + i*step) % len(sorted)
				parts = append(parts, specQuote(sorted[k])+":"+strconv.Itoa(k))
			}
			checkParse(t, "{"+strings.Join(parts, ",")+"}", want)
		}
	}
	for _, s := range []string{`"a":1,"b":2,"c":3`, `"a":1,"c":3,"b":2`, `"b":2,"a":1,"c":3`, `"b":2,"c":3,"a":1`, `"c":3,"a":1,"b":2`, `"c":3,"b":2,"a":1`} {
		checkParse(t, "{"+s+"}", dict("a b c", num(1), num(2), num(3)))
		for _, again := range []string{"a", "b", "c"} {
			checkError(t, "{"+s+`, "`+again+`":4}`, len(s)+3, api.ErrTwice)
		}
	}
}

func TestP3_1_ParseEqualKeys(t *testing.T) {
	for s, at := range map[string]int{
		`{"a":1,"a":1}`: 7, `{"":1,"":2}`: 6, `{"a":1,"\x61":2}`: 7, `{"\x61":1,"a":2}`: 10, `{"\n":1,"\x0a":2}`: 8, `{"\"":1,"\x22":2}`: 8,
		`{"a":1,"a"`: 7, `{"a":1,"a"x`: 7, `{"a":1,"a":`: 7, `{"a":1,"a" 5`: 7, `{"a":1,"a":99999999999999999999}`: 7, `{"a":1,"a":01}`: 7,
		`{"a":1,"b":2,"a":3}`: 13, `{"b":1,"a":2,"b":3}`: 13, `{"c":1,"a":2,"b":3,"a":4}`: 19, `[{"a":1},{"b":1,"b":2}]`: 16,
		`{"a":{"a":1},"a":2}`: 13, `{"a":{"b":1,"b":2}}`: 12, `{"a":[{"a":1}],"a":2}`: 15, `{"a":1 ,  "a" : 2}`: 10, `{"a":1,"b":{},"b":{},"a":2}`: 14,
		`{"a":{"b":1},"b":{"c":1,"c":1}}`: 24, `{"\xff":1,"\xff":2}`: 10,
	} {
		checkError(t, s, at, api.ErrTwice)
	}
	checkError(t, `{"a":1,"a`, 9, api.ErrShort)
	checkError(t, `{"a":1,"a\q"`, 10, api.ErrForm)
	checkError(t, `{"a":1 "a":2}`, 7, api.ErrForm)
	checkError(t, `{"a","a":2}`, 4, api.ErrForm)
	checkParse(t, `{"a":1,"A":2,"a ":3," a":4,"aa":5,"a\x00":6}`, api.Value{
		Kind: api.VMap, Keys: []string{" a", "A", "a", "a\x00", "a ", "aa"}, Items: []api.Value{num(4), num(2), num(1), num(6), num(3), num(5)},
	})
	checkParse(t, `{"a":"a","b":"a","c":["b","b"]}`, dict("a b c", value.Text("a"), value.Text("a"), list(value.Text("b"), value.Text("b"))))
}

func TestP3_1_ParseEqualKeysAmongMany(t *testing.T) {
	maps := "{" + manyPairs(api.MaxNodes-1)
	for _, i := range []int{0, 1, 499, api.MaxNodes - 2} {
		key := strconv.Itoa(100000 - i)
		checkError(t, maps+`, "`+key+`":1}`, len(maps)+2, api.ErrTwice)
	}
	key := `"` + long(api.MaxText) + `"`
	checkError(t, "{"+key+":1,"+key+":2}", 4+len(key), api.ErrTwice)
	checkError(t, maps+`,"`+long(api.MaxText+1)+`":1}`, len(maps)+1, api.ErrSize)
}

func TestP3_1_ParseReturnsTheFirstErrorThatItFinds(t *testing.T) {
	tooLong, tooGreat := `"`+long(api.MaxText+1)+`"`, strings.Repeat("9", 20)
	for _, x := range []struct {
		s  string
		at int
		e  api.Errno
	}{
		{"[" + tooGreat + "," + tooLong + "]", 1, api.ErrRange},
		{"[" + tooLong + "," + tooGreat + "]", 1, api.ErrSize},
		{"[01," + tooGreat + "]", 2, api.ErrForm},
		{"[" + tooGreat + ",01]", 1, api.ErrRange},
		{`{"a":1,"a":` + tooGreat + "}", 7, api.ErrTwice},
		{`{"a":` + tooGreat + `,"a":1}`, 5, api.ErrRange},
		{`{"a":` + tooLong + `,"a":1}`, 5, api.ErrSize},
		{"{" + tooLong + `:1,"a":1,"a":1}`, 1, api.ErrSize},
		{`{"a":1,"a":1,` + tooLong + ":1}", 7, api.ErrTwice},
		{`{"a":[1,,2],"a":1}`, 8, api.ErrForm},
		{`{"a":{"b":1,"b":2},"a":1`, 12, api.ErrTwice},
		{"[" + tooGreat, 1, api.ErrRange},
		{"[" + tooLong, 1, api.ErrSize},
		{strings.Repeat("[", 20) + tooGreat, 16, api.ErrDepth},
		{tooGreat + strings.Repeat("[", 20), 0, api.ErrRange},
		{"[" + tooGreat + "," + strings.Repeat("[", 20), 1, api.ErrRange},
		{"[1 2" + tooGreat, 3, api.ErrForm},
		{`["` + long(5000) + "\n" + `"`, 2 + 5000, api.ErrForm},
	} {
		checkError(t, x.s, x.at, x.e)
	}
}

// scribble overwrites all memory that a value reaches, behind the lengths of its slices too.
func scribble(v api.Value) {
	for _, x := range v.Items {
		scribble(x)
	}
	items, keys := v.Items[:cap(v.Items)], v.Keys[:cap(v.Keys)]
	for i := range items {
		items[i] = api.Value{Kind: -99, Text: "scribbled"}
	}
	for i := range keys {
		keys[i] = "scribbled"
	}
}

func TestP3_1_ParseReturnsNewMemory(t *testing.T) {
	s := `[[1,2,3],{"b":[4],"a":{"c":[]}},["x"],{"e":1,"d":2,"f":3}]`
	again, _, _ := vtext.Parse(s)
	for i := range again.Items {
		v, _, _ := vtext.Parse(s)
		scribble(v.Items[i])
		for k, x := range v.Items {
			if k != i && !value.Same(x, again.Items[k]) {
				t.Errorf("the items %d and %d share memory", i, k)
			}
		}
		scribble(v)
		checkParse(t, s, again)
	}
}

func TestP3_1_ParseKeepsNoPartOfItsArgument(t *testing.T) {
	s := strings.Clone(`{"key": "text", "other": ["more", ""]}`)
	within := func(part string) bool {
		first, at := uintptr(unsafe.Pointer(unsafe.StringData(s))), uintptr(unsafe.Pointer(unsafe.StringData(part)))
		return len(part) > 0 && at >= first && at < first+uintptr(len(s))
	}
	v, _, e := vtext.Parse(s)
	if e != api.OK {
		t.Fatal(int(e))
	}
	for _, part := range []string{v.Keys[0], v.Keys[1], v.Items[0].Text, v.Items[1].Items[0].Text} {
		if within(part) {
			t.Errorf("%q is a part of the argument", part)
		}
	}
}
