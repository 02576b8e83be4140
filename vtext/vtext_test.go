package vtext_test

import (
	"fmt"
	"math"
	"slices"
	"strconv"
	"strings"
	"testing"

	"workflow/api"
	"workflow/value"
	"workflow/vtext"
)

func num(n int) api.Value { return value.Int(n) }

func list(items ...api.Value) api.Value { return value.List(items) }

// dict returns the map in which the first item has the first of the keys, which blanks separate, and so on.
func dict(keys string, items ...api.Value) api.Value {
	m, e := value.Map(strings.Fields(keys), items)
	if e != api.OK {
		panic("a test asks for an impossible map")
	}
	return m
}

// emptyKey returns the map in which the empty key has the item x.
func emptyKey(x api.Value) api.Value {
	return api.Value{Kind: api.VMap, Keys: []string{""}, Items: []api.Value{x}}
}

// deep returns lists in each other, n levels in all, with the items in the innermost one.
func deep(n int, items ...api.Value) api.Value {
	v := list(items...)
	for range n - 1 {
		v = list(v)
	}
	return v
}

// wide returns a list of nulls with n nodes in all.
func wide(n int) api.Value { return list(make([]api.Value, n-1)...) }

func long(n int) string { return strings.Repeat("x", n) }

// brief shortens a text for a message, because some texts in these tests are huge.
func brief(s string) string {
	if len(s) > 150 {
		return strconv.Quote(s[:100]) + ".." + strconv.Quote(s[len(s)-40:])
	}
	return strconv.Quote(s)
}

// specLetter writes a byte as the chapter's section 'Types' says.
func specLetter(c byte) string {
	switch {
	case c == 34:
		return "\\\""
	case c == 92:
		return "\\\\"
	case c == 10:
		return "\\n"
	case c == 9:
		return "\\t"
	case c < 32 || c > 126:
		return fmt.Sprintf("\\x%02x", c)
	}
	return string(rune(c))
}

// specQuote writes a literal as the chapter's section 'Types' says.
func specQuote(s string) string {
	letters := make([]string, len(s))
	for i := range letters {
		letters[i] = specLetter(s[i])
	}
	return "\"" + strings.Join(letters, "") + "\""
}

// everyByte returns a string of all bytes.
func everyByte() string {
	b := make([]byte, 256)
	for i := range b {
		b[i] = byte(i)
	}
	return string(b)
}

// texts returns strings of many kinds, none longer than MaxText.
func texts() []string {
	l := []string{"", "a", " ", "a b", "\x00", "\x00\x00", "\n", "\t", "\r", "\"", "\\", "\\n", "\\\"", "\\x41", "x41", "\x1f", " ~", "\x7f", "\x80", "\xff", "\u00e4\u20ac", "\xc3", "\u2028", "null", "[1, 2]", "a\n\x07", "//", "'", "</>", "\b\f", everyByte(), long(api.MaxText), strings.Repeat("\x00", api.MaxText), strings.Repeat("\"", api.MaxText)}
	for c := range 256 {
		l = append(l, string([]byte{byte(c)}), string([]byte{'a', byte(c), 'f'}))
	}
	return l
}

func TestP3_1_QuoteOfEveryByte(t *testing.T) {
	for c := range 256 {
		s := string([]byte{byte(c)})
		if got := vtext.Quote(s); got != specQuote(s) {
			t.Errorf("Quote of the byte %d: %s", c, got)
		}
		for d := range 256 {
			s := string([]byte{byte(c), byte(d)})
			if got := vtext.Quote(s); got != specQuote(s) {
				t.Errorf("Quote of the bytes %d, %d: %s", c, d, got)
			}
		}
	}
}

func TestP3_1_QuoteExamples(t *testing.T) {
	for s, want := range map[string]string{
		"":               `""`,
		"a":              `"a"`,
		"a\n\x07":        `"a\n\x07"`,
		"say \"hi\" \\":  `"say \"hi\" \\"`,
		"\t\r\n":         `"\t\x0d\n"`,
		"\x1f ~\x7f":     `"\x1f ~\x7f"`,
		"\u00e4":         `"\xc3\xa4"`,
		"\x00\x0a\x0f":   `"\x00\n\x0f"`,
		"\xab\xcd\xef":   `"\xab\xcd\xef"`,
		"\xfa\xfb\xfc\a": `"\xfa\xfb\xfc\x07"`,
		"\\n":            `"\\n"`,
		"'/`{}[]:,":      "\"'/`{}[]:,\"",
	} {
		if got := vtext.Quote(s); got != want {
			t.Errorf("Quote(%q) = %s, want %s", s, got, want)
		}
	}
}

func TestP3_1_QuoteHasNoLimit(t *testing.T) {
	for _, n := range []int{api.MaxText - 1, api.MaxText, api.MaxText + 1, 1 << 20} {
		if got := vtext.Quote(long(n)); got != `"`+long(n)+`"` {
			t.Errorf("Quote of %d bytes: %s", n, brief(got))
		}
		if got := vtext.Quote(strings.Repeat("\xff", n)); got != `"`+strings.Repeat(`\xff`, n)+`"` {
			t.Errorf("Quote of %d bytes 255: %s", n, brief(got))
		}
	}
}

func checkPrint(t *testing.T, v api.Value, want string) {
	t.Helper()
	if got, e := vtext.Print(v); got != want || e != api.OK {
		t.Errorf("Print: %s, error %d, want %s", brief(got), int(e), brief(want))
	}
}

func TestP3_1_PrintOfScalars(t *testing.T) {
	checkPrint(t, value.Null(), "null")
	checkPrint(t, value.Bool(true), "true")
	checkPrint(t, value.Bool(false), "false")
	for n, want := range map[int]string{
		0: "0", 1: "1", -1: "-1", 9: "9", 10: "10", -10: "-10", 100: "100", 1234567890: "1234567890",
		math.MaxInt: "9223372036854775807", math.MinInt: "-9223372036854775808", math.MaxInt32 + 1: "2147483648",
	} {
		checkPrint(t, num(n), want)
	}
	for _, s := range texts() {
		checkPrint(t, value.Text(s), specQuote(s))
	}
}

func TestP3_1_PrintOfListsAndMaps(t *testing.T) {
	for want, v := range map[string]api.Value{
		`[]`:                   list(),
		`[1]`:                  list(num(1)),
		`[1, 2]`:               list(num(1), num(2)),
		`[[], [[]], {}]`:       list(list(), list(list()), dict("")),
		`["a", null, -3]`:      list(value.Text("a"), value.Null(), num(-3)),
		`{}`:                   dict(""),
		`{"": ""}`:             emptyKey(value.Text("")),
		`{"a": 1}`:             dict("a", num(1)),
		`{"a": 1, "b": 2}`:     dict("b a", num(2), num(1)),
		`{"a": {"a": {}}}`:     dict("a", dict("a", dict(""))),
		`{"a": [1, {"b": 2}]}`: dict("a", list(num(1), dict("b", num(2)))),
		`{"B": true, "a": "x", "aa": [], "b": false}`:            dict("aa b B a", list(), value.Bool(false), value.Bool(true), value.Text("x")),
		`{"\x07\"\\~": "\t\xff"}`:                                dict("\a\"\\~", value.Text("\t\xff")),
		`{"a": [null, true], "b": -5}`:                           dict("a b", list(value.Null(), value.Bool(true)), num(-5)),
		`{"data": [1, 2], "type": "timeout"}`:                    value.Failure("timeout", list(num(1), num(2))),
		strings.Repeat("[", 16) + strings.Repeat("]", 16):        deep(api.MaxDepth),
		"[" + strings.Repeat("null, ", api.MaxNodes-2) + "null]": wide(api.MaxNodes),
		`{"` + long(api.MaxText) + `": 1}`:                       dict(long(api.MaxText), num(1)),
	} {
		checkPrint(t, v, want)
	}
}

func TestP3_1_PrintOfManyLongTexts(t *testing.T) {
	s := strings.Repeat("\n\x80", api.MaxText/2)
	items := slices.Repeat([]api.Value{value.Text(s)}, api.MaxNodes-1)
	checkPrint(t, list(items...), "["+strings.Join(slices.Repeat([]string{specQuote(s)}, api.MaxNodes-1), ", ")+"]")
}

// invalid returns a value for every reason for which a value is not a payload.
func invalid() map[string]api.Value {
	one, key := []api.Value{num(1)}, []string{"a"}
	return map[string]api.Value{
		"a future":              {Kind: api.VFuture},
		"another future":        {Kind: api.VFuture, Int: 7},
		"kind -1":               {Kind: -1},
		"kind 7":                {Kind: 7},
		"null with an int":      {Int: 1},
		"null with a text":      {Text: "t"},
		"null with items":       {Items: one},
		"null with keys":        {Keys: key},
		"bool 2":                {Kind: api.VBool, Int: 2},
		"bool -1":               {Kind: api.VBool, Int: -1},
		"bool with a text":      {Kind: api.VBool, Int: 1, Text: "t"},
		"int with a text":       {Kind: api.VInt, Int: 1, Text: "t"},
		"int with items":        {Kind: api.VInt, Items: one},
		"text with an int":      {Kind: api.VText, Int: 1, Text: "t"},
		"text with keys":        {Kind: api.VText, Text: "t", Keys: key},
		"list with keys":        {Kind: api.VList, Items: one, Keys: key},
		"list with an int":      {Kind: api.VList, Int: 1},
		"map with a text":       {Kind: api.VMap, Text: "t"},
		"map with no items":     {Kind: api.VMap, Keys: key},
		"map with no keys":      {Kind: api.VMap, Items: one},
		"descending keys":       {Kind: api.VMap, Keys: []string{"b", "a"}, Items: []api.Value{num(1), num(2)}},
		"equal keys":            {Kind: api.VMap, Keys: []string{"a", "a"}, Items: []api.Value{num(1), num(2)}},
		"too long a text":       value.Text(long(api.MaxText + 1)),
		"too long a key":        {Kind: api.VMap, Keys: []string{long(api.MaxText + 1)}, Items: one},
		"too many levels":       deep(api.MaxDepth + 1),
		"too deep a scalar":     deep(api.MaxDepth, num(1)),
		"too many nodes":        wide(api.MaxNodes + 1),
		"too many nodes in all": list(wide(api.MaxNodes/2), wide(api.MaxNodes/2)),
	}
}

func TestP3_1_PrintOfOthersThanPayloads(t *testing.T) {
	for name, bad := range invalid() {
		for place, v := range map[string]api.Value{
			"alone": bad, "in a list": list(num(1), bad), "first in a list": list(bad, num(1)),
			"in a map": {Kind: api.VMap, Keys: []string{"a", "b"}, Items: []api.Value{num(1), bad}}, "deep inside": list(list(emptyKey(bad))),
		} {
			if got, e := vtext.Print(v); got != "" || e != api.ErrArg {
				t.Errorf("%s, %s: %s, error %d", name, place, brief(got), int(e))
			}
		}
	}
}

// roomy returns a payload whose slices have room behind their lengths, with elements that must be ignored.
func roomy() api.Value {
	inner := []api.Value{num(1), value.Text("in"), {Kind: 9}}[:2]
	items := []api.Value{num(7), {Kind: api.VList, Items: inner}, {Kind: 9}, {Kind: 9}}[:2]
	return api.Value{Kind: api.VMap, Keys: []string{"a", "c", "behind", "behind"}[:2], Items: items}
}

// show describes a value with the elements behind the lengths of its slices.
func show(v api.Value) string {
	s := fmt.Sprintf("%d %d %q %q [", v.Kind, v.Int, v.Text, v.Keys[:cap(v.Keys)])
	for _, x := range v.Items[:cap(v.Items)] {
		s += show(x) + "; "
	}
	return s + "]"
}

func TestP3_1_PrintLeavesItsArgument(t *testing.T) {
	v := roomy()
	before := show(v)
	checkPrint(t, v, `{"a": 7, "c": [1, "in"]}`)
	got, _ := vtext.Print(v)
	if show(v) != before {
		t.Errorf("Print changed its argument to %s", show(v))
	}
	v.Items[1].Items[0], v.Keys[0] = num(2), "b"
	if got != `{"a": 7, "c": [1, "in"]}` {
		t.Errorf("a change of the argument changed the result to %s", got)
	}
	checkPrint(t, v, `{"b": 7, "c": [2, "in"]}`)
}
