package vtext_test

import (
	"regexp"
	"strconv"
	"strings"
	"testing"

	"workflow/api"
	"workflow/value"
	"workflow/vtext"
)

// numbers is a fixed sequence that looks random.
type numbers struct{ state uint64 }

func (r *numbers) below(n int) int {
	r.state = r.state*6364136223846793005 + 1442695040888963407
	return int(r.state>>33) % n
}

func (r *numbers) text() string {
	b := make([]byte, r.below(4))
	for i := range b {
		b[i] = byte(r.below(256))
	}
	return string(b)
}

// payload returns a payload whose depth is at most the given one.
func (r *numbers) payload(depth int) api.Value {
	switch kind := r.below(6); {
	case kind == api.VBool:
		return value.Bool(r.below(2) == 1)
	case kind == api.VInt:
		return num(int(r.state>>r.below(64)) * (1 - 2*r.below(2)))
	case kind == api.VText:
		return value.Text(r.text())
	case kind == api.VList && depth > 1:
		var items []api.Value
		for range r.below(4) {
			items = append(items, r.payload(depth-1))
		}
		return list(items...)
	case kind == api.VMap && depth > 1:
		m := dict("")
		for range r.below(4) {
			m, _ = value.Put(m, r.text(), r.payload(depth-1))
		}
		return m
	}
	return value.Null()
}

// payloads returns payloads of all kinds, also at the limits.
func payloads() []api.Value {
	l := []api.Value{
		value.Null(), value.Bool(true), value.Bool(false), num(0), num(1<<63 - 1), num(-1 << 63), list(), dict(""), pieceValue(), roomy(),
		deep(api.MaxDepth), deep(api.MaxDepth-1, num(1), dict("")), wide(api.MaxNodes), list(wide(500), wide(499)),
		dict(long(api.MaxText), value.Text(long(api.MaxText))), emptyKey(emptyKey(value.Text(""))),
	}
	full := dict("")
	for i := range api.MaxNodes - 1 {
		full.Keys, full.Items = append(full.Keys, strconv.Itoa(10000+i)), append(full.Items, num(i))
	}
	l = append(l, full)
	for _, s := range texts() {
		l = append(l, value.Text(s), api.Value{Kind: api.VMap, Keys: []string{s}, Items: []api.Value{list(value.Text(s))}})
	}
	r := numbers{}
	for range 3000 {
		l = append(l, r.payload(5))
	}
	return l
}

func TestP3_2_PayloadsAreReadBack(t *testing.T) {
	for _, v := range payloads() {
		s, e := vtext.Print(v)
		if e != api.OK {
			t.Fatalf("Print(%.200v): error %d", v, int(e))
		}
		checkParse(t, s, v)
		for _, around := range []string{" ", "\t", "\n", "\r", "\r\n \t"} {
			checkParse(t, around+s, v)
			checkParse(t, s+around, v)
			checkParse(t, around+s+around, v)
		}
	}
}

func checkCanonical(t *testing.T, s string, want bool) {
	t.Helper()
	v, _, e := vtext.Parse(s)
	if e != api.OK {
		t.Fatalf("Parse(%s): error %d", brief(s), int(e))
	}
	canonical, e := vtext.Print(v)
	if e != api.OK || (canonical == s) != want {
		t.Errorf("Print of what Parse(%s) returns: %s, error %d", brief(s), brief(canonical), int(e))
	}
	checkParse(t, canonical, v)
}

func TestP3_3_CanonicalTexts(t *testing.T) {
	for _, s := range []string{
		"null", "true", "false", "0", "-1", "10", `""`, `"a b"`, `"\x00\n\t\"\\\xff"`, "[]", "[1, 2]", "{}", `{"": 1}`, `{"a": [{}, []], "b": -5}`, `"[1,2]"`, `{"a,b:c": "x  y"}`,
	} {
		checkCanonical(t, s, true)
		for _, blank := range []string{" ", "\t", "\n", "\r", "  "} {
			checkCanonical(t, blank+s, false)
			checkCanonical(t, s+blank, false)
		}
	}
	for _, s := range []string{
		"[ ]", "{ }", "[1,2]", "[1 ,2]", "[1 , 2]", "[1,  2]", "[1,\t2]", "[1,\n2]", "[ 1, 2]", "[1, 2 ]", `{"a":1}`, `{"a" :1}`, `{"a" : 1}`, `{"a":  1}`, `{"a":` + "\n1}",
		`{ "a": 1}`, `{"a": 1 }`, `{"a": 1,"b": 2}`, `{"b": 1, "a": 2}`, `{"aa": 1, "a": 2}`, `{"a": 1, "": 2}`, `{"a": 1, "B": 2}`, `{"\xff": 1, "~": 2}`, `{"\x00": 1, "": 2}`,
		`"\x41"`, `"\x20"`, `"\x7e"`, `"\x0a"`, `"\x09"`, `"\x22"`, `"\x5c"`, `{"\x61": 1}`, `["\x0a"]`,
	} {
		checkCanonical(t, s, false)
	}
}

func TestP3_3_EveryPayloadHasOneCanonicalText(t *testing.T) {
	for _, v := range payloads() {
		s, _ := vtext.Print(v)
		checkCanonical(t, s, true)
		checkCanonical(t, s+" ", false)
	}
}

var (
	specLiteral = regexp.MustCompile(`"([ !#-\[\]-~]|\\["\\nt]|\\x[0-9a-f][0-9a-f])*"`)
	specScalar  = regexp.MustCompile(`null|true|false|0|-?[1-9][0-9]*`)
	specBlanks  = regexp.MustCompile(`[ \t\n\r]+`)
	specList    = regexp.MustCompile(`\[\]|\[[VS](,[VS])*\]|\{\}|\{S:[VS](,S:[VS])*\}`)
)

// matches decides by replacing parts, from the inside out, whether a text is a payload's, but for limits and equal keys.
func matches(s string) bool {
	if strings.ContainsAny(specLiteral.ReplaceAllLiteralString(s, ""), "VS") {
		return false
	}
	s = specScalar.ReplaceAllLiteralString(specLiteral.ReplaceAllLiteralString(s, "S"), "V")
	s = specBlanks.ReplaceAllLiteralString(s, "")
	for {
		next := specList.ReplaceAllLiteralString(s, "V")
		if next == s {
			return s == "V" || s == "S"
		}
		s = next
	}
}

// closers returns the brackets that close the open ones of a text, outside its literals.
func closers(s string) string {
	var c string
	for _, b := range specLiteral.ReplaceAllLiteralString(s, "") {
		switch b {
		case '[':
			c = "]" + c
		case '{':
			c = "}" + c
		case ']', '}':
			c = c[min(1, len(c)):]
		}
	}
	return c
}

// completes reports whether some end makes a text that matches.
func completes(s string) bool {
	for _, tail := range []string{"", "1", `"`, `""`, `0"`, `00"`, `n"`, "ull", "ll", "l", "rue", "alse", "ue", "lse", "e", "se"} {
		for _, end := range []string{s + tail, s + tail + ":1"} {
			if matches(end + closers(end)) {
				return true
			}
		}
	}
	return false
}

// checkStatus compares Parse with matches and completes, and reports whether a longer text may be accepted.
func checkStatus(t *testing.T, s string) bool {
	t.Helper()
	_, at, e := vtext.Parse(s)
	switch e {
	case api.OK:
		if at != 0 || !matches(s) {
			t.Errorf("Parse(%q) accepts", s)
		}
		return true
	case api.ErrShort:
		if at != len(s) || matches(s) || !completes(s) {
			t.Errorf("Parse(%q): too short at %d", s, at)
		}
		return true
	case api.ErrForm:
		if at >= len(s) || completes(s[:at+1]) || !completes(s[:at]) {
			t.Errorf("Parse(%q): malformed at %d", s, at)
		}
	case api.ErrTwice:
		if at >= len(s) || s[at] != '"' || !completes(s[:at]) {
			t.Errorf("Parse(%q): equal keys at %d", s, at)
		}
	default:
		t.Errorf("Parse(%q): error %d", s, int(e))
	}
	return false
}

// checkAll checks the texts that begin with s and continue with at most n of the parts.
func checkAll(t *testing.T, s string, parts []string, n int) {
	t.Helper()
	if !checkStatus(t, s) || n == 0 {
		return
	}
	for _, part := range parts {
		checkAll(t, s+part, parts, n-1)
	}
}

func TestP3_1_ParseOfAllShortTexts(t *testing.T) {
	brackets := []string{"[", "]", "{", "}", ",", ":", "1", `"a"`}
	checkAll(t, "", brackets, 6)
	checkAll(t, `{"b":`, brackets, 5)
	checkAll(t, `[{"b":[1`, brackets, 5)
	checkAll(t, "", []string{`"`, `\`, "x", "n", "4", "a", " "}, 5)
	checkAll(t, "", []string{"0", "1", "-", " ", ",", "[", "]", "n"}, 5)
	checkAll(t, "[", []string{"nul", "l", "tru", "e", "fals", ",", "]"}, 4)
}

// corpus returns texts with every way to write a payload, and every one of these with a part changed.
func corpus() []string {
	whole := []string{
		`{"a" : [1, -23 , "x\"\\\n\t\x41"] , "b": {} }`, ` [ [ ] , { } , {"k" : "" } ] `, "[null,true,false]", "0", "-9223372036854775808", `{"a":1,"b":2,"a":3}`,
		"[9223372036854775808]", strings.Repeat("[", 17), "[" + nulls(api.MaxNodes) + "]", `["` + long(api.MaxText+1) + `"]`,
	}
	l := whole
	for _, s := range whole[:7] {
		for i := range len(s) {
			l = append(l, s[:i], s[:i]+s[i+1:], s[:i]+s[i:i+1]+s[i:])
			for _, part := range []string{" ", "0", "7", "-", `"`, `\`, `\x`, "[", "]", "{", "}", ",", ":", "n", "null", "\n", "\x00", "\x80"} {
				l = append(l, s[:i]+part+s[i:], s[:i]+part+s[i+1:])
			}
		}
	}
	return l
}

func TestP3_3_AcceptedTexts(t *testing.T) {
	accepted := 0
	for _, s := range corpus() {
		v, _, e := vtext.Parse(s)
		if e != api.OK {
			continue
		}
		accepted++
		if !value.Right(v) {
			t.Errorf("Parse(%s) returns no payload", brief(s))
		}
		canonical, e := vtext.Print(v)
		if e != api.OK {
			t.Errorf("Print of what Parse(%s) returns: error %d", brief(s), int(e))
		}
		checkParse(t, canonical, v)
		checkCanonical(t, canonical, true)
	}
	if accepted < 500 {
		t.Errorf("only %d texts are accepted", accepted)
	}
}

func TestP3_4_WhatFollowsAMalformedByte(t *testing.T) {
	malformed := 0
	for _, s := range corpus() {
		_, k, e := vtext.Parse(s)
		if e != api.ErrForm {
			continue
		}
		malformed++
		for _, behind := range []string{"", " ", "0", "1", `"`, "]", "}", ",1]", `":1}`, "\x00", "null", strings.Repeat("[", 30), long(5000) + `"`, strings.Repeat("9", 30), "[" + nulls(1100)} {
			checkError(t, s[:k+1]+behind, k, api.ErrForm)
		}
		_, at, e := vtext.Parse(s[:k])
		if (e != api.OK || at != 0) && (e != api.ErrShort || at != k) {
			t.Errorf("Parse(%s), before the malformed byte: error %d at %d", brief(s[:k]), int(e), at)
		}
	}
	if malformed < 3000 {
		t.Errorf("only %d texts are malformed", malformed)
	}
}
