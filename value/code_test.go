package value_test

import (
	"bytes"
	"math"
	"slices"
	"testing"

	"workflow/api"
	"workflow/value"
	"workflow/wire"
)

// specEncode follows the chapter's section 'Encoding'.
func specEncode(v api.Value) []byte {
	b := wire.PutInt(nil, v.Kind)
	switch v.Kind {
	case api.VBool, api.VInt, api.VFuture:
		b = wire.PutInt(b, v.Int)
	case api.VText:
		b = wire.PutText(b, v.Text)
	case api.VList:
		b = wire.PutInt(b, len(v.Items))
		for _, x := range v.Items {
			b = append(b, specEncode(x)...)
		}
	case api.VMap:
		b = wire.PutInt(b, len(v.Items))
		for i, x := range v.Items {
			b = append(wire.PutText(b, v.Keys[i]), specEncode(x)...)
		}
	}
	return b
}

// payloads returns payloads of every kind, at the limits too.
func payloads() []api.Value {
	l := []api.Value{roomy()}
	for _, v := range ladder() {
		if !holdsFuture(v) {
			l = append(l, v)
		}
	}
	for _, v := range atLimits() {
		l = append(l, v)
	}
	r := numbers{state: 11}
	for range 500 {
		l = append(l, r.wellFormed(4, api.VMap))
	}
	return l
}

func TestP2_7_EncodeExamples(t *testing.T) {
	for _, x := range []struct {
		v    api.Value
		want []byte
	}{
		{api.Value{}, []byte{0}},
		{value.Bool(false), []byte{2, 0}}, {value.Bool(true), []byte{2, 2}},
		{num(0), []byte{4, 0}}, {num(5), []byte{4, 10}}, {num(-65), []byte{4, 129, 1}},
		{num(math.MinInt), []byte{4, 255, 255, 255, 255, 255, 255, 255, 255, 255, 1}},
		{value.Text(""), []byte{6, 0}}, {value.Text("ab"), []byte{6, 4, 97, 98}},
		{list(), []byte{8, 0}}, {list(num(5), value.Text("x")), []byte{8, 4, 4, 10, 6, 2, 120}},
		{list(list(), api.Value{}), []byte{8, 4, 8, 0, 0}},
		{dict(""), []byte{10, 0}}, {dict("a bc", num(1), list(value.Bool(true))), []byte{10, 4, 2, 97, 4, 2, 4, 98, 99, 8, 2, 2, 2}},
		{future(0), []byte{12, 0}}, {future(70), []byte{12, 140, 1}}, {list(future(1)), []byte{8, 2, 12, 2}},
	} {
		if got := value.Encode(nil, x.v); !bytes.Equal(got, x.want) {
			t.Errorf("Encode of %s: %v, want %v", brief(x.v), got, x.want)
		}
	}
}

func TestP2_7_EncodeAppends(t *testing.T) {
	all := append(payloads(), ladder()...)
	all = append(all, deep(40), wide(3000), wideMap(3000), value.Text(long(10000)), dict(long(5000), future(math.MaxInt)))
	for _, front := range [][]byte{nil, {}, {7}, {128, 0, 255}} {
		for _, v := range all {
			if got := value.Encode(front, v); !bytes.Equal(got, slices.Concat(front, specEncode(v))) {
				t.Fatalf("Encode of %s behind %v", brief(v), front)
			}
		}
	}
}

func TestP2_7_EncodeOfMalformedValues(t *testing.T) {
	for name, v := range malformed() {
		for _, front := range [][]byte{nil, {}, {7, 8}} {
			if got := value.Encode(front, v); !bytes.Equal(got, front) {
				t.Errorf("%s behind %v: %v", name, front, got)
			}
		}
	}
}

func TestP2_7_EncodeReturnsNewMemory(t *testing.T) {
	for _, v := range []api.Value{{}, num(1), value.Text(""), roomy(), {Kind: 9}, list(num(1), api.Value{Kind: 9})} {
		whole := []byte{1, 2, 3, 9, 9, 9, 9, 9, 9, 9, 9, 9, 9, 9, 9, 9}
		before, shown := slices.Clone(whole), show(v)
		first := value.Encode(whole[:3], v)
		want := slices.Clone(first)
		second := value.Encode(whole[:3], v)
		if !bytes.Equal(whole, before) || show(v) != shown {
			t.Errorf("Encode of %s changed an argument", brief(v))
		}
		clear(second[:cap(second)])
		if !bytes.Equal(whole, before) || !bytes.Equal(first, want) {
			t.Errorf("Encode of %s shares memory with its argument or another result", brief(v))
		}
		clear(whole)
		if !bytes.Equal(first, want) {
			t.Errorf("Encode of %s keeps its argument", brief(v))
		}
	}
}

// cat joins numbers, which are encoded as integers, and strings, which are taken as they are.
func cat(parts ...any) []byte {
	var b []byte
	for _, p := range parts {
		switch p := p.(type) {
		case int:
			b = wire.PutInt(b, p)
		case string:
			b = append(b, p...)
		case []byte:
			b = append(b, p...)
		}
	}
	return b
}

// nested returns the beginning of n lists in each other, each of one item.
func nested(n int) []byte { return bytes.Repeat([]byte{2 * api.VList, 2}, n) }

func checkDecode(t *testing.T, name string, b []byte, want api.Value, e api.Errno) {
	t.Helper()
	r := wire.Open(b)
	v := value.Decode(r)
	if r.Err() != e || e == api.OK && r.Left() != 0 {
		t.Errorf("%s: error %d, %d bytes left, want error %d", name, int(r.Err()), r.Left(), int(e))
	}
	if e != api.OK {
		want = api.Value{}
	}
	checkValue(t, name, v, want)
}

func TestP2_8_DecodeOfScalars(t *testing.T) {
	checkDecode(t, "null", cat(0), api.Value{}, api.OK)
	for _, n := range []int{0, 1, -1, 2, 64, -65, math.MinInt, math.MaxInt} {
		e := api.ErrForm
		if n == 0 || n == 1 {
			e = api.OK
		}
		checkDecode(t, "bool", cat(api.VBool, n), api.Value{Kind: api.VBool, Int: n}, e)
		checkDecode(t, "int", cat(api.VInt, n), num(n), api.OK)
	}
	for _, s := range []string{"", "a", "\x00\xff", "\u00e4", long(api.MaxText)} {
		checkDecode(t, "text", cat(api.VText, len(s), s), value.Text(s), api.OK)
	}
}

func TestP2_8_DecodeOfKinds(t *testing.T) {
	for _, kind := range []int{-1, -2, api.VFuture, 7, 8, 64, 1000, math.MinInt, math.MaxInt} {
		for _, rest := range []string{"", "\x00", "\x00\x00\x00"} {
			checkDecode(t, "a wrong kind", cat(kind, rest), api.Value{}, api.ErrForm)
			checkDecode(t, "a wrong kind inside", cat(api.VList, 1, kind, rest), api.Value{}, api.ErrForm)
			checkDecode(t, "a wrong kind in a map", cat(api.VMap, 1, 1, "a", kind, rest), api.Value{}, api.ErrForm)
		}
	}
}

func TestP2_8_DecodeOfIntegersThatWireRefuses(t *testing.T) {
	notShortest, endless, open := "\x84\x00", "\x80\x80\x80\x80\x80\x80\x80\x80\x80\x80\x00", "\x80"
	for _, front := range [][]byte{
		nil, cat(api.VBool), cat(api.VInt), cat(api.VText), cat(api.VList), cat(api.VMap),
		cat(api.VList, 1), cat(api.VMap, 1), cat(api.VMap, 1, 0), cat(api.VList, 2, 0, api.VInt), cat(api.VMap, 2, 0, 0),
	} {
		checkDecode(t, "an integer that is too long", cat(front, notShortest, "\x00\x00"), api.Value{}, api.ErrForm)
		checkDecode(t, "an integer without an end", cat(front, endless), api.Value{}, api.ErrForm)
		checkDecode(t, "an integer that ends early", cat(front, open), api.Value{}, api.ErrShort)
		checkDecode(t, "no integer", front, api.Value{}, api.ErrShort)
	}
}

func TestP2_8_DecodeOfTexts(t *testing.T) {
	for _, x := range []struct {
		name string
		b    []byte
		e    api.Errno
	}{
		{"longest", cat(api.MaxText, long(api.MaxText)), api.OK},
		{"one byte more", cat(api.MaxText+1, long(api.MaxText+1)), api.ErrForm},
		{"one byte more, but it is missing", cat(api.MaxText+1, long(api.MaxText)), api.ErrShort},
		{"longest, but a byte is missing", cat(api.MaxText, long(api.MaxText-1)), api.ErrShort},
		{"much longer", cat(100000, long(100000)), api.ErrForm},
		{"a huge length", cat(math.MaxInt, long(100)), api.ErrShort},
		{"a negative length", cat(-1, "abc"), api.ErrRange},
		{"the least length", cat(math.MinInt), api.ErrRange},
		{"missing byte", cat(2, "a"), api.ErrShort},
	} {
		n := len(x.b) - 2
		checkDecode(t, "text, "+x.name, cat(api.VText, x.b), value.Text(long(n)), x.e)
		checkDecode(t, "text in a list, "+x.name, cat(api.VList, 1, api.VText, x.b), list(value.Text(long(n))), x.e)
		if x.e != api.OK {
			checkDecode(t, "key, "+x.name, cat(api.VMap, 1, x.b), api.Value{}, x.e)
			checkDecode(t, "second key, "+x.name, cat(api.VMap, 2, 1, "a", 0, x.b), api.Value{}, x.e)
		} else {
			checkDecode(t, "key and item, "+x.name, cat(api.VMap, 1, x.b, api.VInt, 5), dict(long(n), num(5)), x.e)
		}
	}
}

func TestP2_8_DecodeOfCounts(t *testing.T) {
	for _, kind := range []int{api.VList, api.VMap} {
		checkDecode(t, "no items", cat(kind, 0), api.Value{Kind: kind}, api.OK)
		for _, n := range []int{-1, -2, math.MinInt, api.MaxNodes + 1, 1 << 40, math.MaxInt} {
			checkDecode(t, "a wrong count", cat(kind, n), api.Value{}, api.ErrForm)
			checkDecode(t, "a wrong count before bytes", cat(kind, n, make([]byte, 5000)), api.Value{}, api.ErrForm)
			checkDecode(t, "a wrong count inside", cat(api.VList, 1, kind, n), api.Value{}, api.ErrForm)
		}
		checkDecode(t, "the greatest count without items", cat(kind, api.MaxNodes), api.Value{}, api.ErrShort)
		checkDecode(t, "fewer items than the count", cat(kind, 3, 0, 0), api.Value{}, api.ErrShort)
	}
	checkDecode(t, "an item is missing behind a key", cat(api.VMap, 1, 1, "a"), api.Value{}, api.ErrShort)
	checkDecode(t, "items", cat(api.VList, 2, api.VInt, 5, api.VText, 1, "x"), list(num(5), value.Text("x")), api.OK)
	checkDecode(t, "pairs", cat(api.VMap, 2, 1, "a", api.VInt, 5, 1, "b", api.VList, 0), dict("a b", num(5), list()), api.OK)
}

func TestP2_8_DecodeOfKeys(t *testing.T) {
	for _, x := range []struct {
		keys []string
		e    api.Errno
	}{
		{[]string{""}, api.OK}, {[]string{"", "a"}, api.OK}, {[]string{"a", "a\x00"}, api.OK}, {[]string{"a", "aa", "b", "\xff"}, api.OK},
		{[]string{"B", "a"}, api.OK}, {[]string{"\x7f", "\x80"}, api.OK},
		{[]string{"", ""}, api.ErrForm}, {[]string{"a", "a"}, api.ErrForm}, {[]string{"b", "a"}, api.ErrForm}, {[]string{"a", ""}, api.ErrForm},
		{[]string{"a", "c", "b"}, api.ErrForm}, {[]string{"b", "a", "c"}, api.ErrForm}, {[]string{"a", "b", "b"}, api.ErrForm},
		{[]string{"a", "b", "a"}, api.ErrForm}, {[]string{"aa", "a"}, api.ErrForm}, {[]string{"\x80", "\x7f"}, api.ErrForm},
	} {
		b, want := cat(api.VMap, len(x.keys)), api.Value{Kind: api.VMap, Keys: x.keys}
		for i, key := range x.keys {
			b = cat(b, len(key), key, api.VInt, i)
			want.Items = append(want.Items, num(i))
		}
		checkDecode(t, "keys", b, want, x.e)
		checkDecode(t, "keys inside", cat(api.VList, 1, b), list(want), x.e)
	}
	// A key is checked before its item is read.
	checkDecode(t, "equal keys without the item", cat(api.VMap, 2, 1, "a", 0, 1, "a"), api.Value{}, api.ErrForm)
	checkDecode(t, "descending keys without the item", cat(api.VMap, 2, 1, "b", 0, 1, "a"), api.Value{}, api.ErrForm)
	checkDecode(t, "too long a key without the item", cat(api.VMap, 1, 4097, long(4097)), api.Value{}, api.ErrForm)
	checkDecode(t, "the same keys in two maps", cat(api.VList, 2, api.VMap, 1, 1, "b", 0, api.VMap, 1, 1, "a", 0),
		list(dict("b", api.Value{}), dict("a", api.Value{})), api.OK)
	checkDecode(t, "keys of a map inside", cat(api.VMap, 2, 1, "b", api.VMap, 1, 1, "a", 0, 1, "c", 0),
		dict("b c", dict("a", api.Value{}), api.Value{}), api.OK)
}

func TestP2_8_DecodeOfNodes(t *testing.T) {
	const most = api.MaxNodes
	checkDecode(t, "most nodes", cat(api.VList, most-1, make([]byte, most-1)), wide(most), api.OK)
	checkDecode(t, "most nodes in a map", specEncode(wideMap(most)), wideMap(most), api.OK)
	checkDecode(t, "one node more", cat(api.VList, most, make([]byte, most)), api.Value{}, api.ErrForm)
	checkDecode(t, "one node more in a map", specEncode(wideMap(most+1)), api.Value{}, api.ErrForm)
	checkDecode(t, "one node more in the second list", specEncode(list(wide(500), wide(500))), api.Value{}, api.ErrForm)
	checkDecode(t, "most nodes in two lists", specEncode(list(wide(500), wide(499))), list(wide(500), wide(499)), api.OK)
	// The last node fails when it begins, so before its kind is read.
	checkDecode(t, "one node more, without its bytes", cat(api.VList, most, make([]byte, most-1)), api.Value{}, api.ErrForm)
	checkDecode(t, "most nodes, the last one without its bytes", cat(api.VList, most, make([]byte, most-2)), api.Value{}, api.ErrShort)
	full := specEncode(wideMap(most))
	full = cat(api.VMap, most, full[1+len(wire.PutInt(nil, most-1)):])
	checkDecode(t, "one node more in a map, without its key", full, api.Value{}, api.ErrShort)
	checkDecode(t, "one node more in a map, with its key only", cat(full, 1, "z"), api.Value{}, api.ErrForm)
}

func TestP2_8_DecodeOfDepth(t *testing.T) {
	const most = api.MaxDepth
	checkDecode(t, "greatest depth", cat(nested(most-1), 0), specDeep(most, api.Value{}), api.OK)
	checkDecode(t, "greatest depth of lists", specEncode(deep(most)), deep(most), api.OK)
	checkDecode(t, "greatest depth of maps", specEncode(deepMap(most)), deepMap(most), api.OK)
	checkDecode(t, "one level more", cat(nested(most), 0), api.Value{}, api.ErrForm)
	checkDecode(t, "one level more of lists", specEncode(deep(most+1)), api.Value{}, api.ErrForm)
	checkDecode(t, "one level more of maps", specEncode(deepMap(most+1)), api.Value{}, api.ErrForm)
	checkDecode(t, "very deep", nested(100000), api.Value{}, api.ErrForm)
	// The item fails when it begins, so before its kind, but after its key.
	checkDecode(t, "one level more, without its bytes", nested(most), api.Value{}, api.ErrForm)
	checkDecode(t, "greatest depth, without its bytes", nested(most-1), api.Value{}, api.ErrShort)
	checkDecode(t, "one level more in a map, without its key", cat(nested(most-1), api.VMap, 1), api.Value{}, api.ErrShort)
	checkDecode(t, "one level more in a map, with its key only", cat(nested(most-1), api.VMap, 1, 1, "a"), api.Value{}, api.ErrForm)
	// An item that ended does not make the next one deeper.
	many := list(slices.Repeat([]api.Value{deep(most - 1)}, 20)...)
	checkDecode(t, "many deep items", specEncode(many), many, api.OK)
}

// specDeep returns v in lists, so that its depth is n.
func specDeep(n int, v api.Value) api.Value {
	for range n - 1 {
		v = list(v)
	}
	return v
}

func TestP2_8_DecodeOfNothingAndOfParts(t *testing.T) {
	checkDecode(t, "no bytes", nil, api.Value{}, api.ErrShort)
	for _, v := range []api.Value{num(-65), value.Text("abc"), roomy(), list(list(), dict("a b", value.Bool(true), value.Text(long(70)))), value.Failure("t", num(1))} {
		whole := specEncode(v)
		for n := range whole {
			checkDecode(t, "a part of an encoding", whole[:n], api.Value{}, api.ErrShort)
		}
	}
}

func TestP2_8_DecodeReadsOneValue(t *testing.T) {
	first, second := wide(700), list(num(1), wide(800))
	r := wire.Open(cat(77, specEncode(first), specEncode(second), specEncode(deep(api.MaxDepth)), 9, 9))
	if n := r.Int(77, 77); n != 77 {
		t.Fatal("wire.Int")
	}
	checkValue(t, "the first value", value.Decode(r), first)
	checkValue(t, "the second value", value.Decode(r), second)
	checkValue(t, "the third value", value.Decode(r), deep(api.MaxDepth))
	if r.Err() != api.OK || r.Left() != 2 || r.Int(9, 9) != 9 {
		t.Errorf("error %d, %d bytes left", int(r.Err()), r.Left())
	}
}

func TestP2_8_DecodeAfterAnError(t *testing.T) {
	for _, e := range []api.Errno{api.ErrSum, api.ErrShort, api.ErrNil, api.ErrDepth} {
		r := wire.Open(cat(api.VInt, 5))
		r.Fail(e)
		checkValue(t, "Decode after an error", value.Decode(r), api.Value{})
		if r.Err() != e {
			t.Errorf("error %d became %d", int(e), int(r.Err()))
		}
	}
	r := wire.Open(cat(api.VBool, 2, api.VInt, 5))
	for range 3 {
		checkValue(t, "Decode after its own error", value.Decode(r), api.Value{})
		if r.Err() != api.ErrForm || r.End() != api.ErrForm || r.Left() != 0 {
			t.Errorf("error %d, %d bytes left", int(r.Err()), r.Left())
		}
	}
}

func TestP2_8_DecodeOfReadersThatOpenDidNotReturn(t *testing.T) {
	for _, r := range []*wire.Reader{nil, {}, new(wire.Reader)} {
		checkValue(t, "Decode", value.Decode(r), api.Value{})
		if r.Err() != api.ErrNil {
			t.Errorf("error %d", int(r.Err()))
		}
	}
}

func TestP2_8_DecodeReturnsNewMemory(t *testing.T) {
	v := dict("a b", list(num(1), num(2)), list(num(1), num(2)))
	b := specEncode(v)
	before := slices.Clone(b)
	r, other := wire.Open(b), wire.Open(b)
	first, second := value.Decode(r), value.Decode(other)
	if !bytes.Equal(b, before) {
		t.Error("Decode changed the bytes")
	}
	clear(b)
	scribble(first.Items[0])
	checkValue(t, "another item of the result", first.Items[1], list(num(1), num(2)))
	scribble(first)
	checkValue(t, "another result", second, v)
}

func TestP2_9_PayloadsAreReadBack(t *testing.T) {
	for _, v := range payloads() {
		for _, tail := range []string{"", "\x00", "\x80", "\xff\xff", "tail"} {
			r := wire.Open(append(value.Encode(nil, v), tail...))
			if got := value.Decode(r); show(got) != show(v) || r.Err() != api.OK || r.Left() != len(tail) {
				t.Fatalf("%s before %q: %s, error %d, %d bytes left", brief(v), tail, brief(got), int(r.Err()), r.Left())
			}
		}
	}
}

func TestP2_9_OtherValuesAreNotReadBack(t *testing.T) {
	var l []api.Value
	for _, v := range ladder() {
		if holdsFuture(v) {
			l = append(l, v)
		}
	}
	l = append(l, deep(17), wide(1001), value.Text(long(4097)), dict(long(4097), num(1)))
	for _, v := range l {
		r := wire.Open(value.Encode(nil, v))
		if got := value.Decode(r); r.Err() != api.ErrForm || show(got) != show(api.Value{}) {
			t.Errorf("%s: %s, error %d", brief(v), brief(got), int(r.Err()))
		}
	}
}

// checkCanonical expects a payload and the bytes of its encoding whenever b can be read.
func checkCanonical(t *testing.T, b []byte) bool {
	t.Helper()
	r := wire.Open(b)
	v := value.Decode(r)
	if r.Err() != api.OK {
		if show(v) != show(api.Value{}) {
			t.Fatalf("%v: %s with error %d", b, brief(v), int(r.Err()))
		}
		return false
	}
	if !value.Right(v) || !bytes.Equal(value.Encode(nil, v), b[:len(b)-r.Left()]) || !bytes.Equal(specEncode(v), b[:len(b)-r.Left()]) {
		t.Fatalf("%v: %s, %d bytes left", b, brief(v), r.Left())
	}
	return true
}

func TestP2_9_WhatIsReadIsTheEncoding(t *testing.T) {
	corners := []byte{0, 1, 2, 4, 6, 8, 10, 12, 97, 128, 132, 255}
	read := 0
	for k := range 6 {
		count := 1
		for range k {
			count *= len(corners)
		}
		for n := range count {
			b := make([]byte, k)
			for i := range b {
				b[i] = corners[n%len(corners)]
				n /= len(corners)
			}
			if checkCanonical(t, b) {
				read++
			}
		}
	}
	if read < 1000 {
		t.Errorf("only %d values were read", read)
	}
}

func TestP2_9_ChangedEncodings(t *testing.T) {
	r := numbers{state: 5}
	read, refused := 0, 0
	for range 20000 {
		b := specEncode(r.wellFormed(4, api.VFuture))
		for range 1 + r.below(2) {
			at := r.below(len(b))
			switch r.below(3) {
			case 0:
				b[at] = byte(r.below(256))
			case 1:
				b = slices.Insert(b, at, byte(r.below(14)))
			case 2:
				b[at] += 2
			}
		}
		if checkCanonical(t, b) {
			read++
		} else {
			refused++
		}
	}
	if read < 100 || refused < 100 {
		t.Errorf("%d values were read, %d refused", read, refused)
	}
}
