package value_test

import (
	"math"
	"slices"
	"strconv"
	"strings"
	"testing"

	"workflow/api"
	"workflow/value"
)

// show describes all fields of a value and its items, so that tests compare values without the package's own Same.
func show(v api.Value) string {
	var b strings.Builder
	describe(&b, v)
	return b.String()
}

func describe(b *strings.Builder, v api.Value) {
	b.WriteString(strconv.Itoa(v.Kind) + " " + strconv.Itoa(v.Int) + " " + strconv.Quote(v.Text) + " (")
	for _, key := range v.Keys {
		b.WriteString(strconv.Quote(key) + ",")
	}
	b.WriteString(")[")
	for _, x := range v.Items {
		describe(b, x)
		b.WriteByte(';')
	}
	b.WriteByte(']')
}

// brief shortens a description, because some values in these tests are huge.
func brief(v api.Value) string {
	s := show(v)
	return s[:min(len(s), 200)]
}

func checkValue(t *testing.T, what string, got, want api.Value) {
	t.Helper()
	if show(got) != show(want) {
		t.Errorf("%s: %s, want %s", what, brief(got), brief(want))
	}
}

// checkResult expects want if e is OK, and the zero value otherwise.
func checkResult(t *testing.T, what string, got api.Value, gotErr api.Errno, want api.Value, e api.Errno) {
	t.Helper()
	if gotErr != e {
		t.Errorf("%s: error %d, want %d", what, int(gotErr), int(e))
	}
	if e != api.OK {
		want = api.Value{}
	}
	checkValue(t, what, got, want)
}

// clone copies a value without the package's own Copy.
func clone(v api.Value) api.Value {
	items := make([]api.Value, len(v.Items))
	for i, x := range v.Items {
		items[i] = clone(x)
	}
	v.Items, v.Keys = items, slices.Clone(v.Keys)
	return v
}

// scribble overwrites all memory that a value reaches, behind the lengths of its slices too.
func scribble(v api.Value) {
	for _, x := range v.Items {
		scribble(x)
	}
	for i := range v.Items[:cap(v.Items)] {
		v.Items[:cap(v.Items)][i] = api.Value{Kind: -99, Text: "scribbled"}
	}
	for i := range v.Keys[:cap(v.Keys)] {
		v.Keys[:cap(v.Keys)][i] = "scribbled"
	}
}

// checkNewMemory calls a function twice with the same argument, and scribbles over a result and over the argument.
func checkNewMemory(t *testing.T, what string, argument api.Value, call func(v api.Value) api.Value) {
	t.Helper()
	before := show(argument)
	first, second := call(argument), call(argument)
	want := show(first)
	if show(argument) != before || show(second) != want {
		t.Errorf("%s changed its argument", what)
	}
	scribble(first)
	if show(argument) != before || show(second) != want {
		t.Errorf("%s: the result shares memory with the argument or another result", what)
	}
	scribble(argument)
	if show(second) != want {
		t.Errorf("%s keeps its argument", what)
	}
}

// roomy returns a value whose slices have room behind their lengths, with elements that must be ignored.
func roomy() api.Value {
	inner := []api.Value{value.Int(1), value.Text("in"), {Kind: 9}}[:2]
	items := []api.Value{value.Int(7), {Kind: api.VList, Items: inner}, value.Int(8), {Kind: 9}, {Kind: 9}}[:3]
	return api.Value{Kind: api.VMap, Keys: []string{"a", "c", "e", "behind", "behind"}[:3], Items: items}
}

func list(items ...api.Value) api.Value { return api.Value{Kind: api.VList, Items: items} }

// dict builds a map from the keys in the order in which they are given, even if that is wrong.
func dict(keys string, items ...api.Value) api.Value {
	return api.Value{Kind: api.VMap, Keys: strings.Fields(keys), Items: items}
}

func num(n int) api.Value { return api.Value{Kind: api.VInt, Int: n} }

func future(n int) api.Value { return api.Value{Kind: api.VFuture, Int: n} }

func long(n int) string { return strings.Repeat("x", n) }

// deep returns lists in each other, n levels in all.
func deep(n int) api.Value {
	v := list()
	for range n - 1 {
		v = list(v)
	}
	return v
}

// wide returns a list with n nodes in all.
func wide(n int) api.Value { return list(make([]api.Value, n-1)...) }

// wideMap returns a map with n nodes in all.
func wideMap(n int) api.Value {
	v := api.Value{Kind: api.VMap}
	for i := range n - 1 {
		v.Keys = append(v.Keys, "k"+strconv.Itoa(100000+i))
		v.Items = append(v.Items, num(i))
	}
	return v
}

// misfits returns a value for every way in which a value is not well formed at its outermost level.
func misfits() map[string]api.Value {
	one, key := []api.Value{{}}, []string{"a"}
	m := map[string]api.Value{
		"kind below":          {Kind: -1},
		"kind above":          {Kind: 7},
		"greatest kind":       {Kind: math.MaxInt},
		"least kind":          {Kind: math.MinInt},
		"bool 2":              {Kind: api.VBool, Int: 2},
		"bool -1":             {Kind: api.VBool, Int: -1},
		"negative future":     {Kind: api.VFuture, Int: -1},
		"least future":        {Kind: api.VFuture, Int: math.MinInt},
		"fewer items":         {Kind: api.VMap, Keys: []string{"a", "b"}, Items: one},
		"no items":            {Kind: api.VMap, Keys: key},
		"more items":          {Kind: api.VMap, Keys: key, Items: []api.Value{{}, {}}},
		"no keys":             {Kind: api.VMap, Items: one},
		"descending keys":     dict("b a", num(1), num(2)),
		"equal keys":          dict("a a", num(1), num(1)),
		"descending at end":   dict("a c b", num(1), num(2), num(3)),
		"equal keys at end":   dict("a b b", num(1), num(2), num(3)),
		"descending at start": dict("b a c", num(1), num(2), num(3)),
	}
	uses := map[int]string{
		api.VNull: "", api.VBool: "int", api.VInt: "int", api.VText: "text",
		api.VList: "items", api.VMap: "items keys", api.VFuture: "int",
	}
	for kind, used := range uses {
		for field, v := range map[string]api.Value{
			"int": {Int: 1}, "text": {Text: "t"}, "items": {Items: one}, "keys": {Keys: key},
		} {
			if !strings.Contains(used, field) {
				v.Kind = kind
				m["kind "+strconv.Itoa(kind)+" with "+field] = v
			}
		}
	}
	m["null with a negative int"] = api.Value{Kind: api.VNull, Int: -1}
	m["map with int and pairs"] = api.Value{Kind: api.VMap, Int: -1, Keys: key, Items: one}
	m["list with keys and items"] = api.Value{Kind: api.VList, Keys: key, Items: one}
	return m
}

// malformed adds values that are not well formed deeper inside.
func malformed() map[string]api.Value {
	m := misfits()
	for name, v := range misfits() {
		m[name+" in a list"] = list(num(1), v)
		m[name+" first in a list"] = list(v, num(1))
		m[name+" in a map"] = dict("a b", num(1), v)
		m[name+" in lists"] = list(list(), list(list(v)), num(3))
		m[name+" in a map in a list"] = list(dict("a", v))
	}
	return m
}

// excesses returns values beyond the limits; the ones that are not well formed carry their excess in an unused field.
func excesses() map[string]api.Value {
	tooLong := long(api.MaxText + 1)
	m := map[string]api.Value{
		"text":                 value.Text(tooLong),
		"key":                  {Kind: api.VMap, Keys: []string{tooLong}, Items: []api.Value{{}}},
		"last key":             {Kind: api.VMap, Keys: []string{"a", tooLong}, Items: []api.Value{{}, {}}},
		"depth":                deep(api.MaxDepth + 1),
		"depth of maps":        deepMap(api.MaxDepth + 1),
		"nodes":                wide(api.MaxNodes + 1),
		"nodes of a map":       wideMap(api.MaxNodes + 1),
		"nodes in all":         list(wide(api.MaxNodes/2), wide(api.MaxNodes/2)),
		"text of an integer":   {Kind: api.VInt, Text: tooLong},
		"key of a list":        {Kind: api.VList, Keys: []string{"a", tooLong}},
		"items of null":        {Kind: api.VNull, Items: make([]api.Value, api.MaxNodes)},
		"depth of a text":      {Kind: api.VText, Items: []api.Value{deep(api.MaxDepth)}},
		"text of unknown kind": {Kind: 77, Text: tooLong},
		"text of a future":     {Kind: api.VFuture, Text: tooLong},
	}
	m["text inside"] = list(num(1), list(m["text"]))
	m["key inside"] = dict("a", m["key"])
	m["key of a list inside"] = list(m["key of a list"])
	return m
}

func deepMap(n int) api.Value {
	v := dict("")
	for range n - 1 {
		v = dict("k", v)
	}
	return v
}

// atLimits returns payloads that reach a limit.
func atLimits() map[string]api.Value {
	return map[string]api.Value{
		"text":           value.Text(long(api.MaxText)),
		"key":            {Kind: api.VMap, Keys: []string{long(api.MaxText)}, Items: []api.Value{{}}},
		"depth":          deep(api.MaxDepth),
		"depth of maps":  deepMap(api.MaxDepth),
		"nodes":          wide(api.MaxNodes),
		"nodes of a map": wideMap(api.MaxNodes),
		"nodes in all":   list(wide(api.MaxNodes/2), wide(api.MaxNodes/2-1)),
	}
}

func TestP2_1_Constructors(t *testing.T) {
	checkValue(t, "Null", value.Null(), api.Value{})
	checkValue(t, "Bool(true)", value.Bool(true), api.Value{Kind: api.VBool, Int: 1})
	checkValue(t, "Bool(false)", value.Bool(false), api.Value{Kind: api.VBool})
	for _, n := range []int{0, 1, -1, 2, 99, math.MaxInt, math.MinInt} {
		checkValue(t, "Int", value.Int(n), api.Value{Kind: api.VInt, Int: n})
	}
	for _, s := range []string{"", "a", "\x00\xff", "\u00e4", long(api.MaxText), long(api.MaxText + 1)} {
		checkValue(t, "Text", value.Text(s), api.Value{Kind: api.VText, Text: s})
	}
	for _, items := range [][]api.Value{nil, {}, {num(1)}, {num(2), list(num(1)), dict("a", num(3))}} {
		checkValue(t, "List", value.List(items), api.Value{Kind: api.VList, Items: items})
	}
}

func TestP2_1_ListChecksNothing(t *testing.T) {
	for name, x := range malformed() {
		checkValue(t, name, value.List([]api.Value{num(1), x}), list(num(1), x))
	}
	for name, x := range excesses() {
		checkValue(t, name, value.List([]api.Value{x, x}), list(x, x))
	}
}

func TestP2_1_ListCopies(t *testing.T) {
	checkNewMemory(t, "List", roomy(), func(v api.Value) api.Value { return value.List(v.Items) })
	x := list(num(1), list(num(2)))
	twice := value.List([]api.Value{x, x})
	scribble(twice.Items[0])
	checkValue(t, "the second of two equal items", twice.Items[1], x)
}

func TestP2_2_Map(t *testing.T) {
	for _, x := range []struct {
		keys  []string
		items []api.Value
		want  api.Value
	}{
		{nil, nil, api.Value{Kind: api.VMap}},
		{[]string{}, []api.Value{}, api.Value{Kind: api.VMap}},
		{[]string{""}, []api.Value{num(1)}, api.Value{Kind: api.VMap, Keys: []string{""}, Items: []api.Value{num(1)}}},
		{[]string{"b", "a"}, []api.Value{num(1), num(2)}, dict("a b", num(2), num(1))},
		{[]string{"a", "b"}, []api.Value{num(1), num(2)}, dict("a b", num(1), num(2))},
		{[]string{"a", "b"}, []api.Value{num(1), num(1)}, dict("a b", num(1), num(1))},
		{[]string{"b", "aa", "a", "B", "\xff", "\u00e4"}, []api.Value{num(1), num(2), num(3), num(4), num(5), num(6)},
			dict("B a aa b \u00e4 \xff", num(4), num(3), num(2), num(1), num(6), num(5))},
		{[]string{"b", "a"}, []api.Value{list(num(1)), dict("x", num(2))}, dict("a b", dict("x", num(2)), list(num(1)))},
		{[]string{"b", "a"}, []api.Value{future(0), future(3)}, dict("a b", future(3), future(0))},
	} {
		got, e := value.Map(x.keys, x.items)
		checkResult(t, "Map of "+strings.Join(x.keys, ","), got, e, x.want, api.OK)
	}
}

// permutations returns all orders of the numbers below n.
func permutations(n int) [][]int {
	if n == 0 {
		return [][]int{nil}
	}
	var all [][]int
	for _, p := range permutations(n - 1) {
		for at := range n {
			all = append(all, slices.Insert(slices.Clone(p), at, n-1))
		}
	}
	return all
}

func TestP2_2_MapWithKeysInEveryOrder(t *testing.T) {
	sorted := []string{"", "a", "a\x00", "aa", "b", "\x80"}
	want := api.Value{Kind: api.VMap, Keys: sorted}
	for i := range sorted {
		want.Items = append(want.Items, num(i))
	}
	for _, p := range permutations(len(sorted)) {
		var keys []string
		var items []api.Value
		for _, i := range p {
			keys, items = append(keys, sorted[i]), append(items, num(i))
		}
		got, e := value.Map(keys, items)
		checkResult(t, "a permutation", got, e, want, api.OK)
	}
}

func TestP2_2_MapErrors(t *testing.T) {
	tooLong := long(api.MaxText + 1)
	for _, x := range []struct {
		name  string
		keys  []string
		items []api.Value
		e     api.Errno
	}{
		{"no item", []string{"a"}, nil, api.ErrSize},
		{"no key", nil, []api.Value{num(1)}, api.ErrSize},
		{"fewer items", []string{"a", "b"}, []api.Value{num(1)}, api.ErrSize},
		{"more items", []string{"a", "b"}, []api.Value{num(1), num(2), num(3)}, api.ErrSize},
		{"fewer items than equal keys", []string{"a", "a"}, []api.Value{num(1)}, api.ErrSize},
		{"equal keys", []string{"a", "a"}, []api.Value{num(1), num(2)}, api.ErrTwice},
		{"equal keys and items", []string{"a", "a"}, []api.Value{num(1), num(1)}, api.ErrTwice},
		{"equal empty keys", []string{"", ""}, []api.Value{num(1), num(2)}, api.ErrTwice},
		{"equal keys apart", []string{"a", "c", "b", "a"}, make([]api.Value, 4), api.ErrTwice},
		{"equal last keys", []string{"c", "a", "b", "c"}, make([]api.Value, 4), api.ErrTwice},
		{"equal long keys", []string{tooLong, tooLong}, make([]api.Value, 2), api.ErrTwice},
		{"equal keys and a long text", []string{"a", "a"}, []api.Value{value.Text(tooLong), num(1)}, api.ErrTwice},
		{"equal keys among too many", slices.Repeat([]string{"a"}, api.MaxNodes+5), make([]api.Value, api.MaxNodes+5), api.ErrTwice},
	} {
		got, e := value.Map(x.keys, x.items)
		checkResult(t, x.name, got, e, api.Value{}, x.e)
	}
}

func TestP2_2_MapWithinTheLimits(t *testing.T) {
	for name, v := range atLimits() {
		if v.Kind == api.VMap {
			keys, items := slices.Clone(v.Keys), slices.Clone(v.Items)
			slices.Reverse(keys)
			slices.Reverse(items)
			got, e := value.Map(keys, items)
			checkResult(t, name, got, e, v, api.OK)
		}
	}
	for name, v := range excesses() {
		if v.Kind == api.VMap {
			got, e := value.Map(v.Keys, v.Items)
			checkResult(t, name, got, e, api.Value{}, api.ErrSize)
		}
		got, e := value.Map([]string{"a", "b"}, []api.Value{num(1), v})
		checkResult(t, name+" in an item", got, e, api.Value{}, api.ErrSize)
	}
	for _, x := range []struct {
		name string
		item api.Value
		e    api.Errno
	}{
		{"greatest depth", deep(api.MaxDepth - 1), api.OK},
		{"one level more", deep(api.MaxDepth), api.ErrSize},
		{"most nodes", wide(api.MaxNodes - 1), api.OK},
		{"one node more", wide(api.MaxNodes), api.ErrSize},
		{"greatest depth of null", api.Value{Items: []api.Value{deep(api.MaxDepth - 2)}}, api.OK},
		{"one level more of null", api.Value{Items: []api.Value{deep(api.MaxDepth - 1)}}, api.ErrSize},
	} {
		got, e := value.Map([]string{"k"}, []api.Value{x.item})
		checkResult(t, x.name, got, e, dict("k", x.item), x.e)
	}
}

func TestP2_2_MapDoesNotCheckWhetherItemsAreWellFormed(t *testing.T) {
	for name, x := range malformed() {
		got, e := value.Map([]string{"b", "a"}, []api.Value{x, num(1)})
		checkResult(t, name, got, e, dict("a b", num(1), x), api.OK)
	}
}

func TestP2_2_MapCopies(t *testing.T) {
	checkNewMemory(t, "Map", roomy(), func(v api.Value) api.Value {
		m, _ := value.Map(v.Keys, v.Items)
		return m
	})
	keys := []string{"b", "a", "c", "a", "d"}
	items := []api.Value{num(1), num(2), num(3), num(4), num(5)}
	got, e := value.Map(keys[:3], items[:3])
	checkResult(t, "Map with room behind", got, e, dict("a b c", num(2), num(1), num(3)), api.OK)
	checkValue(t, "arguments after Map", api.Value{Keys: keys, Items: items},
		api.Value{Keys: []string{"b", "a", "c", "a", "d"}, Items: []api.Value{num(1), num(2), num(3), num(4), num(5)}})
	scribble(got)
	checkValue(t, "arguments after a change of the result", api.Value{Keys: keys, Items: items},
		api.Value{Keys: []string{"b", "a", "c", "a", "d"}, Items: []api.Value{num(1), num(2), num(3), num(4), num(5)}})
}

func TestP2_2_Failure(t *testing.T) {
	for _, kind := range []string{"", "bad", "\xff", long(api.MaxText + 1)} {
		for _, data := range []api.Value{{}, num(2), list(num(1)), dict("data type", num(1), num(2)), future(1), deep(api.MaxDepth)} {
			checkValue(t, "Failure", value.Failure(kind, data), dict("data type", data, api.Value{Kind: api.VText, Text: kind}))
		}
	}
	for name, data := range malformed() {
		checkValue(t, name, value.Failure("t", data), dict("data type", data, value.Text("t")))
	}
	for name, data := range excesses() {
		checkValue(t, name, value.Failure("t", data), dict("data type", data, value.Text("t")))
	}
	checkNewMemory(t, "Failure", roomy(), func(v api.Value) api.Value { return value.Failure("t", v) })
}

func TestP2_5_Get(t *testing.T) {
	v := dict("a aa b c", num(1), list(num(2)), api.Value{}, future(3))
	v.Keys[0], v.Keys[3] = "", "\xff"
	for i, key := range v.Keys {
		if got, ok := value.Get(v, key); !ok || show(got) != show(v.Items[i]) {
			t.Errorf("Get of %q: %s, %v", key, brief(got), ok)
		}
	}
	for _, key := range []string{"a", "aaa", "ab", "bb", "c", "\x00", "\xff\x00", "B"} {
		if got, ok := value.Get(v, key); ok || show(got) != show(api.Value{}) {
			t.Errorf("Get of the missing key %q: %s, %v", key, brief(got), ok)
		}
	}
	if got, ok := value.Get(dict(""), ""); ok || show(got) != show(api.Value{}) {
		t.Errorf("Get from the empty map: %s, %v", brief(got), ok)
	}
}

func TestP2_5_GetFromOtherThanAWellFormedMap(t *testing.T) {
	others := map[string]api.Value{
		"null": {}, "bool": value.Bool(true), "int": num(1), "text": value.Text("a"),
		"list": list(num(1)), "list of a map": list(dict("a", num(1))), "future": future(0),
	}
	for name, x := range malformed() {
		others[name] = x
		others[name+" as the item"] = dict("a", x)
		others[name+" as another item"] = dict("a b", num(1), x)
		others[name+" inside another item"] = dict("a b", num(1), list(dict("c", x)))
	}
	for name, v := range others {
		if got, ok := value.Get(v, "a"); ok || show(got) != show(api.Value{}) {
			t.Errorf("%s: %s, %v", name, brief(got), ok)
		}
		got, e := value.Put(v, "a", num(1))
		checkResult(t, "Put: "+name, got, e, api.Value{}, api.ErrType)
		got, e = value.Put(v, "zz", value.Text(long(api.MaxText+1)))
		checkResult(t, "Put of a long text: "+name, got, e, api.Value{}, api.ErrType)
		got, e = value.Drop(v, "a")
		checkResult(t, "Drop: "+name, got, e, api.Value{}, api.ErrType)
		got, e = value.Drop(v, "zz")
		checkResult(t, "Drop of a missing key: "+name, got, e, api.Value{}, api.ErrType)
	}
}

func TestP2_5_GetAndDropBeyondTheLimits(t *testing.T) {
	tooLong := long(api.MaxText + 1)
	for name, x := range map[string]api.Value{
		"depth": deep(40), "nodes": wide(3000), "text": value.Text(tooLong), "key": excesses()["key"],
	} {
		v := dict("a b", num(1), x)
		if got, ok := value.Get(v, "b"); !ok || show(got) != show(x) {
			t.Errorf("Get, %s: %s, %v", name, brief(got), ok)
		}
		got, e := value.Drop(v, "a")
		checkResult(t, "Drop, "+name, got, e, dict("b", x), api.OK)
	}
	v := api.Value{Kind: api.VMap, Keys: []string{"a", tooLong}, Items: []api.Value{num(1), num(2)}}
	if got, ok := value.Get(v, tooLong); !ok || show(got) != show(num(2)) {
		t.Errorf("Get of a long key: %s, %v", brief(got), ok)
	}
	got, e := value.Drop(v, tooLong)
	checkResult(t, "Drop of a long key", got, e, dict("a", num(1)), api.OK)
	_, e = value.Drop(v, tooLong+"x")
	checkResult(t, "Drop of a missing long key", api.Value{}, e, api.Value{}, api.ErrNone)
}

func TestP2_5_Put(t *testing.T) {
	v := dict("b d f", num(1), num(2), num(3))
	for _, x := range []struct {
		key  string
		want api.Value
	}{
		{"a", dict("a b d f", num(9), num(1), num(2), num(3))},
		{"b", dict("b d f", num(9), num(2), num(3))},
		{"c", dict("b c d f", num(1), num(9), num(2), num(3))},
		{"d", dict("b d f", num(1), num(9), num(3))},
		{"e", dict("b d e f", num(1), num(2), num(9), num(3))},
		{"f", dict("b d f", num(1), num(2), num(9))},
		{"g", dict("b d f g", num(1), num(2), num(3), num(9))},
		{"bb", dict("b bb d f", num(1), num(9), num(2), num(3))},
	} {
		got, e := value.Put(v, x.key, num(9))
		checkResult(t, "Put of "+x.key, got, e, x.want, api.OK)
	}
	got, e := value.Put(dict(""), "", list(num(1)))
	checkResult(t, "Put in the empty map", got, e, api.Value{Kind: api.VMap, Keys: []string{""}, Items: []api.Value{list(num(1))}}, api.OK)
	checkValue(t, "the argument", v, dict("b d f", num(1), num(2), num(3)))
}

func TestP2_5_PutOfAnyValue(t *testing.T) {
	v := dict("a c", num(1), num(2))
	for name, x := range malformed() {
		got, e := value.Put(v, "b", x)
		checkResult(t, name+" added", got, e, dict("a b c", num(1), x, num(2)), api.OK)
		got, e = value.Put(v, "c", x)
		checkResult(t, name+" replaced", got, e, dict("a c", num(1), x), api.OK)
	}
	for name, x := range excesses() {
		got, e := value.Put(v, "b", x)
		checkResult(t, name+" added", got, e, api.Value{}, api.ErrSize)
		got, e = value.Put(v, "a", x)
		checkResult(t, name+" replaced", got, e, api.Value{}, api.ErrSize)
	}
	got, e := value.Put(v, "a", future(5))
	checkResult(t, "a future", got, e, dict("a c", future(5), num(2)), api.OK)
}

func TestP2_5_PutWithinTheLimits(t *testing.T) {
	full, one := wideMap(api.MaxNodes), dict("k", num(1))
	last := len(full.Keys) - 1
	changed := clone(full)
	changed.Items[last] = value.Text("new")
	for _, x := range []struct {
		name    string
		v       api.Value
		key     string
		x, want api.Value
		e       api.Errno
	}{
		{"replace in a full map", full, full.Keys[last], value.Text("new"), changed, api.OK},
		{"replace by more nodes", full, full.Keys[last], list(num(1)), api.Value{}, api.ErrSize},
		{"add to a full map", full, "z", num(1), api.Value{}, api.ErrSize},
		{"add to make it full", wideMap(api.MaxNodes - 1), full.Keys[last], num(last), full, api.OK},
		{"greatest depth", one, "k", deep(api.MaxDepth - 1), dict("k", deep(api.MaxDepth-1)), api.OK},
		{"one level more", one, "k", deep(api.MaxDepth), api.Value{}, api.ErrSize},
		{"longest key", dict(""), long(api.MaxText), num(1), dict(long(api.MaxText), num(1)), api.OK},
		{"too long a key", dict(""), long(api.MaxText + 1), num(1), api.Value{}, api.ErrSize},
		{"longest text", one, "k", value.Text(long(api.MaxText)), dict("k", value.Text(long(api.MaxText))), api.OK},
		{"too long a text elsewhere", dict("a k", value.Text(long(api.MaxText+1)), num(1)), "k", num(2), api.Value{}, api.ErrSize},
		{"too long a text is replaced", dict("a k", value.Text(long(api.MaxText+1)), num(1)), "a", num(2), dict("a k", num(2), num(1)), api.OK},
		{"too many nodes are replaced", dict("a k", wide(5000), num(1)), "a", num(2), dict("a k", num(2), num(1)), api.OK},
		{"too many nodes elsewhere", wideMap(api.MaxNodes + 1), full.Keys[last], num(2), api.Value{}, api.ErrSize},
		{"too deep elsewhere", dict("a k", deep(api.MaxDepth), num(1)), "k", num(2), api.Value{}, api.ErrSize},
		{"too long a key elsewhere", dict("a "+long(api.MaxText+1), num(1), num(2)), "a", num(2), api.Value{}, api.ErrSize},
	} {
		got, e := value.Put(x.v, x.key, x.x)
		checkResult(t, x.name, got, e, x.want, x.e)
	}
}

func TestP2_5_Drop(t *testing.T) {
	v := dict("b d f", num(1), list(num(2)), future(3))
	for key, want := range map[string]api.Value{
		"b": dict("d f", list(num(2)), future(3)), "d": dict("b f", num(1), future(3)), "f": dict("b d", num(1), list(num(2))),
	} {
		got, e := value.Drop(v, key)
		checkResult(t, "Drop of "+key, got, e, want, api.OK)
	}
	for _, key := range []string{"", "a", "bb", "c", "e", "g", "B"} {
		got, e := value.Drop(v, key)
		checkResult(t, "Drop of the missing key "+key, got, e, api.Value{}, api.ErrNone)
	}
	got, e := value.Drop(dict("a", num(1)), "a")
	checkResult(t, "Drop of the only key", got, e, api.Value{Kind: api.VMap}, api.OK)
	got, e = value.Drop(dict(""), "")
	checkResult(t, "Drop from the empty map", got, e, api.Value{}, api.ErrNone)
	checkValue(t, "the argument", v, dict("b d f", num(1), list(num(2)), future(3)))
}

func TestP2_5_GetPutAndDropCopy(t *testing.T) {
	checkNewMemory(t, "Get", roomy(), func(v api.Value) api.Value {
		x, _ := value.Get(v, "c")
		return x
	})
	for _, key := range []string{"a", "b", "c", "d", "e", "f"} {
		checkNewMemory(t, "Put of "+key, roomy(), func(v api.Value) api.Value {
			m, _ := value.Put(v, key, num(5))
			return m
		})
		checkNewMemory(t, "Put of an item as "+key, roomy(), func(x api.Value) api.Value {
			m, _ := value.Put(dict("c", num(1)), key, x)
			return m
		})
		checkNewMemory(t, "Drop of "+key, roomy(), func(v api.Value) api.Value {
			m, _ := value.Drop(v, key)
			return m
		})
	}
	v := dict("a", list(num(1), num(2)))
	both, e := value.Put(v, "b", v.Items[0])
	checkResult(t, "Put of an item of the map itself", both, e, dict("a b", list(num(1), num(2)), list(num(1), num(2))), api.OK)
	scribble(both.Items[0])
	checkValue(t, "the second of two equal items", both.Items[1], list(num(1), num(2)))
}

func TestP2_6_Copy(t *testing.T) {
	all := map[string]api.Value{"null": {}, "roomy": roomy(), "future": future(4), "all fields": {
		Kind: 50, Int: -5, Text: "t", Keys: []string{"b", "a", "a"}, Items: []api.Value{num(1), {Kind: -3, Keys: []string{"z"}}},
	}}
	for _, m := range []map[string]api.Value{malformed(), excesses(), atLimits()} {
		for name, v := range m {
			all[name] = v
		}
	}
	for name, v := range all {
		checkValue(t, name, value.Copy(v), v)
		checkNewMemory(t, "Copy of "+name, clone(v), value.Copy)
	}
}

func TestP2_6_CopyOfSharedItems(t *testing.T) {
	x := list(num(1))
	c := value.Copy(list(x, x))
	scribble(c.Items[0])
	checkValue(t, "the second of two items that shared memory", c.Items[1], list(num(1)))
}
