package value_test

import (
	"math"
	"slices"
	"testing"

	"workflow/api"
	"workflow/value"
)

// ladder returns well-formed values in ascending order. Its neighbors differ in one way that P2.4 names.
func ladder() []api.Value {
	l := []api.Value{{}, value.Bool(false), value.Bool(true)}
	for _, n := range []int{math.MinInt, math.MinInt + 1, -65, -1, 0, 1, 2, 63, 64, math.MaxInt - 1, math.MaxInt} {
		l = append(l, num(n))
	}
	for _, s := range []string{"", "\x00", "A", "B", "a", "a\x00", "aa", "ab", "a\xff", "b", "\x7f", "\x80", "\u00e4", "\xff", "\xff\x00"} {
		l = append(l, value.Text(s))
	}
	l = append(l,
		list(), list(api.Value{}), list(api.Value{}, api.Value{}), list(api.Value{}, num(0)), list(value.Bool(false)),
		list(num(0), num(9), num(9)), list(num(1)), list(num(1), num(0)), list(num(1), num(0), num(0)), list(num(1), num(1)), list(num(2)),
		list(value.Text("a")), list(list()), list(list(), num(5)), list(list(num(1)), num(0)), list(list(num(1), num(0))),
		list(list(num(2)), num(0)), list(dict("")), list(dict("a", num(1)), num(1)), list(future(0)), list(future(0), num(0)),
	)
	l = append(l, dict(""))
	empty := api.Value{Kind: api.VMap, Keys: []string{""}, Items: []api.Value{num(5)}}
	l = append(l, empty,
		dict("a", num(1)), dict("a b", num(1), num(1)), dict("a b c", num(1), num(1), num(0)), dict("a b", num(1), num(2)),
		dict("a c", num(1), num(0)), dict("a", num(2)), dict("a b", num(2), num(0)), dict("a", list()), dict("a", list(num(1))),
		dict("a b", list(num(1)), num(0)), dict("a", dict("a", num(1))), dict("a", dict("b", num(0))), dict("a", future(1)),
		dict("aa", num(0)), dict("b", num(0)), dict("b c", num(0), num(0)), dict("b", num(1)), dict("\x80", api.Value{}),
	)
	for _, n := range []int{0, 1, 2, 1000, math.MaxInt} {
		l = append(l, future(n))
	}
	return l
}

func holdsFuture(v api.Value) bool {
	return v.Kind == api.VFuture || slices.ContainsFunc(v.Items, holdsFuture)
}

func checkRight(t *testing.T, name string, v api.Value, want bool) {
	t.Helper()
	if value.Right(v) != want {
		t.Errorf("Right of %s (%s): %v", name, brief(v), !want)
	}
}

func TestP2_3_RightForPayloads(t *testing.T) {
	for _, v := range ladder() {
		checkRight(t, "a well-formed value", v, !holdsFuture(v))
	}
	for name, v := range atLimits() {
		checkRight(t, name+" at its limit", v, true)
	}
	checkRight(t, "roomy", roomy(), true)
	checkRight(t, "empty lists that are not nil", api.Value{Items: []api.Value{}, Keys: []string{}}, true)
	checkRight(t, "a text with empty lists", api.Value{Kind: api.VText, Items: []api.Value{}, Keys: []string{}}, true)
	checkRight(t, "a map with empty lists", api.Value{Kind: api.VMap, Items: []api.Value{}, Keys: []string{}}, true)
}

func TestP2_3_RightForOthers(t *testing.T) {
	for name, v := range malformed() {
		checkRight(t, name, v, false)
	}
	for name, v := range excesses() {
		checkRight(t, name, v, false)
		checkRight(t, name+" in a list", list(v), false)
	}
	for _, v := range []api.Value{future(0), future(1), list(future(0)), list(num(1), future(2)), dict("a b", num(1), future(0)), list(list(dict("a", future(3))))} {
		checkRight(t, "a future", v, false)
	}
}

func TestP2_3_RightLimitsOneByOne(t *testing.T) {
	for n := api.MaxDepth - 2; n <= api.MaxDepth+2; n++ {
		checkRight(t, "lists in each other", deep(n), n <= api.MaxDepth)
		checkRight(t, "maps in each other", deepMap(n), n <= api.MaxDepth)
		checkRight(t, "a deep last item", list(num(1), deep(n-1)), n <= api.MaxDepth)
	}
	for n := api.MaxNodes - 2; n <= api.MaxNodes+2; n++ {
		checkRight(t, "a wide list", wide(n), n <= api.MaxNodes)
		checkRight(t, "a wide map", wideMap(n), n <= api.MaxNodes)
		checkRight(t, "two lists", list(wide(400), wide(n-401)), n <= api.MaxNodes)
	}
	for n := api.MaxText - 2; n <= api.MaxText+2; n++ {
		checkRight(t, "a text", value.Text(long(n)), n <= api.MaxText)
		checkRight(t, "a key", dict("a "+long(n), num(1), num(2)), n <= api.MaxText)
		checkRight(t, "a text inside", dict("a", list(num(1), value.Text(long(n)))), n <= api.MaxText)
		checkRight(t, "a key inside", list(num(1), list(dict(long(n), num(1)))), n <= api.MaxText)
	}
	checkRight(t, "many long texts", list(slices.Repeat([]api.Value{value.Text(long(api.MaxText))}, 50)...), true)
}

func TestP2_3_Same(t *testing.T) {
	var l []api.Value
	l = append(l, ladder()...)
	for _, m := range []map[string]api.Value{misfits(), excesses()} {
		for _, v := range m {
			l = append(l, v)
		}
	}
	for i, a := range l {
		if !value.Same(a, clone(a)) {
			t.Errorf("%s is not the same as its copy", brief(a))
		}
		for k, b := range l {
			if want := i == k || show(a) == show(b); value.Same(a, b) != want {
				t.Errorf("Same of %s and %s: %v", brief(a), brief(b), !want)
			}
		}
	}
}

func TestP2_3_SameComparesEveryField(t *testing.T) {
	v := api.Value{Kind: 9, Int: 5, Text: "t", Keys: []string{"b", "a"}, Items: []api.Value{num(1), {Kind: 1, Keys: []string{"k"}, Items: []api.Value{num(2)}}}}
	for name, change := range map[string]func(x *api.Value){
		"Kind":           func(x *api.Value) { x.Kind = 8 },
		"Int":            func(x *api.Value) { x.Int = 6 },
		"Text":           func(x *api.Value) { x.Text = "s" },
		"a key":          func(x *api.Value) { x.Keys[1] = "c" },
		"order of keys":  func(x *api.Value) { x.Keys = []string{"a", "b"} },
		"fewer keys":     func(x *api.Value) { x.Keys = x.Keys[:1] },
		"more keys":      func(x *api.Value) { x.Keys = append(x.Keys, "") },
		"no keys":        func(x *api.Value) { x.Keys = nil },
		"an item":        func(x *api.Value) { x.Items[0] = num(3) },
		"fewer items":    func(x *api.Value) { x.Items = x.Items[:1] },
		"more items":     func(x *api.Value) { x.Items = append(x.Items, api.Value{}) },
		"no items":       func(x *api.Value) { x.Items = nil },
		"a key inside":   func(x *api.Value) { x.Items[1].Keys[0] = "l" },
		"an item inside": func(x *api.Value) { x.Items[1].Items[0].Int = 3 },
	} {
		w := clone(v)
		if !value.Same(v, w) || !value.Same(w, v) {
			t.Fatal("equal values are not the same")
		}
		change(&w)
		if value.Same(v, w) || value.Same(w, v) || value.Same(list(v), list(w)) {
			t.Errorf("Same does not see a difference: %s", name)
		}
	}
	a := api.Value{Kind: api.VList, Items: []api.Value{}, Keys: []string{}}
	if b := list(); !value.Same(a, b) || !value.Same(b, a) || !value.Same(list(a), list(b)) {
		t.Error("nil and empty lists are not the same")
	}
	if c := clone(roomy()); !value.Same(roomy(), c) || !value.Same(c, roomy()) {
		t.Error("elements behind the length are compared")
	}
}

func TestP2_3_DepthAndSize(t *testing.T) {
	for _, x := range []struct {
		name        string
		v           api.Value
		depth, size int
	}{
		{"null", api.Value{}, 1, 1}, {"int", num(5), 1, 1}, {"text", value.Text("abc"), 1, 1}, {"future", future(3), 1, 1},
		{"empty list", list(), 1, 1}, {"empty map", dict(""), 1, 1},
		{"list", list(num(1), num(2)), 2, 3}, {"map", dict("a b", num(1), num(2)), 2, 3},
		{"deepest item first", list(deep(3), num(2), deep(2)), 4, 7},
		{"deepest item last", list(num(2), deep(2), deep(3)), 4, 7},
		{"deepest item inside", list(num(2), dict("a", deep(3)), deep(2)), 5, 8},
		{"null with items", api.Value{Items: []api.Value{{}, {}}}, 2, 3},
		{"int with items", api.Value{Kind: api.VInt, Items: []api.Value{list(num(1))}}, 3, 3},
		{"unknown kinds", api.Value{Kind: 99, Items: []api.Value{{Kind: -1, Items: []api.Value{{}}}}}, 3, 3},
		{"keys without items", api.Value{Kind: api.VMap, Keys: []string{"a", "b"}}, 1, 1},
		{"items without keys", api.Value{Kind: api.VMap, Items: []api.Value{{}}}, 2, 2},
		{"roomy", roomy(), 3, 6},
		{"over the limit of depth", deep(100), 100, 100},
		{"over the limit of nodes", list(wide(5000), wide(7)), 3, 5008},
	} {
		if d, n := value.Depth(x.v), value.Size(x.v); d != x.depth || n != x.size {
			t.Errorf("%s: depth %d, size %d, want %d, %d", x.name, d, n, x.depth, x.size)
		}
	}
}

func sign(n int) int {
	switch {
	case n < 0:
		return -1
	case n > 0:
		return 1
	}
	return 0
}

func TestP2_4_OrderOfAllPairs(t *testing.T) {
	l := ladder()
	for i, a := range l {
		for k, b := range l {
			want := sign(i - k)
			for name, pair := range map[string][2]api.Value{
				"themselves": {a, b}, "in lists": {list(num(1), a), list(num(1), b)},
				"in maps":               {dict("a", a), dict("a", b)},
				"before other items":    {list(a, num(0), num(5)), list(b, num(0), num(5))},
				"as the second of maps": {dict("a b", num(1), a), dict("a b", num(1), b)},
			} {
				if got := value.Order(pair[0], pair[1]); got != want {
					t.Fatalf("%s, %s and %s: %d, want %d", name, brief(a), brief(b), got, want)
				}
			}
		}
	}
}

func TestP2_4_OrderExamples(t *testing.T) {
	for _, x := range []struct {
		name string
		a, b api.Value
	}{
		{"kinds", num(9), value.Text("")},
		{"kinds at both ends", api.Value{}, future(0)},
		{"empty list", list(), list(api.Value{})},
		{"a shorter list can be greater", list(num(0), num(0)), list(num(1))},
		{"a map with fewer pairs can be greater", dict("a c", num(0), num(0)), dict("b", num(0))},
		{"an item decides before the next key", dict("a c", num(1), num(0)), dict("a b", num(2), num(0))},
		{"a key decides before its item", dict("a", num(2)), dict("b", num(1))},
		{"a key decides before an earlier end", dict("a b", num(1), num(0)), dict("a c", num(1), num(0))},
		{"a longer text can be less", value.Text("aa"), value.Text("b")},
		{"unsigned bytes", value.Text("\x7f"), value.Text("\x80")},
		{"integers far apart", num(math.MinInt), num(math.MaxInt)},
		{"list and map", list(num(9), num(9)), dict("")},
		{"over the limit of depth", deep(40), deep(41)},
		{"over the limit of nodes", wide(2000), wide(2001)},
		{"over the limit of text", value.Text(long(5000)), value.Text(long(5001))},
		{"over the limit of keys", dict(long(5000), num(9)), dict(long(5001), num(1))},
	} {
		if value.Order(x.a, x.b) != -1 || value.Order(x.b, x.a) != 1 || value.Order(x.a, clone(x.a)) != 0 || value.Order(x.b, clone(x.b)) != 0 {
			t.Errorf("%s: %d, %d", x.name, value.Order(x.a, x.b), value.Order(x.b, x.a))
		}
	}
	a := api.Value{Kind: api.VList, Items: []api.Value{}, Keys: []string{}}
	if value.Order(a, list()) != 0 || value.Order(list(a), list(list(), num(1))) != -1 {
		t.Error("nil and empty lists differ")
	}
}

func TestP2_4_OrderOfMalformedValues(t *testing.T) {
	for name, v := range malformed() {
		for _, w := range []api.Value{{}, num(1), list(), list(num(0)), dict(""), dict("zz", num(1)), future(9), v, {Kind: 8}, {Kind: -8}} {
			if value.Order(v, w) != 0 || value.Order(w, v) != 0 {
				t.Errorf("%s and %s: %d, %d", name, brief(w), value.Order(v, w), value.Order(w, v))
			}
		}
		// The malformed part lies behind the first difference.
		if a, b := list(num(1), v), list(num(2), num(1)); value.Order(a, b) != 0 || value.Order(b, a) != 0 {
			t.Errorf("%s behind a difference: %d, %d", name, value.Order(a, b), value.Order(b, a))
		}
	}
}

// numbers is a fixed sequence that looks random.
type numbers struct{ state uint64 }

func (r *numbers) below(n int) int {
	r.state = r.state*6364136223846793005 + 1442695040888963407
	return int(r.state>>33) % n
}

// wellFormed returns a small well-formed value of any kind up to most.
func (r *numbers) wellFormed(depth, most int) api.Value {
	kind := r.below(most + 1)
	if depth == 1 && (kind == api.VList || kind == api.VMap) {
		kind = api.VInt
	}
	v := api.Value{Kind: kind}
	switch kind {
	case api.VBool, api.VFuture:
		v.Int = r.below(2)
	case api.VInt:
		v.Int = r.below(5) - 2
	case api.VText:
		v.Text = []string{"", "a", "b", "ab", "\xff"}[r.below(5)]
	case api.VList:
		for range r.below(4) {
			v.Items = append(v.Items, r.wellFormed(depth-1, most))
		}
	case api.VMap:
		for _, key := range []string{"", "a", "ab", "b"} {
			if r.below(2) == 0 {
				v.Keys, v.Items = append(v.Keys, key), append(v.Items, r.wellFormed(depth-1, most))
			}
		}
	}
	return v
}

func TestP2_10_OrderIsTotal(t *testing.T) {
	r := numbers{state: 7}
	for round := range 40 {
		var l []api.Value
		for range 60 {
			l = append(l, r.wellFormed(1+round%4, api.VFuture))
		}
		slices.SortFunc(l, value.Order)
		for i, a := range l {
			for k, b := range l {
				got := value.Order(a, b)
				if got != -value.Order(b, a) || got != 0 && got != sign(i-k) {
					t.Fatalf("%s and %s: %d", brief(a), brief(b), got)
				}
				if (got == 0) != (show(a) == show(b)) {
					t.Fatalf("%s and %s: %d, but they are different or equal", brief(a), brief(b), got)
				}
			}
		}
	}
}

func TestP2_10_GetAfterPut(t *testing.T) {
	r := numbers{state: 3}
	for range 3000 {
		v := r.wellFormed(3, api.VFuture)
		if v.Kind != api.VMap {
			continue
		}
		key, x := []string{"", "a", "ab", "b", "c"}[r.below(5)], r.wellFormed(3, api.VFuture)
		w, e := value.Put(v, key, x)
		if e != api.OK {
			t.Fatalf("Put: error %d", int(e))
		}
		for _, k := range []string{"", "a", "ab", "b", "c", "d"} {
			want, known := value.Get(v, k)
			if k == key {
				want, known = x, true
			}
			if got, ok := value.Get(w, k); ok != known || show(got) != show(want) {
				t.Fatalf("Get of %q after Put of %q in %s: %s, %v", k, key, brief(v), brief(got), ok)
			}
		}
		// Without the key again, the map has its other pairs only.
		dropped, e := value.Drop(w, key)
		if _, ok := value.Get(dropped, key); e != api.OK || ok || len(dropped.Keys) != len(w.Keys)-1 {
			t.Fatalf("Drop of %q from %s: %s, error %d", key, brief(w), brief(dropped), int(e))
		}
	}
}

func TestP2_10_PutsInEveryOrderGiveTheSameMap(t *testing.T) {
	want := wideMap(6)
	for _, p := range permutations(5) {
		m := value.Null()
		m.Kind = api.VMap
		for _, i := range p {
			var e api.Errno
			if m, e = value.Put(m, want.Keys[i], num(i)); e != api.OK {
				t.Fatalf("Put: error %d", int(e))
			}
		}
		if show(m) != show(want) || value.Order(m, want) != 0 {
			t.Fatalf("order %v: %s", p, brief(m))
		}
	}
}

// The document's bound is 2^16 levels of nesting; the functions that are tested here add two of them.
func TestP2_3_GreatestNesting(t *testing.T) {
	const levels = 1<<16 - 2
	v := deep(levels)
	if value.Right(v) || value.Depth(v) != levels || value.Size(v) != levels {
		t.Errorf("Right %v, depth %d, size %d", value.Right(v), value.Depth(v), value.Size(v))
	}
	if c := value.Copy(v); !value.Same(v, c) || value.Order(v, c) != 0 || value.Order(v, list(c)) != -1 {
		t.Error("Copy, Same or Order of a deep value")
	}
	m := dict("a b", num(1), v)
	if x, ok := value.Get(m, "b"); !ok || value.Depth(x) != levels {
		t.Error("Get of a deep value")
	}
	if x, e := value.Drop(m, "a"); e != api.OK || value.Depth(x) != levels+1 {
		t.Error("Drop beside a deep value")
	}
	if _, e := value.Put(m, "c", v); e != api.ErrSize {
		t.Errorf("Put of a deep value: error %d", int(e))
	}
	if _, e := value.Map([]string{"a"}, []api.Value{v}); e != api.ErrSize {
		t.Errorf("Map of a deep value: error %d", int(e))
	}
	if n := value.Depth(value.Failure("t", value.List([]api.Value{v}))); n != levels+2 {
		t.Errorf("Failure and List of a deep value: depth %d", n)
	}
	if code := value.Encode(nil, v); len(code) != 2*levels {
		t.Errorf("Encode of a deep value: %d bytes", len(code))
	}
}
