package wire_test

import (
	"bytes"
	"math"
	"math/big"
	"slices"
	"strings"
	"testing"

	"workflow/api"
	"workflow/wire"
)

// specEncoding follows the chapter's section 'Encoding' to the letter, so that it shares no shortcut with the package.
func specEncoding(n int) []byte {
	u := new(big.Int).Mul(big.NewInt(int64(n)), big.NewInt(2))
	if n < 0 {
		u.Neg(u).Sub(u, big.NewInt(1))
	}
	var groups []byte
	for base, group := big.NewInt(128), new(big.Int); len(groups) == 0 || u.Sign() > 0; {
		u.DivMod(u, base, group)
		groups = append(groups, byte(group.Int64()))
	}
	for i := range groups[:len(groups)-1] {
		groups[i] += 128
	}
	return groups
}

func specText(s string) []byte {
	return append(specEncoding(len(s)), s...)
}

// integers returns numbers around every power of two, so around every length of an encoding.
func integers() []int {
	l := []int{0, math.MaxInt, math.MaxInt - 1, math.MinInt, math.MinInt + 1}
	for shift := range 63 {
		for d := -2; d <= 2; d++ {
			l = append(l, 1<<shift+d, -(1<<shift)+d)
		}
	}
	for i, n := 0, 1; i < 500; i++ {
		n = n*6364136223846793005 + 1442695040888963407
		l = append(l, n>>(i%64))
	}
	slices.Sort(l)
	return slices.Compact(l)
}

func texts() []string {
	l := []string{"", "a", "ab", "\x00", "\xff\xfe", "\x80\x80", "\u00e4\u20ac"}
	for _, n := range []int{62, 63, 64, 65, 8191, 8192, 8193, 1 << 17} {
		l = append(l, strings.Repeat("x", n))
	}
	return l
}

// continued returns n bytes that announce another group, followed by the bytes of tail.
func continued(n int, c byte, tail ...byte) []byte {
	return append(bytes.Repeat([]byte{c}, n), tail...)
}

func readAnyInt(r *wire.Reader) int {
	return r.Int(math.MinInt, math.MaxInt)
}

func TestP1_1_PutExamples(t *testing.T) {
	for _, x := range []struct {
		n    int
		want []byte
	}{
		{0, []byte{0}}, {-1, []byte{1}}, {1, []byte{2}}, {63, []byte{126}}, {-64, []byte{127}},
		{64, []byte{128, 1}}, {-65, []byte{129, 1}},
		{math.MaxInt, []byte{254, 255, 255, 255, 255, 255, 255, 255, 255, 1}},
		{math.MinInt, []byte{255, 255, 255, 255, 255, 255, 255, 255, 255, 1}},
	} {
		if got := wire.PutInt(nil, x.n); !bytes.Equal(got, x.want) {
			t.Errorf("PutInt(%d) = %v, want %v", x.n, got, x.want)
		}
	}
	if got := wire.PutText(nil, "ab"); !bytes.Equal(got, []byte{4, 97, 98}) {
		t.Errorf("PutText: %v", got)
	}
	if got := wire.PutText(nil, ""); !bytes.Equal(got, []byte{0}) {
		t.Errorf("PutText of the empty string: %v", got)
	}
	if yes, no := wire.PutBool(nil, true), wire.PutBool(nil, false); !bytes.Equal(yes, []byte{1}) || !bytes.Equal(no, []byte{0}) {
		t.Errorf("PutBool: %v, %v", yes, no)
	}
}

func TestP1_1_PutAppendsTheEncoding(t *testing.T) {
	for _, front := range [][]byte{nil, {}, {7}, {128, 0, 255}} {
		check := func(what string, got, encoding []byte) {
			t.Helper()
			if !bytes.Equal(got, slices.Concat(front, encoding)) {
				t.Fatalf("%s behind %v: %v, want %v", what, front, got, encoding)
			}
		}
		for _, n := range integers() {
			check("an integer", wire.PutInt(front, n), specEncoding(n))
		}
		for _, s := range texts() {
			check("a text", wire.PutText(front, s), specText(s))
		}
		check("true", wire.PutBool(front, true), []byte{1})
		check("false", wire.PutBool(front, false), []byte{0})
	}
}

func TestP1_1_EveryLengthFromOneToTen(t *testing.T) {
	seen := map[int]bool{}
	for _, n := range integers() {
		seen[len(wire.PutInt(nil, n))] = true
	}
	for k := 1; k <= 10; k++ {
		if !seen[k] {
			t.Errorf("no encoding of %d bytes", k)
		}
	}
	if len(seen) != 10 {
		t.Errorf("lengths: %v", seen)
	}
}

func TestP1_1_ResultIsNewMemory(t *testing.T) {
	puts := map[string]func(b []byte) []byte{
		"PutInt":       func(b []byte) []byte { return wire.PutInt(b, -65) },
		"PutText":      func(b []byte) []byte { return wire.PutText(b, "ab") },
		"PutEmptyText": func(b []byte) []byte { return wire.PutText(b, "") },
		"PutBool":      func(b []byte) []byte { return wire.PutBool(b, true) },
	}
	for name, put := range puts {
		whole := []byte{1, 2, 3, 9, 9, 9, 9, 9, 9, 9, 9, 9, 9, 9, 9, 9}
		before := slices.Clone(whole)
		first := put(whole[:3])
		if !bytes.Equal(whole, before) {
			t.Errorf("%s wrote into the capacity of its argument: %v", name, whole)
		}
		want := slices.Clone(first)
		second := put(whole[:3])
		clear(second[:cap(second)])
		clear(whole)
		if !bytes.Equal(first, want) {
			t.Errorf("%s shares memory with its argument or another result", name)
		}
		clear(first)
		if again := put(before[:3]); !bytes.Equal(again, want) || !bytes.Equal(before[:3], []byte{1, 2, 3}) {
			t.Errorf("%s depends on earlier calls: %v", name, again)
		}
	}
}

func TestP1_2_OpenReadsFromTheFront(t *testing.T) {
	b := wire.PutBool(wire.PutText(wire.PutInt(nil, -300), "name"), true)
	r := wire.Open(b)
	if r == nil || r.Err() != api.OK || r.Left() != len(b) {
		t.Fatalf("at first: %v, %d left", r.Err(), r.Left())
	}
	if n := r.Int(-300, 300); n != -300 || r.Left() != 6 {
		t.Errorf("Int: %d, %d left", n, r.Left())
	}
	if s := r.Text(4); s != "name" || r.Left() != 1 {
		t.Errorf("Text: %q, %d left", s, r.Left())
	}
	if !r.Bool() || r.Left() != 0 || r.Err() != api.OK || r.End() != api.OK {
		t.Errorf("Bool: %v, %d left", r.Err(), r.Left())
	}
}

func TestP1_2_OpenOfNoBytes(t *testing.T) {
	for _, b := range [][]byte{nil, {}} {
		if r := wire.Open(b); r == nil || r.Err() != api.OK || r.Left() != 0 || r.End() != api.OK {
			t.Errorf("Open(%v) is not an empty reader", b)
		}
	}
}

func TestP1_2_OpenReadsACopy(t *testing.T) {
	b := []byte{4, 97, 98, 1}
	r, other := wire.Open(b), wire.Open(b)
	clear(b)
	if s := r.Text(2); s != "ab" || !r.Bool() || r.Err() != api.OK {
		t.Errorf("a change of the argument is seen: %q, %v", s, r.Err())
	}
	if other.Left() != 4 || other.Text(2) != "ab" {
		t.Error("two readers of the same bytes are not independent")
	}

	b = []byte{4, 97, 98, 1}
	r = wire.Open(b)
	_ = r.Text(2)
	if !bytes.Equal(b, []byte{4, 97, 98, 1}) {
		t.Errorf("reading changed the argument: %v", b)
	}
}

func TestP1_2_OpenIgnoresTheCapacity(t *testing.T) {
	r := wire.Open([]byte{128, 1, 2, 3}[:1])
	if r.Left() != 1 {
		t.Errorf("%d left", r.Left())
	}
	if n := readAnyInt(r); n != 0 || r.Err() != api.ErrShort {
		t.Errorf("Int: %d, %v", n, r.Err())
	}
}

func checkInt(t *testing.T, b []byte, low, high, want int, e api.Errno) {
	t.Helper()
	r := wire.Open(b)
	if n := r.Int(low, high); n != want || r.Err() != e {
		t.Errorf("Int(%d, %d) of %v = %d, error %d, want %d, error %d", low, high, b, n, int(r.Err()), want, int(e))
	}
}

func TestP1_3_IntTakesExactlyItsBytes(t *testing.T) {
	for _, n := range integers() {
		encoding := specEncoding(n)
		for _, tail := range [][]byte{nil, {0}, {127}, {128}, {255, 255, 255, 255, 255, 255, 255, 255, 255, 255, 255}} {
			r := wire.Open(slices.Concat(encoding, tail))
			if got := readAnyInt(r); got != n || r.Err() != api.OK || r.Left() != len(tail) {
				t.Fatalf("%v then %v: %d, error %d, %d left", encoding, tail, got, int(r.Err()), r.Left())
			}
		}
	}
}

func TestP1_3_IntThatEndsTooEarly(t *testing.T) {
	for left := range 10 {
		for _, c := range []byte{128, 129, 255} {
			checkInt(t, continued(left, c), math.MinInt, math.MaxInt, 0, api.ErrShort)
		}
	}
	for _, n := range []int{64, 8192, math.MaxInt, math.MinInt} {
		whole := specEncoding(n)
		for k := range whole {
			checkInt(t, whole[:k], math.MinInt, math.MaxInt, 0, api.ErrShort)
		}
	}
}

func TestP1_3_IntWithoutALastByte(t *testing.T) {
	for _, c := range []byte{128, 129, 255} {
		checkInt(t, continued(10, c), math.MinInt, math.MaxInt, 0, api.ErrForm)
		checkInt(t, continued(10, c, 0), math.MinInt, math.MaxInt, 0, api.ErrForm)
		checkInt(t, continued(10, c, 1), math.MinInt, math.MaxInt, 0, api.ErrForm)
		checkInt(t, continued(30, c), math.MinInt, math.MaxInt, 0, api.ErrForm)
	}
}

func TestP1_3_IntWithASuperfluousGroup(t *testing.T) {
	checkInt(t, []byte{0}, math.MinInt, math.MaxInt, 0, api.OK)
	for k := 2; k <= 10; k++ {
		for _, c := range []byte{128, 129, 255} {
			checkInt(t, continued(k-1, c, 0), math.MinInt, math.MaxInt, 0, api.ErrForm)
			checkInt(t, continued(k-1, c, 0, 1), math.MinInt, math.MaxInt, 0, api.ErrForm)
		}
	}
}

func TestP1_3_IntWithATooGreatTenthByte(t *testing.T) {
	checkInt(t, continued(9, 128, 1), math.MinInt, math.MaxInt, 1<<62, api.OK)
	checkInt(t, continued(9, 255, 1), math.MinInt, math.MaxInt, math.MinInt, api.OK)
	for c := byte(2); c < 128; c++ {
		checkInt(t, continued(9, 128, c), math.MinInt, math.MaxInt, 0, api.ErrForm)
		checkInt(t, continued(9, 255, c), math.MinInt, math.MaxInt, 0, api.ErrForm)
	}
	// Only the tenth byte is limited: a ninth one may be as great as 127.
	checkInt(t, continued(8, 128, 127), math.MinInt, math.MaxInt, 127<<55, api.OK)
}

func TestP1_3_IntOutsideItsRange(t *testing.T) {
	for _, x := range []struct {
		n, low, high int
		e            api.Errno
	}{
		{5, 5, 5, api.OK}, {5, 0, 5, api.OK}, {5, 5, 9, api.OK},
		{5, 6, 9, api.ErrRange}, {5, 0, 4, api.ErrRange}, {-5, -4, 4, api.ErrRange}, {-5, -9, -6, api.ErrRange},
		{-5, -5, -5, api.OK}, {0, 1, 9, api.ErrRange}, {0, -9, -1, api.ErrRange},
		{1, 5, 1, api.ErrRange}, {5, 5, 1, api.ErrRange}, {3, 5, 1, api.ErrRange}, {0, math.MaxInt, math.MinInt, api.ErrRange},
		{math.MinInt, math.MinInt, math.MinInt, api.OK}, {math.MaxInt, math.MaxInt, math.MaxInt, api.OK},
		{math.MinInt, math.MinInt + 1, math.MaxInt, api.ErrRange}, {math.MaxInt, math.MinInt, math.MaxInt - 1, api.ErrRange},
	} {
		want := x.n
		if x.e != api.OK {
			want = 0
		}
		checkInt(t, specEncoding(x.n), x.low, x.high, want, x.e)
		checkInt(t, append(specEncoding(x.n), 0), x.low, x.high, want, x.e)
	}
}

func TestP1_3_FormAndLengthAreCheckedBeforeTheRange(t *testing.T) {
	checkInt(t, []byte{128, 0}, 5, 1, 0, api.ErrForm)
	checkInt(t, continued(9, 128, 2), 5, 1, 0, api.ErrForm)
	checkInt(t, continued(10, 128), 5, 1, 0, api.ErrForm)
	checkInt(t, continued(9, 128), 5, 1, 0, api.ErrShort)
	checkInt(t, nil, 5, 1, 0, api.ErrShort)
}

func checkText(t *testing.T, b []byte, most int, want string, e api.Errno) {
	t.Helper()
	r := wire.Open(b)
	if s := r.Text(most); s != want || r.Err() != e {
		t.Errorf("Text(%d) of %v = %q, error %d, want %q, error %d", most, b, s, int(r.Err()), want, int(e))
	}
}

func TestP1_4_Text(t *testing.T) {
	for _, s := range texts() {
		encoding := specText(s)
		for _, most := range []int{len(s), len(s) + 1, math.MaxInt} {
			r := wire.Open(append(slices.Clone(encoding), 130, 7))
			if got := r.Text(most); got != s || r.Err() != api.OK || r.Left() != 2 {
				t.Fatalf("a text of %d bytes: %d bytes, error %d, %d left", len(s), len(got), int(r.Err()), r.Left())
			}
		}
		checkText(t, encoding, len(s)-1, "", api.ErrRange)
		checkText(t, encoding[:len(encoding)-1], math.MaxInt, "", api.ErrShort)
	}
}

func TestP1_4_TextErrors(t *testing.T) {
	for _, x := range []struct {
		b    []byte
		most int
		e    api.Errno
	}{
		{nil, 9, api.ErrShort}, {[]byte{128}, 9, api.ErrShort}, {[]byte{4}, 9, api.ErrShort}, {[]byte{4, 97}, 9, api.ErrShort},
		{[]byte{4, 97}, 2, api.ErrShort},
		{[]byte{4, 97}, 1, api.ErrRange}, {[]byte{4, 97, 98}, 1, api.ErrRange}, {[]byte{2, 97}, 0, api.ErrRange},
		{[]byte{0}, -1, api.ErrRange}, {[]byte{0}, math.MinInt, api.ErrRange},
		{[]byte{1, 97}, 9, api.ErrRange}, {specEncoding(math.MinInt), math.MaxInt, api.ErrRange},
		{[]byte{132, 0, 97, 98}, 9, api.ErrForm}, {[]byte{128, 0}, -1, api.ErrForm},
		{continued(10, 128, 0), 9, api.ErrForm}, {continued(9, 128, 2), 9, api.ErrForm},
		{specEncoding(math.MaxInt), math.MaxInt, api.ErrShort}, {specEncoding(1 << 40), 1 << 40, api.ErrShort},
	} {
		checkText(t, x.b, x.most, "", x.e)
	}
}

func TestP1_4_Bool(t *testing.T) {
	for c := range 256 {
		r := wire.Open([]byte{byte(c), 9})
		yes := r.Bool()
		switch {
		case c <= 1 && (yes != (c == 1) || r.Err() != api.OK || r.Left() != 1):
			t.Errorf("byte %d: %v, error %d, %d left", c, yes, int(r.Err()), r.Left())
		case c > 1 && (yes || r.Err() != api.ErrForm):
			t.Errorf("byte %d: %v, error %d", c, yes, int(r.Err()))
		}
	}
	if r := wire.Open(nil); r.Bool() || r.Err() != api.ErrShort {
		t.Errorf("no byte: error %d", int(r.Err()))
	}
}

func checkStuck(t *testing.T, name string, r *wire.Reader, e api.Errno) {
	t.Helper()
	for range 2 {
		if r.Err() != e || r.End() != e || r.Left() != 0 {
			t.Errorf("%s: error %d, End %d, %d left, want error %d", name, int(r.Err()), int(r.End()), r.Left(), int(e))
		}
		if n, s, yes := r.Int(-99, 99), r.Text(99), r.Bool(); n != 0 || s != "" || yes {
			t.Errorf("%s: values after the error: %d, %q, %v", name, n, s, yes)
		}
		r.Fail(api.ErrArg)
		r.Fail(api.OK)
	}
}

func TestP1_5_TheFirstErrorIsKept(t *testing.T) {
	readable := []byte{1, 1, 2, 97, 1, 1, 1, 1}
	for _, x := range []struct {
		name string
		b    []byte
		fail func(r *wire.Reader)
		e    api.Errno
	}{
		{"Int, no byte", nil, func(r *wire.Reader) { r.Int(0, 9) }, api.ErrShort},
		{"Int, short", continued(9, 129), func(r *wire.Reader) { r.Int(0, 9) }, api.ErrShort},
		{"Int, form", append([]byte{128, 0}, readable...), func(r *wire.Reader) { r.Int(0, 9) }, api.ErrForm},
		{"Int, range", append([]byte{40}, readable...), func(r *wire.Reader) { r.Int(0, 9) }, api.ErrRange},
		{"Text, range", append([]byte{40}, readable...), func(r *wire.Reader) { _ = r.Text(9) }, api.ErrRange},
		{"Text, short", append([]byte{40}, readable...), func(r *wire.Reader) { _ = r.Text(20) }, api.ErrShort},
		{"Text, form", append([]byte{128, 0}, readable...), func(r *wire.Reader) { _ = r.Text(9) }, api.ErrForm},
		{"Bool, no byte", nil, func(r *wire.Reader) { r.Bool() }, api.ErrShort},
		{"Bool, form", append([]byte{2}, readable...), func(r *wire.Reader) { r.Bool() }, api.ErrForm},
		{"Fail", readable, func(r *wire.Reader) { r.Fail(api.ErrSum) }, api.ErrSum},
		{"Fail after a value", readable, func(r *wire.Reader) { r.Int(-9, 9); r.Fail(api.ErrDepth) }, api.ErrDepth},
		{"Fail twice", readable, func(r *wire.Reader) { r.Fail(api.ErrTwice); r.Fail(api.ErrSum) }, api.ErrTwice},
		{"Fail after an error", nil, func(r *wire.Reader) { r.Bool(); r.Fail(api.ErrSum) }, api.ErrShort},
		{"Fail with ErrNil", readable, func(r *wire.Reader) { r.Fail(api.ErrNil) }, api.ErrNil},
		{"Fail with an unknown code", readable, func(r *wire.Reader) { r.Fail(api.Errno(-7)) }, api.Errno(-7)},
	} {
		r := wire.Open(x.b)
		x.fail(r)
		checkStuck(t, x.name, r, x.e)
	}
}

func TestP1_5_FailWithOKHasNoEffect(t *testing.T) {
	r := wire.Open([]byte{14, 1})
	r.Fail(api.OK)
	if r.Err() != api.OK || r.Left() != 2 || r.Int(0, 9) != 7 {
		t.Errorf("error %d, %d left", int(r.Err()), r.Left())
	}
	r.Fail(api.OK)
	r.Fail(api.ErrSum)
	r.Fail(api.OK)
	checkStuck(t, "Fail with OK", r, api.ErrSum)
}

func TestP1_6_End(t *testing.T) {
	r := wire.Open([]byte{14, 1})
	for _, left := range []int{2, 1, 0} {
		want := api.ErrForm
		if left == 0 {
			want = api.OK
		}
		for range 2 {
			if r.End() != want || r.Err() != api.OK || r.Left() != left {
				t.Errorf("%d bytes left: End %d, error %d, Left %d", left, int(r.End()), int(r.Err()), r.Left())
			}
		}
		switch left {
		case 2:
			if n := r.Int(0, 9); n != 7 {
				t.Errorf("Int after End: %d", n)
			}
		case 1:
			if !r.Bool() {
				t.Error("Bool after End")
			}
		}
	}
	r.Bool()
	if r.End() != api.ErrShort || r.Err() != api.ErrShort {
		t.Errorf("End after an error: %d", int(r.End()))
	}

	r = wire.Open([]byte{2, 0, 0})
	r.Bool()
	r.Fail(api.ErrSum)
	if r.End() != api.ErrForm {
		t.Errorf("End with bytes left after ErrForm: %d", int(r.End()))
	}
	r = wire.Open([]byte{2, 0, 0})
	r.Fail(api.ErrSum)
	if r.End() != api.ErrSum {
		t.Errorf("End with bytes left after ErrSum: %d", int(r.End()))
	}
}

func TestP1_7_ReadersThatOpenDidNotReturn(t *testing.T) {
	for name, r := range map[string]*wire.Reader{"nil": nil, "literal": {}, "new": new(wire.Reader)} {
		checkStuck(t, name, r, api.ErrNil)
		r.Fail(api.ErrSum)
		checkStuck(t, name+" after Fail", r, api.ErrNil)
	}
}

func TestP1_8_IntegersAreReadBack(t *testing.T) {
	for _, n := range integers() {
		low, high := max(n, math.MinInt+3)-3, min(n, math.MaxInt-3)+3
		for _, x := range [][2]int{{n, n}, {low, n}, {n, high}, {low, high}, {math.MinInt, math.MaxInt}} {
			for _, tail := range []string{"", "\x00", "\x80", "\xff\x00", "tail"} {
				r := wire.Open(append(wire.PutInt(nil, n), tail...))
				if got := r.Int(x[0], x[1]); got != n || r.Err() != api.OK || r.Left() != len(tail) {
					t.Fatalf("%d in %v: %d, error %d", n, x, got, int(r.Err()))
				}
			}
		}
	}
}

func TestP1_8_TextsAndBooleansAreReadBack(t *testing.T) {
	for _, s := range texts() {
		for _, tail := range []string{"", "\x00", "\x80", s} {
			r := wire.Open(append(wire.PutText(nil, s), tail...))
			if got := r.Text(len(s)); got != s || r.Err() != api.OK || r.Left() != len(tail) {
				t.Fatalf("a text of %d bytes: %d bytes, error %d", len(s), len(got), int(r.Err()))
			}
		}
	}
	for _, yes := range []bool{false, true} {
		for _, tail := range []string{"", "\x00", "\x01", "\xff"} {
			r := wire.Open(append(wire.PutBool(nil, yes), tail...))
			if got := r.Bool(); got != yes || r.Err() != api.OK || r.Left() != len(tail) {
				t.Errorf("%v then %q: %v, error %d", yes, tail, got, int(r.Err()))
			}
		}
	}
}

func TestP1_8_AMixedSequenceIsReadBack(t *testing.T) {
	var b []byte
	for i, n := range integers() {
		b = wire.PutBool(wire.PutText(wire.PutInt(b, n), strings.Repeat("y", i%70)), i%3 == 0)
	}
	r := wire.Open(b)
	for i, n := range integers() {
		if r.Int(n, n) != n || r.Text(70) != strings.Repeat("y", i%70) || r.Bool() != (i%3 == 0) {
			t.Fatalf("element %d: error %d", i, int(r.Err()))
		}
	}
	if r.End() != api.OK {
		t.Errorf("End: %d", int(r.End()))
	}
}

// checkCanonical reads b in each way and encodes what was read.
func checkCanonical(t *testing.T, b []byte) {
	t.Helper()
	check := func(what string, r *wire.Reader, encoding []byte) {
		if r.Err() == api.OK && !bytes.Equal(encoding, b[:len(b)-r.Left()]) {
			t.Fatalf("%s of %v is encoded as %v, with %d bytes left", what, b, encoding, r.Left())
		}
	}
	r := wire.Open(b)
	check("Int", r, wire.PutInt(nil, readAnyInt(r)))
	r = wire.Open(b)
	check("Text", r, wire.PutText(nil, r.Text(math.MaxInt)))
	r = wire.Open(b)
	check("Bool", r, wire.PutBool(nil, r.Bool()))
}

func TestP1_9_WhatIsReadIsTheEncoding(t *testing.T) {
	checkCanonical(t, nil)
	for n := range 1 << 16 {
		checkCanonical(t, []byte{byte(n)})
		checkCanonical(t, []byte{byte(n), byte(n >> 8)})
	}
	corners := []byte{0, 1, 2, 4, 127, 128, 129, 132, 255}
	for n := range 9 * 9 * 9 * 9 * 9 {
		b := make([]byte, 5)
		for i := range b {
			b[i] = corners[n%9]
			n /= 9
		}
		checkCanonical(t, b)
	}
	for k := range 12 {
		for _, c := range []byte{128, 129, 255} {
			for last := range 256 {
				checkCanonical(t, continued(k, c, byte(last)))
				checkCanonical(t, continued(k, c, byte(last), 0))
			}
		}
	}
}

func TestP1_9_NoEncodingIsAPrefixOfAnother(t *testing.T) {
	var l [][]byte
	for _, n := range integers() {
		l = append(l, wire.PutInt(nil, n))
	}
	for n := -20000; n < 20000; n++ {
		l = append(l, wire.PutInt(nil, n))
	}
	// In this order a prefix directly precedes some encoding that it begins.
	slices.SortFunc(l, bytes.Compare)
	l = slices.CompactFunc(l, bytes.Equal)
	for i := 1; i < len(l); i++ {
		if bytes.HasPrefix(l[i], l[i-1]) {
			t.Fatalf("%v is a prefix of %v", l[i-1], l[i])
		}
	}
}

func TestP1_9_DifferentIntegersHaveDifferentEncodings(t *testing.T) {
	seen := map[string]int{}
	for _, n := range integers() {
		key := string(wire.PutInt(nil, n))
		if other, ok := seen[key]; ok {
			t.Errorf("%d and %d have the same encoding", n, other)
		}
		seen[key] = n
	}
}
