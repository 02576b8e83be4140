package name_test

import (
	"math"
	"math/big"
	"slices"
	"strconv"
	"strings"
	"testing"

	"workflow/api"
	"workflow/name"
)

const (
	firsts = "ABCDEFGHIJKLMNOPQRSTUVWXYZ_abcdefghijklmnopqrstuvwxyz"
	laters = firsts + "0123456789"
)

// bytesOf returns the 256 strings of one byte.
func bytesOf() []string {
	var l []string
	for c := range 256 {
		l = append(l, string([]byte{byte(c)}))
	}
	return l
}

// numbers returns numbers of at least 1: the first ones, and those around every power of two and of ten.
func numbers() []int {
	var l []int
	for n := range 2000 {
		l = append(l, n+1)
	}
	for shift := range 63 {
		l = append(l, 1<<shift, 1<<shift+1, 1<<shift-1)
	}
	for ten := 10; ten <= math.MaxInt/10; ten *= 10 {
		l = append(l, ten-1, ten, ten+1, ten*9+9)
	}
	l = append(l, math.MaxInt-1, math.MaxInt)
	l = slices.DeleteFunc(l, func(n int) bool { return n < 1 })
	slices.Sort(l)
	return slices.Compact(l)
}

// wantNumber computes with numbers of any size and looks at every byte, which the package itself does not do.
func wantNumber(run string) (int, bool) {
	if len(run) < 2 || run[0] != 'r' || run[1] < '1' || run[1] > '9' || strings.Trim(run[1:], "0123456789") != "" {
		return 0, false
	}
	n, _ := new(big.Int).SetString(run[1:], 10)
	if !n.IsInt64() {
		return 0, false
	}
	return int(n.Int64()), true
}

func checkNumber(t *testing.T, run string, want int, found bool) {
	t.Helper()
	if n, ok := name.Number(run); n != want || ok != found {
		t.Errorf("Number(%.80q) = %d, %t, want %d, %t", run, n, ok, want, found)
	}
}

func checkNoNumber(t *testing.T, runs ...string) {
	t.Helper()
	for _, run := range runs {
		checkNumber(t, run, 0, false)
	}
}

func checkSplit(t *testing.T, key, workflow, run string, found bool) {
	t.Helper()
	if w, r, ok := name.Split(key); w != workflow || r != run || ok != found {
		t.Errorf("Split(%.80q) = %.80q, %.80q, %t, want %.80q, %.80q, %t", key, w, r, ok, workflow, run, found)
	}
}

func TestP6_1_RightExamples(t *testing.T) {
	for _, x := range []struct {
		s    string
		want bool
	}{
		{"_a1", true}, {"1a", false}, {"", false}, {"a-b", false},
		{"a", true}, {"z", true}, {"A", true}, {"Z", true}, {"_", true}, {"__", true}, {"_0", true}, {"a9", true}, {"r12", true},
		{"order", true}, {"Order_7", true}, {"func", true}, {"true", true}, {"camelCase0_", true},
		{"0", false}, {"9", false}, {"09", false}, {"1_", false}, {" a", false}, {"a ", false}, {"a b", false}, {"a\n", false},
		{"a/b", false}, {"/", false}, {"a.b", false}, {"a#1", false}, {"\"a\"", false}, {"'a'", false}, {"a\x00", false}, {"\x00", false},
		{"\u00e4", false}, {"a\u00e4", false}, {"\u00e4a", false}, {"\u03b1", false}, {"a\u0660", false}, {"\uff41", false},
		{"\xff", false}, {"a\xff", false}, {"a\x80b", false}, {"\xc3", false},
	} {
		if got := name.Right(x.s); got != x.want {
			t.Errorf("Right(%q) = %t, want %t", x.s, got, x.want)
		}
	}
}

func TestP6_1_RightByItsFirstByte(t *testing.T) {
	for _, c := range bytesOf() {
		want := strings.Contains(firsts, c)
		for _, rest := range []string{"", "a", "0", "_Z9", strings.Repeat("x", api.MaxName-1)} {
			if got := name.Right(c + rest); got != want {
				t.Errorf("Right(%q) = %t, want %t", c+rest, got, want)
			}
		}
	}
}

func TestP6_1_RightByALaterByte(t *testing.T) {
	for _, c := range bytesOf() {
		want := strings.Contains(laters, c)
		for before := 1; before < api.MaxName; before++ {
			for _, behind := range []int{0, 1, api.MaxName - 1 - before} {
				s := strings.Repeat("a", before) + c + strings.Repeat("b", behind)
				if got := name.Right(s); got != want && len(s) <= api.MaxName {
					t.Fatalf("Right(%q) = %t, want %t", s, got, want)
				}
			}
		}
	}
}

func TestP6_1_RightByTwoBytes(t *testing.T) {
	for _, c := range bytesOf() {
		for _, d := range bytesOf() {
			want := strings.Contains(firsts, c) && strings.Contains(laters, d)
			if got := name.Right(c + d); got != want {
				t.Fatalf("Right(%q) = %t, want %t", c+d, got, want)
			}
		}
	}
}

func TestP6_1_RightByLength(t *testing.T) {
	for n := range 3 * api.MaxName {
		want := 1 <= n && n <= api.MaxName
		if got := name.Right(strings.Repeat("a", n)); got != want {
			t.Errorf("Right of %d letters = %t, want %t", n, got, want)
		}
		if got := name.Right("_" + strings.Repeat("0", n)); got != (n < api.MaxName) {
			t.Errorf("Right of an underscore and %d digits = %t", n, got)
		}
	}
	for _, n := range []int{256, 257, 256 + api.MaxName, 1 << 16, 1<<16 + 1, 1 << 20} {
		if name.Right(strings.Repeat("a", n)) {
			t.Errorf("Right of %d letters = true", n)
		}
	}
}

// TestP6_1_RightCountsBytes has strings of at most MaxName runes and of more bytes.
func TestP6_1_RightCountsBytes(t *testing.T) {
	for _, s := range []string{"\u00e4", "a\u00e4", strings.Repeat("\u00e4", api.MaxName/2), strings.Repeat("\u00e4", api.MaxName)} {
		if name.Right(s) {
			t.Errorf("Right(%q) = true", s)
		}
	}
}

func TestP6_1_RunExamples(t *testing.T) {
	for _, x := range []struct {
		n    int
		want string
	}{
		{3, "r3"}, {1, "r1"}, {2, "r2"}, {9, "r9"}, {10, "r10"}, {11, "r11"}, {99, "r99"}, {100, "r100"}, {101, "r101"}, {1234567890, "r1234567890"},
		{1 << 31, "r2147483648"}, {1<<32 - 1, "r4294967295"}, {1 << 32, "r4294967296"}, {1 << 53, "r9007199254740992"}, {1<<53 + 1, "r9007199254740993"},
		{math.MaxInt - 1, "r9223372036854775806"}, {math.MaxInt, "r9223372036854775807"},
	} {
		if got := name.Run(x.n); got != x.want {
			t.Errorf("Run(%d) = %q, want %q", x.n, got, x.want)
		}
	}
}

func TestP6_1_RunIsDecimal(t *testing.T) {
	for _, n := range numbers() {
		if got, want := name.Run(n), "r"+big.NewInt(int64(n)).String(); got != want {
			t.Errorf("Run(%d) = %q, want %q", n, got, want)
		}
	}
}

func TestP6_1_RunBelowOne(t *testing.T) {
	for _, n := range []int{0, -1, -2, -3, -9, -10, -100, -(1 << 31), -(1 << 32), -(1 << 32) + 1, -(1 << 62), math.MinInt + 1, math.MinInt} {
		if got := name.Run(n); got != "" {
			t.Errorf("Run(%d) = %q, want the empty string", n, got)
		}
	}
}

func TestP6_1_NumberExamples(t *testing.T) {
	checkNumber(t, "r12", 12, true)
	checkNumber(t, "r1", 1, true)
	checkNumber(t, "r9", 9, true)
	checkNumber(t, "r10", 10, true)
	checkNumber(t, "r100", 100, true)
	checkNumber(t, "r1234567890", 1234567890, true)
	checkNumber(t, "r4294967297", 1<<32+1, true)
	checkNoNumber(t, "r012", "r0", "r01", "3")
}

func TestP6_1_NumberWithoutDigits(t *testing.T) {
	checkNoNumber(t, "", "r", "rr", "R", "run", "rx", "r-", "r+", "r ", "r.", "r_", "r/", "r\x00", "r\xff")
}

func TestP6_1_NumberWithoutR(t *testing.T) {
	checkNoNumber(t, "1", "3", "12", "0", "-1", "9223372036854775807", "R1", "s1", "q1", "1r", "12r", "x", "order", " r1", "\tr1", "\nr1",
		"\x00r1", "/r1", "-r1", "+r1", "0r1", "1r1", "rr1", "r r1", "rR1", "run1", "\u00e41", "\xf21", "\xff1")
	for _, c := range bytesOf() {
		if c == "r" {
			checkNumber(t, c+"12", 12, true)
		} else {
			checkNoNumber(t, c+"12")
		}
	}
}

func TestP6_1_NumberWithLeadingZeros(t *testing.T) {
	checkNoNumber(t, "r0", "r00", "r01", "r001", "r010", "r0000000000000000001", "r00000000000000000000", "r09223372036854775807",
		"r0x1", "r0x10", "r0b1", "r0o7", "r"+strings.Repeat("0", 1000)+"1")
}

func TestP6_1_NumberWithSigns(t *testing.T) {
	checkNoNumber(t, "r-1", "r+1", "r-0", "r+0", "r--1", "r++1", "r+-1", "r-9223372036854775808", "r+9223372036854775807", "r1-", "r1+", "r1-2", "r1+2",
		"r\u22121")
}

func TestP6_1_NumberWithBlanks(t *testing.T) {
	checkNoNumber(t, "r 1", "r1 ", " r1", "r1 2", "r\t1", "r1\t", "r\n1", "r1\n", "r1\r", "r1\r\n", "r1\v", "r1\f", "r\u00a01", "r1\u00a0", "r1\u0085")
}

func TestP6_1_NumberWithOtherNotations(t *testing.T) {
	checkNoNumber(t, "r1_000", "r1,000", "r1.0", "r1.", "r.1", "r1e3", "r1E3", "r1e0", "rx1", "r1x", "r1f", "ra", "rA", "r1'000", "r1/2", "r1r2", "r1/",
		"rInf", "rNaN", "r\u0661", "r\uff11", "r1\u0662", "r\u00b9", "r1\u00b2")
}

func TestP6_1_NumberWithAByteBehindIt(t *testing.T) {
	for _, c := range bytesOf() {
		isDigit := strings.Contains("0123456789", c)
		for _, n := range []int{1, 9, 12, 1 << 31} {
			want := 0
			if isDigit {
				want = n*10 + int(c[0]-'0')
			}
			checkNumber(t, "r"+strconv.Itoa(n)+c, want, isDigit)
		}
	}
}

// TestP6_1_NumberWithAnotherByte puts every byte at every place of an identifier.
func TestP6_1_NumberWithAnotherByte(t *testing.T) {
	for _, run := range []string{"r1", "r12", "r907", "r4294967296", "r9223372036854775807", "r9223372036854775799"} {
		for at := range len(run) + 1 {
			for _, c := range bytesOf() {
				changed := run[:at] + c + run[min(at+1, len(run)):]
				want, found := wantNumber(changed)
				checkNumber(t, changed, want, found)
				longer := run[:at] + c + run[at:]
				want, found = wantNumber(longer)
				checkNumber(t, longer, want, found)
			}
			shorter := run[:at] + run[min(at+1, len(run)):]
			want, found := wantNumber(shorter)
			checkNumber(t, shorter, want, found)
		}
	}
}

func TestP6_1_NumberAroundTheGreatest(t *testing.T) {
	checkNumber(t, "r9223372036854775806", math.MaxInt-1, true)
	checkNumber(t, "r9223372036854775807", math.MaxInt, true)
	checkNumber(t, "r999999999999999999", 999999999999999999, true)
	checkNumber(t, "r1000000000000000000", 1000000000000000000, true)
	checkNoNumber(t, "r9223372036854775808", "r9223372036854775809", "r9223372036854775810", "r9223372036854775899", "r9223372036854776000",
		"r9999999999999999999", "r10000000000000000000")
}

// TestP6_1_NumberFarAboveTheGreatest has numbers that an integer of 64 bits would wrap around, some of them to small numbers.
func TestP6_1_NumberFarAboveTheGreatest(t *testing.T) {
	checkNoNumber(t, "r18446744073709551614", "r18446744073709551615", "r18446744073709551616", "r18446744073709551617", "r18446744073709551628",
		"r36893488147419103233", "r184467440737095516161", "r340282366920938463463374607431768211457", "r92233720368547758070", "r100000000000000000001",
		"r"+strings.Repeat("9", 100), "r1"+strings.Repeat("0", 1000), "r"+strings.Repeat("1", 100000), "r"+strings.Repeat("1", 1000)+"x")
	wrap := new(big.Int).Lsh(big.NewInt(1), 64)
	for n := range 100 {
		sum := new(big.Int).Add(wrap, big.NewInt(int64(n)))
		checkNoNumber(t, "r"+sum.String(), "r"+sum.Mul(sum, wrap).String())
	}
}

func TestP6_1_KeyExamples(t *testing.T) {
	for _, x := range []struct{ workflow, run, want string }{
		{"order-7", "r2", "order-7/r2"}, {"a", "r1", "a/r1"}, {"", "", "/"}, {"a", "", "a/"}, {"", "a", "/a"}, {"/", "/", "///"},
		{"a/b", "c", "a/b/c"}, {"a", "b/c", "a/b/c"}, {"a/", "b", "a//b"}, {"a", "/b", "a//b"}, {" ", " ", " / "}, {"a b", "\"c\"", "a b/\"c\""},
		{"\xff", "\x80", "\xff/\x80"}, {"\x00", "\x00", "\x00/\x00"}, {"\u00e4", "\u20ac", "\u00e4/\u20ac"}, {"\xc3", "\xa4", "\xc3/\xa4"},
		{"a\n", "\\", "a\n/\\"},
	} {
		if got := name.Key(x.workflow, x.run); got != x.want {
			t.Errorf("Key(%q, %q) = %q, want %q", x.workflow, x.run, got, x.want)
		}
	}
}

func TestP6_1_KeyOfAllBytes(t *testing.T) {
	all := strings.Join(bytesOf(), "")
	texts := append(bytesOf(), "", "order", all, strings.Repeat("w", api.MaxName+1), strings.Repeat(all, 100))
	for _, workflow := range texts {
		for _, run := range texts {
			if got := name.Key(workflow, run); got != strings.Join([]string{workflow, run}, "/") {
				t.Fatalf("Key(%.80q, %.80q) = %.80q", workflow, run, got)
			}
		}
	}
}

func TestP6_1_SplitExamples(t *testing.T) {
	checkSplit(t, "order-7/r2", "order-7", "r2", true)
	checkSplit(t, "a/b/c", "", "", false)
	checkSplit(t, "a", "", "", false)
	checkSplit(t, "a/r1", "a", "r1", true)
	checkSplit(t, "Order 7/\"x\"", "Order 7", "\"x\"", true)
	checkSplit(t, " / ", " ", " ", true)
	checkSplit(t, "\\/\n", "\\", "\n", true)
}

func TestP6_1_SplitWithoutASlash(t *testing.T) {
	for _, key := range []string{"", "a", "order-7", "r2", "a\\b", "a b", "a.b", "a|b", "a\u2215b", "a\u2044b", "a\uff0fb", "\xaf", "\xc0\xaf", "%2f", strings.Repeat("a", 100000)} {
		checkSplit(t, key, "", "", false)
	}
}

func TestP6_1_SplitAtOneSlash(t *testing.T) {
	checkSplit(t, "/", "", "", true)
	checkSplit(t, "/b", "", "b", true)
	checkSplit(t, "a/", "a", "", true)
	long := strings.Repeat("w", 100000)
	checkSplit(t, long+"/"+long, long, long, true)
	checkSplit(t, long+"/", long, "", true)
	checkSplit(t, "/"+long, "", long, true)
}

func TestP6_1_SplitWithSeveralSlashes(t *testing.T) {
	for _, key := range []string{"//", "///", "a//", "//a", "/a/", "a//b", "a/b/", "/a/b", "a/b/c", "a/b/c/d", "/a/b/c/", "/ /", "\xff/\xff/",
		strings.Repeat("/", 1000), strings.Repeat("a/", 1000), "a/" + strings.Repeat("b", 100000) + "/"} {
		checkSplit(t, key, "", "", false)
	}
}

func TestP6_1_SplitBetweenAllBytes(t *testing.T) {
	for _, before := range bytesOf() {
		for _, behind := range bytesOf() {
			if before == "/" || behind == "/" {
				checkSplit(t, before+"/"+behind, "", "", false)
			} else {
				checkSplit(t, before+"/"+behind, before, behind, true)
			}
		}
	}
}

func TestP6_2_NumberOfRun(t *testing.T) {
	for _, n := range numbers() {
		checkNumber(t, name.Run(n), n, true)
	}
}

func TestP6_2_RunsAreDifferent(t *testing.T) {
	seen := map[string]int{}
	for _, n := range numbers() {
		if other, ok := seen[name.Run(n)]; ok {
			t.Errorf("Run is %q for %d and for %d", name.Run(n), other, n)
		}
		seen[name.Run(n)] = n
	}
}

// TestP6_2_RunOfNumber checks that no second string has the number of an identifier.
func TestP6_2_RunOfNumber(t *testing.T) {
	for _, run := range []string{"", "r", "r0", "r1", "r01", "r+1", "r-1", "r1 ", "r 1", "1", "R1", "r1.0", "r1_0", "r10", "r010", "r0xa",
		"r9223372036854775807", "r09223372036854775807", "r9223372036854775808", "r18446744073709551617"} {
		if n, ok := name.Number(run); ok && name.Run(n) != run {
			t.Errorf("Number(%q) = %d, which is the number of %q", run, n, name.Run(n))
		}
	}
}

func TestP6_3_SplitOfKey(t *testing.T) {
	parts := slices.DeleteFunc(bytesOf(), func(s string) bool { return s == "/" })
	parts = append(parts, "", "order-7", "r1", "a b", "\"", "\xc3\xa4", strings.Join(parts, ""), strings.Repeat("w", 100000))
	for _, workflow := range parts {
		for _, run := range parts {
			checkSplit(t, name.Key(workflow, run), workflow, run, true)
		}
	}
}

func TestP6_3_SplitOfAKeyOfPartsWithSlashes(t *testing.T) {
	for _, x := range []struct{ workflow, run string }{
		{"/", ""}, {"", "/"}, {"a/b", "c"}, {"a", "b/c"}, {"/a", "b"}, {"a", "b/"}, {"a/b", "c/d"}, {"//", "//"}, {"a/", ""}, {"", "/a"},
	} {
		checkSplit(t, name.Key(x.workflow, x.run), "", "", false)
	}
}

// TestP6_3_KeyOfSplit has every string of at most six of a few bytes.
func TestP6_3_KeyOfSplit(t *testing.T) {
	keys := []string{""}
	for at := 0; len(keys[at]) < 6; at++ {
		for _, c := range []string{"/", "a", "\xff", " "} {
			keys = append(keys, keys[at]+c)
		}
	}
	for _, key := range keys {
		workflow, run, ok := name.Split(key)
		if want := len(strings.Split(key, "/")) == 2; ok != want {
			t.Fatalf("Split(%q) reports %t, want %t", key, ok, want)
		}
		if ok && name.Key(workflow, run) != key {
			t.Fatalf("Key of Split(%q) = %q", key, name.Key(workflow, run))
		}
		if !ok && (workflow != "" || run != "") {
			t.Fatalf("Split(%q) = %q, %q, false", key, workflow, run)
		}
	}
}

func TestP6_4_NoSlashBlankOrQuote(t *testing.T) {
	for _, c := range []string{"/", " ", "\"", "'", "`", "\t", "\n", "\r", "\v", "\f", "\u00a0", "\u2028", "\u201c"} {
		for _, s := range []string{c, c + "a", "a" + c, "a" + c + "b", c + c, "a" + c + c + "b", strings.Repeat("a", api.MaxName-len(c)) + c} {
			if name.Right(s) {
				t.Errorf("Right(%q) = true", s)
			}
		}
	}
}

func TestP6_4_ALongerNameIsValid(t *testing.T) {
	for _, c := range strings.Split(firsts, "") {
		for _, d := range strings.Split(laters, "") {
			for s := c; len(s) <= api.MaxName+1; s += d {
				if got, want := name.Right(s), len(s) <= api.MaxName; got != want {
					t.Fatalf("Right(%q) = %t, want %t", s, got, want)
				}
			}
		}
	}
}

// TestP6_4_AllNamesOfMixedBytes adds every letter, digit and underscore behind one another.
func TestP6_4_AllNamesOfMixedBytes(t *testing.T) {
	for shift := range len(laters) {
		mixed := laters[shift:] + laters[:shift]
		s := "_Z"
		for _, d := range strings.Split(mixed, "") {
			s += d
			if got, want := name.Right(s), len(s) <= api.MaxName; got != want {
				t.Fatalf("Right(%q) = %t, want %t", s, got, want)
			}
		}
	}
}
