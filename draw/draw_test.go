package draw_test

import (
	"encoding/binary"
	"hash/fnv"
	"math"
	"slices"
	"strings"
	"testing"

	"workflow/api"
	"workflow/draw"
	"workflow/hash"
)

const most31 = 1<<31 - 1

// point is a seed and a k.
type point struct{ seed, k int }

// Points whose number is at an end of its range, next to one, or in its middle.
var (
	drawIsZero     = point{5, 110618121}
	drawIsMost     = point{1, 38960548}
	drawIsNextMost = point{4, 200564673}
	drawIsHalf     = point{8, 94847978}
)

// wantFnv asks the standard library, which the package itself does not use.
func wantFnv(s string) int {
	h := fnv.New32a()
	h.Write([]byte(s))
	return int(h.Sum32())
}

func wantDraw(p point) int {
	b := binary.BigEndian.AppendUint64(nil, uint64(p.seed))
	return wantFnv(string(binary.BigEndian.AppendUint64(b, uint64(p.k)))) % (most31 + 1)
}

func wantJitter(p point, base, percent int) int {
	return portion(base, 100-percent+wantDraw(p)%(2*percent+1))
}

// portion returns percent percent of base, rounded down, without the product of both.
func portion(base, percent int) int {
	return base/100*percent + base%100*percent/100
}

// integers returns both ends, small numbers of both signs, and numbers around every power of two.
func integers() []int {
	l := []int{0, math.MaxInt, math.MaxInt - 1, math.MinInt, math.MinInt + 1, 0x0102030405060708, -0x0102030405060708}
	for shift := range 63 {
		for d := -1; d <= 1; d++ {
			l = append(l, 1<<shift+d, -(1<<shift)+d)
		}
	}
	slices.Sort(l)
	return slices.Compact(l)
}

// points returns every pair of a few integers, both ends among them, and points with special numbers.
func points() []point {
	l := []point{drawIsZero, drawIsMost, drawIsNextMost, drawIsHalf}
	few := []int{math.MinInt, math.MinInt + 1, -(1 << 40), -1000, -2, -1, 0, 1, 2, 7, 255, 256, 1 << 31, 1 << 40, math.MaxInt - 1, math.MaxInt}
	for _, seed := range few {
		for _, k := range few {
			l = append(l, point{seed, k})
		}
	}
	return l
}

// findBelow returns a point at which the remainder of its number divided by n is want.
func findBelow(t *testing.T, n, want int) point {
	t.Helper()
	for k := range 100000 {
		if p := (point{3, k}); wantDraw(p)%n == want {
			return p
		}
	}
	t.Fatalf("no number leaves the remainder %d divided by %d", want, n)
	return point{}
}

func TestP5_1_DrawExamples(t *testing.T) {
	for _, x := range []struct {
		p    point
		want int
	}{
		{point{0, 0}, 1768495365}, {point{7, 0}, 7066208}, {point{7, 1}, 23843827}, {point{1, 7}, 1126191155},
		{point{-1, -1}, 906459637}, {point{5, -2}, 2145029329},
		{point{math.MaxInt, math.MinInt}, 886345725}, {point{math.MinInt, math.MaxInt}, 259721469},
		{point{math.MinInt, 0}, 1000863877}, {point{0, math.MinInt}, 437823877},
		{point{math.MinInt, math.MinInt}, 184051717}, {point{math.MaxInt, math.MaxInt}, 475476213},
	} {
		if got := draw.Draw(x.p.seed, x.p.k); got != x.want {
			t.Errorf("Draw(%d, %d) = %d, want %d", x.p.seed, x.p.k, got, x.want)
		}
	}
}

func TestP5_1_DrawIsMix(t *testing.T) {
	all := integers()
	for _, seed := range all {
		for _, k := range all {
			got := draw.Draw(seed, k)
			if want := wantDraw(point{seed, k}); got != want || got != hash.Mix(seed, k) || got < 0 || got > most31 {
				t.Fatalf("Draw(%d, %d) = %d, want %d", seed, k, got, want)
			}
		}
	}
}

func TestP5_1_DrawAtTheEndsOfItsRange(t *testing.T) {
	for _, x := range []struct {
		p    point
		want int
	}{
		{drawIsZero, 0}, {drawIsMost, most31}, {drawIsNextMost, most31 - 1}, {drawIsHalf, 1 << 30},
	} {
		if got := draw.Draw(x.p.seed, x.p.k); got != x.want {
			t.Errorf("Draw(%d, %d) = %d, want %d", x.p.seed, x.p.k, got, x.want)
		}
	}
}

func TestP5_1_DrawDependsOnTheOrderOfItsArguments(t *testing.T) {
	for _, p := range []point{{1, 2}, {0, 1}, {5, -5}, {math.MinInt, math.MaxInt}, {1, 1 << 32}} {
		if draw.Draw(p.seed, p.k) == draw.Draw(p.k, p.seed) {
			t.Errorf("Draw is the same for %d and %d in both orders", p.seed, p.k)
		}
	}
}

// TestP5_1_DrawKeepsNothing checks that a number is the same after others have been drawn.
func TestP5_1_DrawKeepsNothing(t *testing.T) {
	var first []int
	for k := range 100 {
		first = append(first, draw.Draw(7, k))
	}
	for k := 99; k >= 0; k-- {
		draw.Draw(8, k)
		if got := draw.Draw(7, k); got != first[k] {
			t.Errorf("Draw(7, %d) = %d, and %d before", k, got, first[k])
		}
	}
}

func TestP5_2_BelowExamples(t *testing.T) {
	for _, x := range []struct {
		p       point
		n, want int
	}{
		{point{7, 0}, 10, 8}, {point{7, 1}, 3, 1}, {point{-1, -1}, 1000, 637}, {point{5, -2}, most31, 2145029329},
		{point{0, 0}, 2, 1}, {point{7, 0}, 2, 0}, {point{math.MinInt, math.MinInt}, 100, 17},
		{point{math.MaxInt, math.MaxInt}, 100, 13}, {point{math.MaxInt, math.MinInt}, 1 << 20, 886345725 % (1 << 20)},
	} {
		if got := draw.Below(x.p.seed, x.p.k, x.n); got != x.want {
			t.Errorf("Below(%d, %d, %d) = %d, want %d", x.p.seed, x.p.k, x.n, got, x.want)
		}
	}
}

func TestP5_2_BelowIsTheRemainder(t *testing.T) {
	counts := []int{1 << 16, 1<<30 - 1, 1 << 30, most31 - 1, most31, 1 << 31, 1<<31 + 1, 1<<32 - 1, 1 << 32, 1<<32 + 1, 1 << 40, math.MaxInt}
	for n := range 202 {
		counts = append(counts, n+1)
	}
	for _, p := range points() {
		for _, n := range counts {
			if got, want := draw.Below(p.seed, p.k, n), wantDraw(p)%n; got != want {
				t.Fatalf("Below(%d, %d, %d) = %d, want %d", p.seed, p.k, n, got, want)
			}
		}
	}
}

func TestP5_2_BelowOne(t *testing.T) {
	for _, p := range points() {
		for _, n := range []int{0, -1, -2, -10, -most31, -(1 << 31), -(1 << 32), -(1 << 40), math.MinInt + 1, math.MinInt} {
			if got := draw.Below(p.seed, p.k, n); got != 0 {
				t.Fatalf("Below(%d, %d, %d) = %d, want 0", p.seed, p.k, n, got)
			}
		}
	}
}

// TestP5_2_BelowMoreThanAllNumbers has an n that no number reaches, so that the result is the number itself.
func TestP5_2_BelowMoreThanAllNumbers(t *testing.T) {
	for _, p := range points() {
		for _, n := range []int{1 << 31, 1<<31 + 1, 1 << 32, 1<<32 + 1, 1 << 62, math.MaxInt} {
			if got := draw.Below(p.seed, p.k, n); got != wantDraw(p) {
				t.Fatalf("Below(%d, %d, %d) = %d, want %d", p.seed, p.k, n, got, wantDraw(p))
			}
		}
	}
}

func TestP5_2_BelowAroundTheGreatestNumber(t *testing.T) {
	for _, x := range []struct {
		p       point
		n, want int
	}{
		{drawIsMost, most31 - 1, 1}, {drawIsMost, most31, 0}, {drawIsMost, 1 << 31, most31}, {drawIsMost, 1<<31 + 1, most31},
		{drawIsNextMost, most31 - 1, 0}, {drawIsNextMost, most31, most31 - 1}, {drawIsNextMost, 1 << 31, most31 - 1},
		{drawIsHalf, 1 << 30, 0}, {drawIsHalf, 1<<30 + 1, 1 << 30}, {drawIsZero, 1, 0}, {drawIsZero, 1 << 31, 0},
	} {
		if got := draw.Below(x.p.seed, x.p.k, x.n); got != x.want {
			t.Errorf("Below(%d, %d, %d) = %d, want %d", x.p.seed, x.p.k, x.n, got, x.want)
		}
	}
}

func TestP5_3_JitterExamples(t *testing.T) {
	for _, x := range []struct {
		p                   point
		base, percent, want int
	}{
		{point{7, 0}, 1000, 10, 920}, {point{7, 1}, 1000, 10, 970}, {point{7, 0}, 1, 50, 0}, {point{7, 0}, 99, 1, 99},
		{point{7, 1}, api.MaxTime, 100, 10995116277}, {point{-1, -1}, api.MaxTime, 100, 967570232442},
		{point{math.MaxInt, math.MinInt}, 12345, 37, 7777}, {point{math.MinInt, math.MaxInt}, 12345, 37, 16295},
		{point{0, 0}, 3, 100, 2}, {drawIsMost, api.MaxTime, 100, 538760697610}, {drawIsZero, api.MaxTime, 100, 0}, {drawIsZero, 199, 10, 179},
		{point{7, 0}, -5, 10, -5},
	} {
		if got := draw.Jitter(x.p.seed, x.p.k, x.base, x.percent); got != x.want {
			t.Errorf("Jitter(%d, %d, %d, %d) = %d, want %d", x.p.seed, x.p.k, x.base, x.percent, got, x.want)
		}
	}
}

func TestP5_3_JitterOfAllPercents(t *testing.T) {
	bases := []int{0, 1, 2, 3, 49, 50, 51, 99, 100, 101, 199, 200, 1000, 12345, most31, 1 << 31, 1 << 32, api.MaxTime - 1, api.MaxTime}
	for _, p := range points() {
		for _, base := range bases {
			for percent := range 101 {
				if got, want := draw.Jitter(p.seed, p.k, base, percent), wantJitter(p, base, percent); got != want {
					t.Fatalf("Jitter(%d, %d, %d, %d) = %d, want %d", p.seed, p.k, base, percent, got, want)
				}
			}
		}
	}
}

func TestP5_3_JitterOutsideTheRangeOfBases(t *testing.T) {
	for _, p := range points() {
		for _, base := range []int{math.MinInt, math.MinInt + 1, -api.MaxTime - 1, -api.MaxTime, -100, -5, -1,
			api.MaxTime + 1, api.MaxTime + 100, 2 * api.MaxTime, 1 << 62, math.MaxInt - 1, math.MaxInt} {
			for _, percent := range []int{math.MinInt, -1, 0, 1, 10, 50, 99, 100, 101, math.MaxInt} {
				if got := draw.Jitter(p.seed, p.k, base, percent); got != base {
					t.Fatalf("Jitter(%d, %d, %d, %d) = %d, want %d", p.seed, p.k, base, percent, got, base)
				}
			}
		}
	}
}

func TestP5_3_JitterOutsideTheRangeOfPercents(t *testing.T) {
	for _, p := range points() {
		for _, percent := range []int{math.MinInt, math.MinInt + 1, -1000, -101, -100, -51, -50, -10, -2, -1,
			101, 102, 150, 200, 1000, 1 << 40, 1 << 62, math.MaxInt - 1, math.MaxInt} {
			for _, base := range []int{0, 1, 50, 100, 12345, api.MaxTime - 1, api.MaxTime} {
				if got := draw.Jitter(p.seed, p.k, base, percent); got != base {
					t.Fatalf("Jitter(%d, %d, %d, %d) = %d, want %d", p.seed, p.k, base, percent, got, base)
				}
			}
		}
	}
}

func TestP5_3_JitterOfNoPercent(t *testing.T) {
	for _, p := range points() {
		for _, base := range []int{0, 1, 50, 99, 101, 12345, most31, api.MaxTime - 1, api.MaxTime} {
			if got := draw.Jitter(p.seed, p.k, base, 0); got != base {
				t.Fatalf("Jitter(%d, %d, %d, 0) = %d", p.seed, p.k, base, got)
			}
		}
	}
}

// TestP5_3_JitterRoundsDown has an exact result of a number and a rest, from 1 to 99 hundredths.
func TestP5_3_JitterRoundsDown(t *testing.T) {
	for _, x := range []struct{ base, percent, remainder, want int }{
		{1, 1, 0, 0},                           // 0.99
		{1, 1, 1, 1},                           // 1
		{1, 1, 2, 1},                           // 1.01
		{1, 100, 199, 1},                       // 1.99
		{1, 100, 99, 0},                        // 0.99
		{1, 50, 0, 0},                          // 0.50
		{1, 50, 100, 1},                        // 1.50
		{3, 50, 0, 1},                          // 1.50
		{99, 1, 0, 98},                         // 98.01
		{99, 1, 2, 99},                         // 99.99
		{199, 10, 0, 179},                      // 179.10
		{199, 10, 20, 218},                     // 218.90
		{api.MaxTime - 1, 1, 0, 1088516511497}, // 1088516511497.25
		{api.MaxTime, 1, 2, 1110506744053},     // 1110506744053.76
		{api.MaxTime - 1, 100, 199, 2188028139272}, // 2188028139272.25
	} {
		p := findBelow(t, 2*x.percent+1, x.remainder)
		if got := draw.Jitter(p.seed, p.k, x.base, x.percent); got != x.want {
			t.Errorf("Jitter(%d, %d, %d, %d) = %d, want %d", p.seed, p.k, x.base, x.percent, got, x.want)
		}
	}
}

func TestP5_4_SeedExamples(t *testing.T) {
	for _, x := range []struct {
		workflow, run string
		want          int
	}{
		{"", "", 705468254}, {"w", "r1", 4205795534}, {"order", "r12", 513051501}, {"", "r1", 646792751}, {"w", "", 575099995},
		{"a/b", "c", 1199438699}, {"a", "b/c", 1199438699}, {"/", "", 2731697891}, {"", "/", 2731697891}, {"\xff\x00", "\xc3", 47382516},
	} {
		if got := draw.Seed(x.workflow, x.run); got != x.want {
			t.Errorf("Seed(%q, %q) = %d, want %d", x.workflow, x.run, got, x.want)
		}
	}
}

func TestP5_4_SeedIsFnv(t *testing.T) {
	names := []string{"", "/", "//", "a", "b", "a/", "/a", "a/b", "r1", "r2", "order", " ", "\x00", "\xff\xfe", "\u00e4\u20ac\U0001f600",
		"a\nb", strings.Repeat("w", api.MaxName), strings.Repeat("w", api.MaxName+1), strings.Repeat("xy/", 10000)}
	for _, workflow := range names {
		for _, run := range names {
			want := wantFnv(strings.Join([]string{workflow, run}, "/"))
			if got := draw.Seed(workflow, run); got != want || got != hash.Fnv(workflow+"/"+run) {
				t.Errorf("Seed of %d and %d bytes = %d, want %d", len(workflow), len(run), got, want)
			}
		}
	}
}

// TestP5_4_SeedAtTheEndsOfItsRange has seeds that would be negative or cut off in 31 or 32 bits.
func TestP5_4_SeedAtTheEndsOfItsRange(t *testing.T) {
	for _, x := range []struct {
		run  string
		want int
	}{
		{"\x3f\x73\x8a\xc5", 0}, {"\x33\xec\xd3\x58", 1<<32 - 1}, {"\x81\x9b\xd4\x84", most31},
	} {
		if got := draw.Seed("w", x.run); got != x.want {
			t.Errorf("Seed(\"w\", %q) = %d, want %d", x.run, got, x.want)
		}
	}
}

// TestP5_4_SeedSlash checks that names with a slash are not told apart from the slash between the names, and that other names are.
func TestP5_4_SeedSlash(t *testing.T) {
	if draw.Seed("a/b", "c") != draw.Seed("a", "b/c") || draw.Seed("/", "") != draw.Seed("", "/") {
		t.Error("the same string in other parts has another seed")
	}
	if draw.Seed("ab", "c") == draw.Seed("a", "bc") || draw.Seed("w", "r1") == draw.Seed("r1", "w") || draw.Seed("w", "") == draw.Seed("", "w") {
		t.Error("other strings have the same seed")
	}
}

func TestP5_5_BelowIsInRange(t *testing.T) {
	for _, p := range points() {
		for _, n := range []int{1, 2, 3, 10, 201, 1 << 20, most31 - 1, most31, 1 << 31, 1<<31 + 1, 1 << 40, math.MaxInt} {
			if got := draw.Below(p.seed, p.k, n); got < 0 || got >= n {
				t.Fatalf("Below(%d, %d, %d) = %d", p.seed, p.k, n, got)
			}
		}
	}
}

func TestP5_5_BelowOneIsZero(t *testing.T) {
	for _, p := range points() {
		if got := draw.Below(p.seed, p.k, 1); got != 0 {
			t.Fatalf("Below(%d, %d, 1) = %d", p.seed, p.k, got)
		}
	}
}

func TestP5_5_BelowReachesItsWholeRange(t *testing.T) {
	for _, n := range []int{1, 2, 3, 10, 21, 201} {
		hit := make([]bool, n)
		for k := range 10000 {
			hit[draw.Below(-9, k, n)] = true
		}
		if slices.Contains(hit, false) {
			t.Errorf("a number below %d is never drawn", n)
		}
	}
}

func TestP5_5_JitterIsInRange(t *testing.T) {
	for _, p := range points() {
		for _, base := range []int{0, 1, 2, 33, 99, 100, 101, 12345, most31, 1 << 32, api.MaxTime - 1, api.MaxTime} {
			for percent := range 101 {
				got := draw.Jitter(p.seed, p.k, base, percent)
				if got < portion(base, 100-percent) || got > portion(base, 100+percent) {
					t.Fatalf("Jitter(%d, %d, %d, %d) = %d", p.seed, p.k, base, percent, got)
				}
			}
		}
	}
}

// TestP5_5_JitterReachesBothEnds has the least and the greatest remainder for every percentage.
func TestP5_5_JitterReachesBothEnds(t *testing.T) {
	for percent := range 101 {
		least := findBelow(t, 2*percent+1, 0)
		greatest := findBelow(t, 2*percent+1, 2*percent)
		for _, base := range []int{0, 1, 7, 99, 100, 101, 1000, 12345, 1 << 32, api.MaxTime - 1, api.MaxTime} {
			if got, want := draw.Jitter(least.seed, least.k, base, percent), portion(base, 100-percent); got != want {
				t.Errorf("Jitter(%d, %d, %d, %d) = %d, want %d", least.seed, least.k, base, percent, got, want)
			}
			if got, want := draw.Jitter(greatest.seed, greatest.k, base, percent), portion(base, 100+percent); got != want {
				t.Errorf("Jitter(%d, %d, %d, %d) = %d, want %d", greatest.seed, greatest.k, base, percent, got, want)
			}
		}
	}
}

func TestP5_5_JitterOfAHundredPercent(t *testing.T) {
	least, greatest := findBelow(t, 201, 0), findBelow(t, 201, 200)
	if got := draw.Jitter(least.seed, least.k, api.MaxTime, 100); got != 0 {
		t.Errorf("the least Jitter of MaxTime = %d, want 0", got)
	}
	if got := draw.Jitter(greatest.seed, greatest.k, api.MaxTime, 100); got != 2*api.MaxTime {
		t.Errorf("the greatest Jitter of MaxTime = %d, want %d", got, 2*api.MaxTime)
	}
}
