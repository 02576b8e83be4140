package hash_test

import (
	"bytes"
	"encoding/binary"
	"hash/crc32"
	"hash/fnv"
	"math"
	"slices"
	"strings"
	"testing"

	"workflow/hash"
)

const (
	most31 = 1<<31 - 1
	most32 = 1<<32 - 1
)

// Strings whose Fnv hash is at an end of its range, or around its highest bit.
const (
	fnvIsZero     = "\xcc\x24\x31\xc4"
	fnvIsMost     = "0Q\xf6c\x00"
	fnvIsHighBit  = "\xf54\x17z\x01"
	fnvIsBelowBit = ",\x12\xab+\x04"
)

// wantFnv asks the standard library, which the package itself does not use.
func wantFnv(s string) int {
	h := fnv.New32a()
	h.Write([]byte(s))
	return int(h.Sum32())
}

func wantCrc(b []byte) int { return int(crc32.ChecksumIEEE(b)) }

func mixBytes(a, b int) string {
	return string(binary.BigEndian.AppendUint64(binary.BigEndian.AppendUint64(nil, uint64(a)), uint64(b)))
}

func wantMix(a, b int) int { return wantFnv(mixBytes(a, b)) % (most31 + 1) }

// noise returns n bytes that look random and are always the same.
func noise(n int) []byte {
	b := make([]byte, n)
	state := uint32(n)
	for i := range b {
		state = state*1664525 + 1013904223
		b[i] = byte(state >> 24)
	}
	return b
}

// sequences returns no bytes, every single byte, every length up to 300, long sequences, and bytes that are all the same.
func sequences() [][]byte {
	l := [][]byte{{}, []byte("123456789"), []byte("\u00e4\u20ac\U0001f600"), []byte("\xc3\x28\xff\xfe"), []byte("a\x00b\r\n")}
	for c := range 256 {
		l = append(l, []byte{byte(c)}, []byte{byte(c), byte(255 - c)}, bytes.Repeat([]byte{byte(c)}, 33))
	}
	for n := range 301 {
		l = append(l, noise(n))
	}
	for _, n := range []int{4095, 4096, 65535, 65536, 65537, 1 << 20} {
		l = append(l, noise(n), make([]byte, n), bytes.Repeat([]byte{255}, n))
	}
	return l
}

// integers returns both ends, numbers around every power of two, and numbers in which a single byte is not 0 or not 255.
func integers() []int {
	l := []int{0, math.MaxInt, math.MaxInt - 1, math.MinInt, math.MinInt + 1, 0x0102030405060708, -0x0102030405060708}
	for shift := range 63 {
		for d := -1; d <= 1; d++ {
			l = append(l, 1<<shift+d, -(1<<shift)+d)
		}
	}
	for shift := 0; shift < 64; shift += 8 {
		l = append(l, 0xa5<<shift, ^(0xa5 << shift))
	}
	slices.Sort(l)
	return slices.Compact(l)
}

func TestP4_1_FnvExamples(t *testing.T) {
	for _, x := range []struct {
		s    string
		want int
	}{
		{"", 2166136261}, {"a", 3826002220}, {"b", 3876335077}, {"foobar", 3214735720},
		{"\x00", 84696351}, {"\xff", 2047574606}, {"\u00e4\u20ac", 3592541118},
		{"The quick brown fox jumps over the lazy dog", 76545936},
	} {
		if got := hash.Fnv(x.s); got != x.want {
			t.Errorf("Fnv(%q) = %d, want %d", x.s, got, x.want)
		}
	}
}

// TestP4_1_FnvStepByStep follows the promise to the letter, apart from the standard library.
func TestP4_1_FnvStepByStep(t *testing.T) {
	for c := range 256 {
		for d := range 256 {
			want := (2166136261 ^ c) * 16777619 % (1 << 32)
			want = (want ^ d) * 16777619 % (1 << 32)
			if got := hash.Fnv(string([]byte{byte(c), byte(d)})); got != want {
				t.Fatalf("Fnv of the bytes %d and %d = %d, want %d", c, d, got, want)
			}
		}
	}
}

func TestP4_1_FnvOfSequences(t *testing.T) {
	for _, b := range sequences() {
		if got, want := hash.Fnv(string(b)), wantFnv(string(b)); got != want {
			t.Fatalf("Fnv of %d bytes = %d, want %d", len(b), got, want)
		}
	}
}

func TestP4_1_FnvAtTheEndsOfItsRange(t *testing.T) {
	for _, x := range []struct {
		s    string
		want int
	}{
		{fnvIsZero, 0}, {fnvIsMost, most32}, {fnvIsHighBit, 1 << 31}, {fnvIsBelowBit, most31},
	} {
		if got := hash.Fnv(x.s); got != x.want {
			t.Errorf("Fnv(%q) = %d, want %d", x.s, got, x.want)
		}
	}
}

func TestP4_1_FnvDependsOnTheOrderOfBytes(t *testing.T) {
	if hash.Fnv("ab") == hash.Fnv("ba") {
		t.Error("Fnv is the same for ab and ba")
	}
}

func TestP4_2_CrcExamples(t *testing.T) {
	for _, x := range []struct {
		s    string
		want int
	}{
		{"", 0}, {"a", 3904355907}, {"123456789", 3421780262}, {"foobar", 2666930069},
		{"\x00", 3523407757}, {"\xff", 4278190080}, {strings.Repeat("\x00", 32), 420107693},
		{"The quick brown fox jumps over the lazy dog", 1095738169},
	} {
		if got := hash.Crc([]byte(x.s)); got != x.want {
			t.Errorf("Crc(%q) = %d, want %d", x.s, got, x.want)
		}
	}
}

func TestP4_2_CrcOfNoBytes(t *testing.T) {
	for _, b := range [][]byte{nil, {}, noise(8)[:0], noise(8)[8:]} {
		if got := hash.Crc(b); got != 0 {
			t.Errorf("Crc of no bytes = %d", got)
		}
	}
}

// TestP4_2_CrcBitByBit follows the promise to the letter, apart from the standard library.
func TestP4_2_CrcBitByBit(t *testing.T) {
	for c := range 256 {
		register := most32 ^ c
		for range 8 {
			out := register % 2
			register /= 2
			if out == 1 {
				register ^= 0xEDB88320
			}
		}
		if got, want := hash.Crc([]byte{byte(c)}), most32-register; got != want {
			t.Errorf("Crc of the byte %d = %d, want %d", c, got, want)
		}
	}
}

func TestP4_2_CrcOfSequences(t *testing.T) {
	for _, b := range sequences() {
		if got, want := hash.Crc(b), wantCrc(b); got != want {
			t.Fatalf("Crc of %d bytes = %d, want %d", len(b), got, want)
		}
	}
}

func TestP4_2_CrcAtTheEndsOfItsRange(t *testing.T) {
	for _, x := range []struct {
		b    []byte
		want int
	}{
		{[]byte{0x9d, 0x0a, 0xd9, 0x6d}, 0}, {[]byte{255, 255, 255, 255}, most32},
	} {
		if got := hash.Crc(x.b); got != x.want {
			t.Errorf("Crc(%v) = %d, want %d", x.b, got, x.want)
		}
	}
}

func TestP4_2_CrcLeavesItsArgumentAlone(t *testing.T) {
	whole := noise(100)
	before := slices.Clone(whole)
	part := whole[10:60]
	first := hash.Crc(part)
	if !bytes.Equal(whole, before) {
		t.Error("Crc changed bytes of its argument, or next to it")
	}
	for i := 60; i < len(whole); i++ {
		whole[i] = ^whole[i]
	}
	if hash.Crc(part) != first {
		t.Error("Crc depends on bytes between the length and the capacity")
	}
	if want := wantCrc(before[10:60]); first != want {
		t.Errorf("Crc of a part = %d, want %d", first, want)
	}
}

// TestP4_2_CrcKeepsNothing checks that a call depends neither on earlier calls nor on an argument that has changed since.
func TestP4_2_CrcKeepsNothing(t *testing.T) {
	b := []byte("abc")
	hash.Crc(b)
	b[1] = 'x'
	if got, want := hash.Crc(b), wantCrc([]byte("axc")); got != want {
		t.Errorf("Crc after a change of the bytes = %d, want %d", got, want)
	}
	b[1] = 'b'
	if got, want := hash.Crc(b), wantCrc([]byte("abc")); got != want {
		t.Errorf("Crc after the change was undone = %d, want %d", got, want)
	}
}

func TestP4_3_MixExamples(t *testing.T) {
	for _, x := range []struct {
		a, b  int
		bytes string
	}{
		{0, 0, "\x00\x00\x00\x00\x00\x00\x00\x00\x00\x00\x00\x00\x00\x00\x00\x00"},
		{5, -2, "\x00\x00\x00\x00\x00\x00\x00\x05\xff\xff\xff\xff\xff\xff\xff\xfe"},
		{-2, 5, "\xff\xff\xff\xff\xff\xff\xff\xfe\x00\x00\x00\x00\x00\x00\x00\x05"},
		{0x0102030405060708, 256, "\x01\x02\x03\x04\x05\x06\x07\x08\x00\x00\x00\x00\x00\x00\x01\x00"},
		{math.MaxInt, math.MinInt, "\x7f\xff\xff\xff\xff\xff\xff\xff\x80\x00\x00\x00\x00\x00\x00\x00"},
		{math.MinInt, math.MaxInt, "\x80\x00\x00\x00\x00\x00\x00\x00\x7f\xff\xff\xff\xff\xff\xff\xff"},
		{-1, -1, "\xff\xff\xff\xff\xff\xff\xff\xff\xff\xff\xff\xff\xff\xff\xff\xff"},
	} {
		if got, want := hash.Mix(x.a, x.b), wantFnv(x.bytes)%(1<<31); got != want {
			t.Errorf("Mix(%d, %d) = %d, want %d", x.a, x.b, got, want)
		}
	}
}

func TestP4_3_MixOfAllPairs(t *testing.T) {
	all := integers()
	for _, a := range all {
		for _, b := range all {
			got := hash.Mix(a, b)
			if want := wantMix(a, b); got != want || got < 0 || got > most31 {
				t.Fatalf("Mix(%d, %d) = %d, want %d", a, b, got, want)
			}
		}
	}
}

// TestP4_3_MixDropsOnlyTheHighestBit looks for hashes with and without the highest of 32 bits, and with the bit below it.
func TestP4_3_MixDropsOnlyTheHighestBit(t *testing.T) {
	with, without, below := 0, 0, 0
	for n := range 100 {
		h := hash.Fnv(mixBytes(n, -n))
		got := hash.Mix(n, -n)
		if h >= 1<<31 {
			with++
			h -= 1 << 31
		} else {
			without++
		}
		if got >= 1<<30 {
			below++
		}
		if got != h {
			t.Errorf("Mix(%d, %d) = %d, want %d", n, -n, got, h)
		}
	}
	if with == 0 || without == 0 || below == 0 {
		t.Errorf("%d hashes with the highest bit, %d without it, %d results with theirs", with, without, below)
	}
}

func TestP4_3_MixDependsOnTheOrderOfItsArguments(t *testing.T) {
	for _, x := range [][2]int{{1, 2}, {0, 1}, {5, -5}, {math.MinInt, math.MaxInt}, {1, 1 << 32}} {
		if hash.Mix(x[0], x[1]) == hash.Mix(x[1], x[0]) {
			t.Errorf("Mix is the same for %d and %d in both orders", x[0], x[1])
		}
	}
}

func TestP4_4_BucketExamples(t *testing.T) {
	for _, x := range []struct {
		s       string
		n, want int
	}{
		{"a", 10, 0}, {"", 100, 61}, {"foobar", 16, 8}, {"\xff", 7, 2047574606 % 7}, {"b", 2, 1},
	} {
		if got := hash.Bucket(x.s, x.n); got != x.want {
			t.Errorf("Bucket(%q, %d) = %d, want %d", x.s, x.n, got, x.want)
		}
	}
}

func TestP4_4_BucketBelowOne(t *testing.T) {
	for _, s := range []string{"", "a", "b", fnvIsZero, fnvIsMost} {
		for _, n := range []int{0, -1, -2, -10, -(1 << 32), math.MinInt + 1, math.MinInt} {
			if got := hash.Bucket(s, n); got != 0 {
				t.Errorf("Bucket(%q, %d) = %d, want 0", s, n, got)
			}
		}
	}
}

func TestP4_4_BucketIsTheRemainder(t *testing.T) {
	counts := []int{most31, 1 << 31, most32 - 1, most32, 1 << 32, 1<<32 + 1, 1 << 40, math.MaxInt}
	for n := range 300 {
		counts = append(counts, n+1)
	}
	texts := []string{"", "a", "foobar", "\xff", "\u00e4", fnvIsZero, fnvIsMost, fnvIsHighBit, fnvIsBelowBit, string(noise(1000))}
	for _, s := range texts {
		for _, n := range counts {
			if got, want := hash.Bucket(s, n), wantFnv(s)%n; got != want {
				t.Errorf("Bucket(%q, %d) = %d, want %d", s, n, got, want)
			}
		}
	}
}

// TestP4_4_BucketOfHighHashes has results that would be negative or cut off in 32 bits.
func TestP4_4_BucketOfHighHashes(t *testing.T) {
	for _, x := range []struct {
		s       string
		n, want int
	}{
		{fnvIsMost, 1 << 32, most32}, {fnvIsMost, most32, 0}, {fnvIsMost, math.MaxInt, most32},
		{fnvIsHighBit, 1 << 40, 1 << 31}, {fnvIsHighBit, 1<<31 + 1, 1 << 31}, {fnvIsHighBit, 1 << 31, 0}, {"", 1<<32 + 1, 2166136261},
	} {
		if got := hash.Bucket(x.s, x.n); got != x.want {
			t.Errorf("Bucket(%q, %d) = %d, want %d", x.s, x.n, got, x.want)
		}
	}
}

// changesEachByte calls f with a copy of b for every other value of the byte at every place.
func changesEachByte(b []byte, f func(at int, changed []byte)) {
	changed := slices.Clone(b)
	for at, c := range b {
		for d := 1; d < 256; d++ {
			changed[at] = c ^ byte(d)
			f(at, changed)
		}
		changed[at] = c
	}
}

func TestP4_5_CrcNoticesOneChangedByte(t *testing.T) {
	for _, b := range [][]byte{{0}, {255}, noise(2), []byte("123456789"), noise(100), make([]byte, 40), bytes.Repeat([]byte{255}, 40)} {
		sum := hash.Crc(b)
		changesEachByte(b, func(at int, changed []byte) {
			if hash.Crc(changed) == sum {
				t.Fatalf("Crc of %v is the same with the byte %d at %d", b, changed[at], at)
			}
		})
	}
}

func TestP4_5_CrcNoticesOneChangedByteOfMany(t *testing.T) {
	b := noise(70000)
	sum := hash.Crc(b)
	for _, at := range []int{0, 1, 255, 256, 4096, 32768, 65535, 65536, len(b) - 1} {
		for _, d := range []byte{1, 128, 255} {
			b[at] ^= d
			if hash.Crc(b) == sum {
				t.Errorf("Crc is the same with another byte at %d", at)
			}
			b[at] ^= d
		}
	}
}

func TestP4_5_FnvNoticesAnotherLastByte(t *testing.T) {
	for _, start := range []string{"", "a", "foobar", "\xff\x80", "\u20ac", fnvIsZero, fnvIsMost, string(noise(5000))} {
		seen := make(map[int]int)
		for c := range 256 {
			h := hash.Fnv(start + string([]byte{byte(c)}))
			if other, known := seen[h]; known {
				t.Errorf("%q with the last bytes %d and %d has the same hash", start, other, c)
			}
			seen[h] = c
		}
	}
}

func TestP4_5_BucketIsInRange(t *testing.T) {
	for n := 1; n <= 40; n++ {
		hit := make([]bool, n)
		for i := range 1000 {
			k := hash.Bucket(string(noise(i)), n)
			if k < 0 || k >= n {
				t.Fatalf("Bucket of %d bytes among %d = %d", i, n, k)
			}
			hit[k] = true
		}
		if slices.Contains(hit, false) {
			t.Errorf("a bucket of %d is never used", n)
		}
	}
}

func TestP4_5_OneBucket(t *testing.T) {
	for _, s := range []string{"", "a", "b", "foobar", "\xff", fnvIsZero, fnvIsMost, fnvIsHighBit, string(noise(1000))} {
		if got := hash.Bucket(s, 1); got != 0 {
			t.Errorf("Bucket(%q, 1) = %d", s, got)
		}
	}
}
