package tests

import (
	"encoding/binary"
	"encoding/hex"
	"fmt"
	"math"
	"slices"
	"strconv"
	"strings"
	"testing"

	"loop.example/g00120/impl"
)

// somePlaces are the places at which no text has anything.
var somePlaces = []int{-1, -4, math.MinInt, math.MinInt + 1, math.MaxInt, math.MaxInt - 3}

// someBits gives n bits that repeat only after long.
func someBits(n int) []int {
	bits := make([]int, n)
	x := uint32(2463534242)
	for i := range bits {
		x ^= x << 13
		x ^= x >> 17
		x ^= x << 5
		bits[i] = int(x >> 31)
	}
	return bits
}

func someText(n int) string {
	out := make([]byte, n)
	for i := range out {
		out[i] = byte(i * i / 7)
	}
	return string(out)
}

// spelt gives the bits as a text of digits.
func spelt(bits []int) string {
	b := strings.Builder{}
	for _, x := range bits {
		b.WriteString(strconv.Itoa(x))
	}
	return b.String()
}

// textsOf gives all texts of at most n bytes of an alphabet.
func textsOf(alphabet string, n int) []string {
	all := []string{""}
	from := 0
	for range n {
		end := len(all)
		for _, s := range all[from:end] {
			for i := range len(alphabet) {
				all = append(all, s+alphabet[i:i+1])
			}
		}
		from = end
	}
	return all
}

func bitsWith(n int, at int, x int) []int {
	bits := someBits(n)
	bits[at] = x
	return bits
}

func TestPutBitsFillsWithOnes(t *testing.T) {
	for _, c := range []struct {
		bits []int
		want string
	}{
		{nil, ""},
		{[]int{}, ""},
		{[]int{0}, "\x7f"},
		{[]int{1}, "\xff"},
		{[]int{1, 0, 1}, "\xbf"},
		{[]int{0, 0, 0, 0, 0, 0, 0}, "\x01"},
		{[]int{1, 0, 0, 0, 0, 0, 0, 1}, "\x81"},
		{[]int{0, 0, 0, 0, 0, 0, 0, 0}, "\x00"},
		{[]int{0, 0, 0, 0, 0, 0, 0, 0, 0}, "\x00\x7f"},
	} {
		if got := impl.PutBits(c.bits); got != c.want {
			t.Errorf("PutBits(%v) = %q, not %q", c.bits, got, c.want)
		}
	}
}

func TestBitsComeBackFromBytes(t *testing.T) {
	lengths := []int{impl.MaxBits - 9, impl.MaxBits - 8, impl.MaxBits - 1, impl.MaxBits}
	for n := range 200 {
		lengths = append(lengths, n)
	}
	for _, n := range lengths {
		bits := someBits(n)
		s := impl.PutBits(bits)
		if len(s) != (n+7)/8 {
			t.Fatalf("%d bits are %d bytes", n, len(s))
		}
		want := slices.Clone(bits)
		for len(want)%8 != 0 {
			want = append(want, 1)
		}
		if !slices.Equal(impl.GetBits(s), want) {
			t.Fatalf("%d bits do not come back", n)
		}
	}
}

func TestBytesComeBackFromBits(t *testing.T) {
	for x := range 256 {
		s := string([]byte{byte(x)})
		if got := spelt(impl.GetBits(s)); got != fmt.Sprintf("%08b", x) {
			t.Errorf("GetBits(%q) = %s", s, got)
		}
	}
	for _, n := range []int{0, 1, 3, 4, 5, 300, impl.MaxBytes} {
		s := someText(n)
		bits := impl.GetBits(s)
		if len(bits) != 8*n || impl.PutBits(bits) != s {
			t.Errorf("%d bytes do not come back", n)
		}
	}
}

func TestTooManyBitsOrBytes(t *testing.T) {
	if impl.PutBits(make([]int, impl.MaxBits+1)) != "" {
		t.Error("more than MaxBits bits")
	}
	if impl.PutBits(make([]int, impl.MaxBits)) != strings.Repeat("\x00", impl.MaxBytes) {
		t.Error("MaxBits bits")
	}
	if len(impl.GetBits(someText(impl.MaxBytes+1))) != 0 {
		t.Error("more than MaxBytes bytes")
	}
}

// noBits are such that some look like bits when their high or low parts are cut off.
var noBits = []int{2, 3, -1, -2, 256, 257, 1 << 32, 1<<32 + 1, math.MinInt, math.MinInt + 1, math.MaxInt}

func TestNumbersThatAreNoBits(t *testing.T) {
	for _, x := range noBits {
		for _, at := range []int{0, 7, 8, 19} {
			bits := bitsWith(20, at, x)
			if got := impl.PutBits(bits); got != "" {
				t.Errorf("PutBits with %d at %d = %q", x, at, got)
			}
			if got := impl.BitsNum(bits); got != -1 {
				t.Errorf("BitsNum with %d at %d = %d", x, at, got)
			}
		}
		if impl.PutBits(bitsWith(impl.MaxBits, impl.MaxBits-1, x)) != "" {
			t.Errorf("PutBits with %d as its last", x)
		}
		if impl.BitsNum(bitsWith(33, 32, x)) != -1 {
			t.Errorf("BitsNum of 33 with %d as its last", x)
		}
	}
}

func TestNumbersComeBackFromBits(t *testing.T) {
	for n := 0; n <= 32; n++ {
		top := 1<<n - 1
		for _, x := range []int{0, 1, 2, 5, top / 3, top / 2, top - 1, top} {
			if x < 0 || x > top {
				continue
			}
			bits := impl.NumBits(x, n)
			want := ""
			if n > 0 {
				want = fmt.Sprintf("%0*b", n, x)
			}
			if spelt(bits) != want {
				t.Errorf("NumBits(%d, %d) = %v", x, n, bits)
			}
			if got := impl.BitsNum(bits); got != x {
				t.Errorf("%d of %d bits comes back as %d", x, n, got)
			}
		}
	}
	for n := 1; n <= 32; n++ {
		bits := someBits(n)
		want, _ := strconv.ParseInt(spelt(bits), 2, 64)
		if got := impl.BitsNum(bits); got != int(want) {
			t.Errorf("BitsNum(%v) = %d", bits, got)
		}
	}
}

func TestNumBitsRefuses(t *testing.T) {
	for n := 0; n <= 32; n++ {
		for _, x := range []int{1 << n, 1<<n + 1, 1 << 32, 1 << 62, -1, -(1 << n), math.MinInt, math.MaxInt} {
			if bits := impl.NumBits(x, n); len(bits) != 0 {
				t.Errorf("NumBits(%d, %d) = %v", x, n, bits)
			}
		}
	}
	for _, n := range []int{-1, -32, 33, 34, 63, 64, 65, math.MinInt, math.MaxInt} {
		for _, x := range []int{0, 1, -1, math.MaxInt, math.MinInt} {
			if bits := impl.NumBits(x, n); len(bits) != 0 {
				t.Errorf("NumBits(%d, %d) = %v", x, n, bits)
			}
		}
	}
}

func TestBitsNumEdges(t *testing.T) {
	if impl.BitsNum(nil) != 0 || impl.BitsNum([]int{}) != 0 {
		t.Error("no bits")
	}
	if impl.BitsNum(slices.Repeat([]int{1}, 32)) != math.MaxUint32 {
		t.Error("32 ones")
	}
	for _, n := range []int{33, 40, 64, 1000} {
		if impl.BitsNum(make([]int, n)) != -1 || impl.BitsNum(someBits(n)) != -1 {
			t.Errorf("%d bits", n)
		}
	}
}

func TestStuff(t *testing.T) {
	for _, c := range [][2]string{
		{"", ""},
		{"\x00", "\x00"},
		{"abc", "abc"},
		{"\xff", "\xff\x00"},
		{"\xff\xff", "\xff\x00\xff\x00"},
		{"\xff\x00", "\xff\x00\x00"},
		{"\x00\xffa\xfe\xff", "\x00\xff\x00a\xfe\xff\x00"},
	} {
		if got := impl.Stuff(c[0]); got != c[1] {
			t.Errorf("Stuff(%q) = %q", c[0], got)
		}
	}
	for _, n := range []int{255, 256, 5000, impl.MaxBytes} {
		s := someText(n)
		if got := impl.Stuff(s); got != strings.ReplaceAll(s, "\xff", "\xff\x00") {
			t.Errorf("Stuff of %d bytes", n)
		}
	}
	if impl.Stuff(someText(impl.MaxBytes+1)) != "" {
		t.Error("more than MaxBytes bytes")
	}
}

func TestTextsComeBackFromStuff(t *testing.T) {
	for _, s := range []string{
		"", "\x00", "\xff", someText(1000), someText(impl.MaxBytes),
		strings.Repeat("\xff", impl.MaxBytes), strings.Repeat("a", impl.MaxBytes),
	} {
		got, ok := impl.Unstuff(impl.Stuff(s))
		if !ok || got != s {
			t.Errorf("%d bytes do not come back", len(s))
		}
	}
}

// Short texts of these bytes have all ways in which a text can be no Stuff.
func TestUnstuffOfShortTexts(t *testing.T) {
	texts := textsOf("\x00\x01\xfe\xff", 5)
	from := map[string]string{}
	for _, s := range texts {
		from[strings.ReplaceAll(s, "\xff", "\xff\x00")] = s
	}
	for _, s := range texts {
		want, wantOk := from[s]
		if got, ok := impl.Unstuff(s); ok != wantOk || got != want {
			t.Errorf("Unstuff(%q) = %q, %v", s, got, ok)
		}
	}
}

func TestUnstuffOfLongTexts(t *testing.T) {
	for _, s := range []string{
		strings.Repeat("a", impl.MaxBytes+1),
		strings.Repeat("\xff\x00", impl.MaxBytes+1),
		strings.Repeat("\xff\x00", impl.MaxBytes) + "a",
		strings.Repeat("\xff\x00", impl.MaxBytes-1) + "ab",
		strings.Repeat("\xff\x00", impl.MaxBytes-1) + "\xff",
		strings.Repeat("a", 2*impl.MaxBytes),
	} {
		if got, ok := impl.Unstuff(s); ok || got != "" {
			t.Errorf("Unstuff of %d bytes gives %d", len(s), len(got))
		}
	}
}

func TestWordsComeBack(t *testing.T) {
	for _, x := range []uint32{0, 1, 255, 256, 258, 65535, 65536, 1 << 24, 16909060, 1 << 31, math.MaxUint32 - 1, math.MaxUint32} {
		want := string(binary.BigEndian.AppendUint32(nil, x))
		if got := impl.PutWord(x); got != want {
			t.Errorf("PutWord(%d) = %q", x, got)
		}
		for i := range 4 {
			s := someText(i) + want + "\xffz"
			if got := impl.GetWord(s, i); got != x {
				t.Errorf("GetWord(%q, %d) = %d", s, i, got)
			}
		}
		if got := impl.GetWord("ab"+want, 2); got != x {
			t.Errorf("a word at the very end is %d, not %d", got, x)
		}
	}
}

func TestNoFourBytes(t *testing.T) {
	for n := range 8 {
		s := strings.Repeat("\xff", n)
		for _, i := range append([]int{n - 3, n - 2, n - 1, n, n + 1}, somePlaces...) {
			if got := impl.GetWord(s, i); got != 0 {
				t.Errorf("GetWord of %d bytes at %d = %d", n, i, got)
			}
		}
	}
}

func someNums() []int {
	nums := []int{0, 1, 2, 100, 300, 999999999, 1000000000}
	for k := 7; k < 30; k += 7 {
		nums = append(nums, 1<<k-2, 1<<k-1, 1<<k, 1<<k+1)
	}
	return nums
}

func TestNumbersComeBackFromBytes(t *testing.T) {
	for _, x := range someNums() {
		want := string(binary.AppendUvarint(nil, uint64(x)))
		if got := impl.PutNum(x); got != want {
			t.Errorf("PutNum(%d) = %q", x, got)
		}
		for _, behind := range []string{"", "\x00", "\xff", "abc"} {
			for i := range 3 {
				got, at := impl.GetNum(someText(i)+want+behind, i)
				if got != x || at != i+len(want) {
					t.Errorf("%d comes back as %d, the place behind it as %d", x, got, at)
				}
			}
		}
	}
	for _, x := range []int{-1, 1000000001, 1 << 30, 1 << 32, math.MinInt, math.MaxInt} {
		if got := impl.PutNum(x); got != "" {
			t.Errorf("PutNum(%d) = %q", x, got)
		}
	}
}

func TestNoNumThere(t *testing.T) {
	long := strings.Repeat("\x80", 300)
	for _, s := range []string{
		"", "\x80", "\xff", "\x80\x80\x80\x80", "\xff\xff\xff\xff\xff",
		"\x80\x00", "\xff\x00", "\xac\x82\x00", "\x80\x80\x80\x80\x00",
		string(binary.AppendUvarint(nil, 1000000001)),
		string(binary.AppendUvarint(nil, 1<<35-1)),
		string(binary.AppendUvarint(nil, 1<<35)),
		string(binary.AppendUvarint(nil, math.MaxUint64)),
		long, long + "\x01", long + "\x00", long[:10] + "\x01", "\x81" + long[:9] + "\x01",
	} {
		if x, at := impl.GetNum(s, 0); x != -1 || at != -1 {
			t.Errorf("GetNum(%q, 0) = %d, %d", s, x, at)
		}
	}
	for _, s := range []string{"", "\x05", "\x05\x06\x07", "\xac\x02"} {
		for _, i := range append([]int{len(s), len(s) + 1, len(s) + 2}, somePlaces...) {
			if x, at := impl.GetNum(s, i); x != -1 || at != -1 {
				t.Errorf("GetNum(%q, %d) = %d, %d", s, i, x, at)
			}
		}
	}
}

func TestGetNumOfTwoBytes(t *testing.T) {
	for a := range 256 {
		for b := range 256 {
			wantX, wantAt := -1, -1
			if a < 128 {
				wantX, wantAt = a, 1
			} else if b > 0 && b < 128 {
				wantX, wantAt = a-128+128*b, 2
			}
			x, at := impl.GetNum(string([]byte{byte(a), byte(b)}), 0)
			if x != wantX || at != wantAt {
				t.Fatalf("GetNum of bytes %d and %d = %d, %d", a, b, x, at)
			}
		}
	}
}

func TestDecText(t *testing.T) {
	for _, n := range []int{0, 1, -1, 9, 10, -10, -120, 99, 100, 1000000000, -1000000000, math.MaxInt - 1, math.MinInt + 1} {
		if got := impl.DecText(n); got != fmt.Sprint(n) {
			t.Errorf("DecText(%d) = %q", n, got)
		}
		if back, err := strconv.Atoi(impl.DecText(n)); err != nil || back != n {
			t.Errorf("%d does not come back from its digits", n)
		}
	}
	if impl.DecText(math.MinInt) != "-9223372036854775808" || impl.DecText(math.MaxInt) != "9223372036854775807" {
		t.Error("the least and the greatest")
	}
}

func TestTextsComeBackFromDigits(t *testing.T) {
	for _, s := range []string{"", "\x00", "a\xff", someText(256), someText(impl.MaxBytes), strings.Repeat("\xff", impl.MaxBytes)} {
		digits := impl.HexText(s)
		if digits != hex.EncodeToString([]byte(s)) {
			t.Errorf("HexText of %d bytes", len(s))
		}
		if back, ok := impl.HexBytes(digits); !ok || back != s {
			t.Errorf("%d bytes do not come back", len(s))
		}
	}
	if impl.HexText(someText(impl.MaxBytes+1)) != "" {
		t.Error("more than MaxBytes bytes")
	}
}

func TestHexBytesOfTwoBytes(t *testing.T) {
	from := map[string]string{}
	for x := range 256 {
		from[fmt.Sprintf("%02x", x)] = string([]byte{byte(x)})
	}
	for a := range 256 {
		for b := range 256 {
			s := string([]byte{byte(a), byte(b)})
			want, wantOk := from[s]
			if got, ok := impl.HexBytes(s); got != want || ok != wantOk {
				t.Fatalf("HexBytes(%q) = %q, %v", s, got, ok)
			}
		}
	}
}

func TestHexBytesRefuses(t *testing.T) {
	for _, s := range []string{
		"0", "a", "616", "61f ", "6g", "6A", "FF", "61FF", "-1", "0x61", " 61", "61 62", "61\n", "61ffx0",
		strings.Repeat("00", impl.MaxBytes+1),
		strings.Repeat("0", 2*impl.MaxBytes+1),
		strings.Repeat("0", 2*impl.MaxBytes-1),
		strings.Repeat("0", 2*impl.MaxBytes-1) + "G",
	} {
		if got, ok := impl.HexBytes(s); ok || got != "" {
			t.Errorf("HexBytes of %d bytes gives %q", len(s), got)
		}
	}
}

func TestBitListsAreLeftAlone(t *testing.T) {
	room := someBits(64)
	kept := slices.Clone(room)
	for _, n := range []int{0, 3, 8, 13, 31, 32, 33} {
		impl.PutBits(room[:n])
		impl.BitsNum(room[:n])
		if !slices.Equal(room, kept) {
			t.Fatalf("a list of %d bits, or the room behind it, was written into", n)
		}
	}
}

func TestAnswersAreNewMemory(t *testing.T) {
	for _, ask := range []func() []int{
		func() []int { return impl.GetBits("\x81\x42") },
		func() []int { return impl.NumBits(1234567, 32) },
	} {
		a, b := ask(), ask()
		kept := slices.Clone(b)
		for i := range a {
			a[i] = 9
		}
		if !slices.Equal(b, kept) || !slices.Equal(ask(), kept) {
			t.Error("two answers share memory")
		}
	}
}
