package tests

import (
	"fmt"
	"math"
	"slices"
	"strconv"
	"strings"
	"testing"

	"loop.example/g00120/impl"
)

const top = math.MaxUint32

// noChances are such that some look like chances when their high parts are cut off.
var noChances = []int{0, 4096, -1, -2048, 4097, 8191, 1 << 32, 1<<32 + 1, 1<<32 + 2048, math.MinInt, math.MinInt + 1, math.MaxInt}

// someChances has the edges and some between them.
var someChances = []int{1, 2, 15, 16, 17, 100, 1024, 2047, 2048, 2049, 4000, 4094, 4095}

// someBounds has numbers that stand close together and far from each other.
var someBounds = []uint32{
	0, 1, 2, 255, 256, 4094, 4095, 4096, 4097, 8191, 8192, 65535, 65536,
	0x00fffffe, 0x00ffffff, 0x01000000, 0x01000001, 0x12345678, 0x12345679, 0x12346678, 0x12346679, 0x12ffffff, 0x13000000, 0x13000fff,
	0x7ffff7ff, 0x7ffff800, 0x7fffffff, 0x80000000, 0x80000001, 0x80000fff, 0x80001000,
	0xfeffffff, 0xff000000, 0xffffefff, 0xfffff000, 0xffffff00, 0xfffffffe, 0xffffffff,
}

// someNumbers gives n numbers of 0 .. below - 1 that repeat only after long.
func someNumbers(seed uint64, n int, below int) []int {
	list := make([]int, n)
	x := seed*2862933555777941757 + 88172645463325252
	for i := range list {
		x ^= x << 13
		x ^= x >> 7
		x ^= x << 17
		list[i] = int(x>>11) % below
	}
	return list
}

func chancesFrom(seed uint64, n int) []int {
	list := someNumbers(seed, n, 4095)
	for i := range list {
		list[i]++
	}
	return list
}

// likelyBits gives bits that are as often 1 as the chances say.
func likelyBits(seed uint64, chances []int) []int {
	bits := make([]int, len(chances))
	for i, x := range someNumbers(seed, len(chances), 4096) {
		if x < chances[i] {
			bits[i] = 1
		}
	}
	return bits
}

// learnt gives the chance that each bit has when all were told by one chance.
func learnt(p int, bits []int) []int {
	list := []int{}
	for _, bit := range bits {
		list = append(list, p)
		p = impl.Learn(p, bit)
	}
	return list
}

// plainMid reckons where nothing can wrap.
func plainMid(low uint32, high uint32, p int) uint32 {
	if p < 1 || p > 4095 || low > high {
		return low
	}
	apart := int(high) - int(low)
	return uint32(int(low) + (apart-apart%4096)/4096*p)
}

// plainBounds narrows by the words of the document, with the bounds as hexadecimal
// digits, and gives the bytes that go.
func plainBounds(low uint32, high uint32, bit int, p int) (uint32, uint32, string) {
	mid := plainMid(low, high, p)
	if bit == 1 {
		high = mid
	} else {
		low = mid + 1
	}
	a, b, gone := fmt.Sprintf("%08x", low), fmt.Sprintf("%08x", high), ""
	for a[:2] == b[:2] {
		x, _ := strconv.ParseUint(a[:2], 16, 8)
		gone += string([]byte{byte(x)})
		a, b = a[2:]+"00", b[2:]+"ff"
	}
	l, _ := strconv.ParseUint(a, 16, 32)
	h, _ := strconv.ParseUint(b, 16, 32)
	return uint32(l), uint32(h), gone
}

func plainPut(c impl.Coder, bit int, p int) impl.Coder {
	if bit != 0 && bit != 1 || p < 1 || p > 4095 || c.Low > c.High || len(c.Out) >= 60000 {
		return c
	}
	low, high, gone := plainBounds(c.Low, c.High, bit, p)
	return impl.Coder{Low: low, High: high, Out: c.Out + gone}
}

func plainGet(r impl.Reader, p int) (impl.Reader, int) {
	if p < 1 || p > 4095 || r.Low > r.High || r.At < 0 || r.At > 60008 {
		return r, -1
	}
	bit := 0
	if r.Code <= plainMid(r.Low, r.High, p) {
		bit = 1
	}
	gone := ""
	r.Low, r.High, gone = plainBounds(r.Low, r.High, bit, p)
	for range len(gone) {
		next := byte(0)
		if r.At < len(r.In) {
			next = r.In[r.At]
		}
		r.Code = uint32(uint64(r.Code) * 256 % (1 << 32))
		r.Code += uint32(next)
		r.At++
	}
	return r, bit
}

// plainAll answers CodeAll, and how long Out was behind each bit.
func plainAll(bits []int, chances []int) (string, bool, []int) {
	low, high := uint32(0), uint32(top)
	out := []byte{}
	lengths := []int{}
	for i, bit := range bits {
		if len(out) >= 60000 {
			return "", false, lengths
		}
		gone := ""
		low, high, gone = plainBounds(low, high, bit, chances[i])
		out = append(out, gone...)
		lengths = append(lengths, len(out))
	}
	if len(out) > 60000 {
		return "", false, lengths
	}
	return string(out) + string([]byte{byte(low >> 24), byte(low >> 16), byte(low >> 8), byte(low)}), true, lengths
}

func comeBack(t *testing.T, name string, bits []int, chances []int) string {
	t.Helper()
	s, ok := impl.CodeAll(bits, chances)
	if !ok {
		t.Errorf("%s: not written", name)
		return ""
	}
	back, ok := impl.ReadAll(s, chances)
	if !ok || !slices.Equal(back, bits) {
		t.Errorf("%s: the bits do not come back", name)
	}
	return s
}

func notCoded(t *testing.T, name string, bits []int, chances []int) {
	t.Helper()
	if s, ok := impl.CodeAll(bits, chances); ok || s != "" {
		t.Errorf("%s: CodeAll = %d bytes, %v", name, len(s), ok)
	}
}

func notReadAll(t *testing.T, name string, s string, chances []int) {
	t.Helper()
	if bits, ok := impl.ReadAll(s, chances); ok || len(bits) != 0 {
		t.Errorf("%s: ReadAll = %d bits, %v", name, len(bits), ok)
	}
}

func TestCoderStart(t *testing.T) {
	for _, ahead := range []string{"", "ab", "\x00\xff", someText(impl.MaxBytes), someText(impl.MaxBytes + 1)} {
		c := impl.CoderStart(ahead)
		if c != (impl.Coder{Low: 0, High: top, Out: ahead}) {
			t.Errorf("%d bytes ahead: %d %d and %d bytes", len(ahead), c.Low, c.High, len(c.Out))
		}
	}
}

func TestCoderMidSpeltOut(t *testing.T) {
	for _, c := range []struct {
		low, high uint32
		p         int
		want      uint32
	}{
		{0, top, 1, 1048575},
		{0, top, 2048, 2147481600},
		{0, top, 4095, 4293914625},
		{0, 4096, 1, 1},
		{0, 4096, 4095, 4095},
		{0, 4095, 1, 0},
		{0, 4095, 4095, 0},
		{0, 8191, 4095, 4095},
		{0, 8192, 4095, 8190},
		{100, 100, 2048, 100},
		{100, 101, 2048, 100},
		{100, 4195, 4095, 100},
		{100, 4196, 4095, 4195},
		{top, top, 4095, top},
		{top - 1, top, 4095, top - 1},
		{top - 4096, top, 4095, top - 1},
		{0x80000000, top, 2048, 0x80000000 + 524287*2048},
		{5, 4, 1, 5},
		{top, 0, 2048, top},
		{0, top, 0, 0},
		{7, top, 4096, 7},
		{7, top, -1, 7},
	} {
		if got := impl.CoderMid(c.low, c.high, c.p); got != c.want {
			t.Errorf("CoderMid(%d, %d, %d) = %d, not %d", c.low, c.high, c.p, got, c.want)
		}
	}
}

func TestCoderMidStaysBelowHigh(t *testing.T) {
	for _, low := range someBounds {
		for _, high := range someBounds {
			for _, p := range someChances {
				mid := impl.CoderMid(low, high, p)
				if mid != plainMid(low, high, p) {
					t.Fatalf("CoderMid(%d, %d, %d) = %d", low, high, p, mid)
				}
				if low < high && (mid < low || mid >= high) {
					t.Fatalf("the middle of %d and %d with %d is %d", low, high, p, mid)
				}
				if low <= high && high-low < 4096 && mid != low {
					t.Fatalf("the middle of %d and %d, that are close, with %d is %d", low, high, p, mid)
				}
			}
			for _, p := range noChances {
				if got := impl.CoderMid(low, high, p); got != low {
					t.Fatalf("CoderMid(%d, %d, %d) = %d", low, high, p, got)
				}
			}
		}
	}
}

func TestCoderPutSpeltOut(t *testing.T) {
	for _, c := range []struct {
		name string
		from impl.Coder
		bit  int
		p    int
		want impl.Coder
	}{
		{"no byte goes for a 1", impl.Coder{High: top, Out: "x"}, 1, 2048, impl.Coder{High: 2147481600, Out: "x"}},
		{"no byte goes for a 0", impl.Coder{High: top, Out: "x"}, 0, 2048, impl.Coder{Low: 2147481601, High: top, Out: "x"}},
		{"one goes", impl.Coder{High: top, Out: "x"}, 1, 1, impl.Coder{High: 0x0fffffff, Out: "x\x00"}},
		{"one goes for a 0", impl.Coder{High: top}, 0, 4095, impl.Coder{Low: 0xeff00200, High: top, Out: "\xff"}},
		{"two go", impl.Coder{High: 0x0fffffff}, 1, 1, impl.Coder{High: top, Out: "\x00\x00"}},
		{"three go", impl.Coder{Low: 0x12ff0000, High: 0x1300ffff}, 1, 1, impl.Coder{High: 0x1fffffff, Out: "\x12\xff\x00"}},
		{"equal bounds, a 1", impl.Coder{Low: 0x12345678, High: 0x12345678}, 1, 9, impl.Coder{High: top, Out: "\x12\x34\x56\x78"}},
		{"equal bounds, a 0", impl.Coder{Low: 0x12345678, High: 0x12345678}, 0, 9, impl.Coder{Low: 0x79000000, High: 0x78ffffff, Out: "\x12\x34\x56"}},
		{"equal bounds at 0, a 0", impl.Coder{}, 0, 9, impl.Coder{Low: 0x01000000, High: 0x00ffffff, Out: "\x00\x00\x00"}},
		{"equal bounds at the top, a 1", impl.Coder{Low: top, High: top}, 1, 9, impl.Coder{High: top, Out: "\xff\xff\xff\xff"}},
		{"equal bounds at the top, a 0", impl.Coder{Low: top, High: top}, 0, 9, impl.Coder{High: top}},
		{"one apart, a 1", impl.Coder{Low: 0x12ffffff, High: 0x13000000}, 1, 4095, impl.Coder{High: top, Out: "\x12\xff\xff\xff"}},
		{"one apart, a 0", impl.Coder{Low: 0x12ffffff, High: 0x13000000}, 0, 4095, impl.Coder{High: top, Out: "\x13\x00\x00\x00"}},
		{"4095 apart, a 1", impl.Coder{Low: 0x12fff801, High: 0x13000800}, 1, 4095, impl.Coder{High: top, Out: "\x12\xff\xf8\x01"}},
		{"4095 apart, a 0", impl.Coder{Low: 0x12fff801, High: 0x13000800}, 0, 1, impl.Coder{Low: 0x12fff802, High: 0x13000800}},
		{"4096 apart, a 1", impl.Coder{Low: 0x12fff800, High: 0x13000800}, 1, 4095, impl.Coder{Low: 0x12fff800, High: 0x130007ff}},
		{"4096 apart, a 0", impl.Coder{Low: 0x12fff800, High: 0x13000800}, 0, 4095, impl.Coder{High: top, Out: "\x13\x00\x08\x00"}},
		{"the same byte ahead of it", impl.Coder{Low: 0x41000000, High: 0x41ffffff}, 1, 2048, impl.Coder{High: 0x7ff800ff, Out: "A"}},
		{"Low above High", impl.Coder{Low: 6, High: 5, Out: "y"}, 1, 2048, impl.Coder{Low: 6, High: 5, Out: "y"}},
		{"Low far above High", impl.Coder{Low: top, High: 0}, 0, 2048, impl.Coder{Low: top, High: 0}},
	} {
		if got := impl.CoderPut(c.from, c.bit, c.p); got != c.want {
			t.Errorf("%s: %x %x %q", c.name, got.Low, got.High, got.Out)
		}
	}
}

func TestCoderPutAsThePlainOne(t *testing.T) {
	gone := map[int]int{}
	for _, low := range someBounds {
		for _, high := range someBounds {
			for _, p := range someChances {
				for bit := range 2 {
					c := impl.Coder{Low: low, High: high, Out: "ahead"}
					got, want := impl.CoderPut(c, bit, p), plainPut(c, bit, p)
					if got != want {
						t.Fatalf("%x %x, %d with %d: %x %x %q, not %x %x %q", low, high, bit, p, got.Low, got.High, got.Out, want.Low, want.High, want.Out)
					}
					gone[len(got.Out)-len(c.Out)]++
				}
			}
		}
	}
	for n := range 5 {
		if gone[n] == 0 {
			t.Errorf("no bit for which %d bytes go", n)
		}
	}
}

func TestBoundsStayApart(t *testing.T) {
	for _, low := range someBounds {
		for _, high := range someBounds {
			if low >= high {
				continue
			}
			for _, p := range someChances {
				for bit := range 2 {
					c := impl.CoderPut(impl.Coder{Low: low, High: high}, bit, p)
					if c.Low>>24 >= c.High>>24 {
						t.Fatalf("%x %x, %d with %d: %x %x", low, high, bit, p, c.Low, c.High)
					}
				}
			}
		}
	}
	closest := uint32(top)
	for seed := range uint64(20) {
		chances := chancesFrom(seed, 3000)
		c := impl.CoderStart("")
		for i, bit := range someNumbers(seed+50, len(chances), 2) {
			c = impl.CoderPut(c, bit, chances[i])
			if c.Low>>24 >= c.High>>24 {
				t.Fatalf("list %d: %x %x", seed, c.Low, c.High)
			}
			closest = min(closest, c.High-c.Low)
		}
	}
	if closest >= 1<<24 {
		t.Error("no bounds that were closer than a byte")
	}
}

// The middle of close bounds is the lower one: a 1 leaves that alone, a 0 all the rest.
func TestBitsOfCloseBoundsComeBack(t *testing.T) {
	for _, apart := range []uint32{1, 2, 255, 256, 4094, 4095, 4096, 4097} {
		for _, low := range []uint32{0x12ffffff, 0x00ffffff, 0xfeffffff} {
			high := low + apart
			for _, list := range textsOf("01", 7) {
				for _, p := range someChances {
					c := impl.Coder{Low: low, High: high}
					for _, x := range list {
						c = impl.CoderPut(c, int(x-'0'), p)
					}
					s := impl.CoderEnd(c)
					r := impl.ReaderStart(s)
					r.Low, r.High = low, high
					back, bit := "", 0
					for range list {
						r, bit = impl.ReaderGet(r, p)
						back += strconv.Itoa(bit)
					}
					if back != list {
						t.Fatalf("%d apart from %x, with %d: %s comes back as %s", apart, low, p, list, back)
					}
				}
			}
		}
	}
}

func TestCoderPutRefuses(t *testing.T) {
	for _, out := range []string{"", "abc", someText(impl.MaxBytes - 1)} {
		for _, c := range []impl.Coder{impl.CoderStart(out), {Low: 7, High: 9, Out: out}, {Low: 8, High: 8, Out: out}} {
			for _, bit := range noBits {
				if impl.CoderPut(c, bit, 2048) != c {
					t.Errorf("the bit %d", bit)
				}
			}
			for _, p := range noChances {
				if impl.CoderPut(c, 0, p) != c || impl.CoderPut(c, 1, p) != c {
					t.Errorf("the chance %d", p)
				}
			}
		}
	}
}

func TestCoderPutWithALongOut(t *testing.T) {
	for _, n := range []int{impl.MaxBytes, impl.MaxBytes + 1, impl.MaxBytes + 4, 2 * impl.MaxBytes} {
		for _, c := range []impl.Coder{impl.CoderStart(someText(n)), {Low: 0x12ffffff, High: 0x13000000, Out: someText(n)}} {
			if impl.CoderPut(c, 0, 2048) != c || impl.CoderPut(c, 1, 1) != c {
				t.Errorf("an Out of %d bytes", n)
			}
		}
	}
	out := someText(impl.MaxBytes - 1)
	if c := impl.CoderPut(impl.CoderStart(out), 1, 2048); c != (impl.Coder{High: 2147481600, Out: out}) {
		t.Error("an Out of one byte less, and none goes")
	}
	if c := impl.CoderPut(impl.CoderStart(out), 1, 1); c != (impl.Coder{High: 0x0fffffff, Out: out + "\x00"}) {
		t.Error("an Out of one byte less, and one goes")
	}
	c := impl.CoderPut(impl.Coder{Low: 0x12ffffff, High: 0x13000000, Out: out}, 0, 2048)
	if c != impl.CoderStart(out+"\x13\x00\x00\x00") {
		t.Error("an Out of one byte less, and four go")
	}
}

func TestCoderEnd(t *testing.T) {
	for _, c := range []struct {
		from impl.Coder
		want string
	}{
		{impl.Coder{}, "\x00\x00\x00\x00"},
		{impl.CoderStart("ab"), "ab\x00\x00\x00\x00"},
		{impl.Coder{Low: 0x12345678, High: top, Out: "\xff"}, "\xff\x12\x34\x56\x78"},
		{impl.Coder{Low: top, High: 0, Out: "z"}, "z\xff\xff\xff\xff"},
		{impl.Coder{Low: 1, Out: someText(impl.MaxBytes + 1)}, someText(impl.MaxBytes+1) + "\x00\x00\x00\x01"},
	} {
		if got := impl.CoderEnd(c.from); got != c.want {
			t.Errorf("CoderEnd of %x with %d bytes: %d bytes", c.from.Low, len(c.from.Out), len(got))
		}
	}
}

func TestReaderStart(t *testing.T) {
	for _, c := range []struct {
		s    string
		want uint32
	}{
		{"", 0},
		{"\x12", 0x12000000},
		{"\x12\x34", 0x12340000},
		{"\x12\x34\x56", 0x12345600},
		{"\x12\x34\x56\x78", 0x12345678},
		{"\x12\x34\x56\x78\x9a", 0x12345678},
		{"\xff", 0xff000000},
		{"\xff\xff\xff\xff\xff", 0xffffffff},
		{"\x00\x00\x00\x01", 1},
	} {
		if got := impl.ReaderStart(c.s); got != (impl.Reader{High: top, Code: c.want, In: c.s, At: 4}) {
			t.Errorf("ReaderStart(%q) = %x %x %x %d", c.s, got.Low, got.High, got.Code, got.At)
		}
	}
	s := someText(impl.MaxBytes + 5)
	if got := impl.ReaderStart(s); got.In != s || got.At != 4 || got.Code != impl.GetWord(s, 0) {
		t.Error("a long text")
	}
}

func TestReaderGetSpeltOut(t *testing.T) {
	mid := uint32(2147481600)
	for _, c := range []struct {
		name string
		from impl.Reader
		p    int
		want impl.Reader
		bit  int
	}{
		{"Code is the middle", impl.Reader{High: top, Code: mid, In: "abcd", At: 4}, 2048, impl.Reader{High: mid, Code: mid, In: "abcd", At: 4}, 1},
		{"one behind the middle", impl.Reader{High: top, Code: mid + 1, At: 4}, 2048, impl.Reader{Low: mid + 1, High: top, Code: mid + 1, At: 4}, 0},
		{"a byte comes", impl.Reader{High: top, Code: 0xfffff, In: "....\x41", At: 4}, 1, impl.Reader{High: 0x0fffffff, Code: 0x0fffff41, In: "....\x41", At: 5}, 1},
		{"a byte is lacking", impl.Reader{High: top, Code: 0xfffff, In: "....", At: 4}, 1, impl.Reader{High: 0x0fffffff, Code: 0x0fffff00, In: "....", At: 5}, 1},
		{"four come", impl.Reader{Low: 9, High: 9, Code: 9, In: "\x01\x02\x03\x04\x05", At: 0}, 7, impl.Reader{High: top, Code: 0x01020304, In: "\x01\x02\x03\x04\x05", At: 4}, 1},
		{"four come, of which two are lacking", impl.Reader{Low: 9, High: 9, Code: 3, In: "\x01\x02", At: 0}, 7, impl.Reader{High: top, Code: 0x01020000, In: "\x01\x02", At: 4}, 1},
		{"equal bounds below Code", impl.Reader{Low: 0x12345678, High: 0x12345678, Code: top, In: "abcd", At: 1}, 7, impl.Reader{Low: 0x79000000, High: 0x78ffffff, Code: 0xff000000 + 0x626364, In: "abcd", At: 4}, 0},
		{"equal bounds at the top", impl.Reader{Low: top, High: top, Code: top, In: "abcd"}, 7, impl.Reader{High: top, Code: 0x61626364, In: "abcd", At: 4}, 1},
		{"Code below Low", impl.Reader{Low: 100, High: top, Code: 99, At: 4}, 2048, impl.Reader{Low: 100, High: 100 + 2048*1048575, Code: 99, At: 4}, 1},
		{"Code above High", impl.Reader{High: 0x7fffffff, Code: top, At: 4}, 2048, impl.Reader{Low: 2048*524287 + 1, High: 0x7fffffff, Code: top, At: 4}, 0},
		{"Low above High", impl.Reader{Low: 6, High: 5, Code: 5, In: "abcd", At: 4}, 2048, impl.Reader{Low: 6, High: 5, Code: 5, In: "abcd", At: 4}, -1},
	} {
		got, bit := impl.ReaderGet(c.from, c.p)
		if got != c.want || bit != c.bit {
			t.Errorf("%s: %x %x %x %q %d and %d", c.name, got.Low, got.High, got.Code, got.In, got.At, bit)
		}
	}
}

func TestReaderGetAsThePlainOne(t *testing.T) {
	in := "\x80\x00\xff\x13\x37"
	for i, low := range someBounds {
		for k, high := range someBounds {
			for m, code := range []uint32{low, high, low - 1, low + 1, high - 1, high + 1, low/2 + high/2, plainMid(low, high, 2048), 0, top} {
				for _, p := range someChances {
					r := impl.Reader{Low: low, High: high, Code: code, In: in, At: (i + k + m) % 8}
					got, bit := impl.ReaderGet(r, p)
					want, wantBit := plainGet(r, p)
					if got != want || bit != wantBit {
						t.Fatalf("%x with %d: %x and %d, not %x and %d", r, p, got, bit, want, wantBit)
					}
				}
			}
		}
	}
}

func TestReaderGetAt(t *testing.T) {
	long := someText(impl.MaxBytes + 20)
	for _, in := range []string{"", "a", "abcdef", long[:impl.MaxBytes], long} {
		n := len(in)
		for _, at := range []int{0, 1, 3, 4, n - 1, n, n + 1, n + 5, impl.MaxBytes - 1, impl.MaxBytes, impl.MaxBytes + 7, impl.MaxBytes + 8} {
			if at < 0 || at > impl.MaxBytes+8 {
				continue
			}
			for _, r := range []impl.Reader{{High: top, Code: 77}, {Low: 0x12ffffff, High: 0x13000000, Code: 0x13000000}, {High: top, Code: top}} {
				r.In, r.At = in, at
				for _, p := range []int{1, 2048, 4095} {
					got, bit := impl.ReaderGet(r, p)
					want, wantBit := plainGet(r, p)
					if got != want || bit != wantBit || bit < 0 {
						t.Errorf("%d bytes at %d: %x and %d", n, at, got.Code, bit)
					}
				}
			}
		}
		for _, at := range []int{-1, -4, math.MinInt, impl.MaxBytes + 9, impl.MaxBytes + 10, math.MaxInt - 1, math.MaxInt} {
			for _, r := range []impl.Reader{{High: top, Code: 77}, {Low: 5, High: 5, Code: 5}} {
				r.In, r.At = in, at
				if got, bit := impl.ReaderGet(r, 2048); got != r || bit != -1 {
					t.Errorf("%d bytes at %d: %d", n, at, bit)
				}
			}
		}
	}
	far := impl.Reader{Low: 9, High: 9, Code: 9, In: long, At: impl.MaxBytes + 8}
	got, bit := impl.ReaderGet(far, 2048)
	if bit != 1 || got != (impl.Reader{High: top, Code: impl.GetWord(long, far.At), In: long, At: far.At + 4}) {
		t.Error("four bytes behind MaxBytes and 8")
	}
}

func TestReaderGetRefuses(t *testing.T) {
	for _, r := range []impl.Reader{{}, impl.ReaderStart("abcdef"), {Low: 3, High: 3, At: 9}, {Low: 0x12ffffff, High: 0x13000000, Code: 5}} {
		for _, p := range noChances {
			if got, bit := impl.ReaderGet(r, p); got != r || bit != -1 {
				t.Errorf("the chance %d: %d", p, bit)
			}
		}
		r.Low, r.High = 1, 0
		for _, p := range someChances {
			if got, bit := impl.ReaderGet(r, p); got != r || bit != -1 {
				t.Errorf("Low above High, with %d: %d", p, bit)
			}
		}
	}
}

func TestBitsSpeltOut(t *testing.T) {
	for _, c := range []struct {
		bits    []int
		chances []int
		want    string
	}{
		{nil, nil, "\x00\x00\x00\x00"},
		{[]int{}, nil, "\x00\x00\x00\x00"},
		{[]int{1}, []int{2048}, "\x00\x00\x00\x00"},
		{[]int{0}, []int{2048}, "\x7f\xff\xf8\x01"},
		{[]int{1}, []int{1}, "\x00\x00\x00\x00\x00"},
		{[]int{0}, []int{1}, "\x00\x10\x00\x00"},
		{[]int{1, 1}, []int{1, 1}, "\x00\x00\x00\x00\x00\x00\x00"},
		{[]int{0, 0}, []int{4095, 4095}, "\xff\xff\xfe\xf1\x02\x00"},
	} {
		got, ok := impl.CodeAll(c.bits, c.chances)
		if !ok || got != c.want {
			t.Errorf("%v with %v: %q, not %q", c.bits, c.chances, got, c.want)
		}
		if back, ok := impl.ReadAll(got, c.chances); !ok || !slices.Equal(back, c.bits) {
			t.Errorf("%v with %v comes back as %v", c.bits, c.chances, back)
		}
	}
}

func TestAllShortBitsComeBack(t *testing.T) {
	for _, list := range textsOf("01", 9) {
		bits := bitsOf(list)
		for seed := range uint64(4) {
			lists := [][]int{chancesFrom(seed, len(bits)), slices.Repeat([]int{someChances[seed]}, len(bits))}
			for _, p := range []int{1, 4095} {
				mixed := slices.Repeat([]int{p}, len(bits))
				for i := range mixed {
					if (uint64(i)+seed)%3 == 0 {
						mixed[i] = 4096 - p
					}
				}
				lists = append(lists, mixed)
			}
			for _, chances := range lists {
				s := comeBack(t, fmt.Sprint(list, " with ", chances), bits, chances)
				if want, _, _ := plainAll(bits, chances); s != want {
					t.Fatalf("%s with %v: %q, not %q", list, chances, s, want)
				}
			}
		}
	}
}

func TestManyBitsComeBack(t *testing.T) {
	for seed := range uint64(40) {
		n := 100 * int(seed)
		chances := chancesFrom(seed, n)
		even := someNumbers(seed+7, n, 2)
		likely := likelyBits(seed, chances)
		against := []int{}
		for _, p := range chances {
			against = append(against, (4096-p)/2048%2)
		}
		for k, bits := range [][]int{even, likely, against, make([]int, n), slices.Repeat([]int{1}, n)} {
			name := fmt.Sprint("list ", seed, " ", k)
			s := comeBack(t, name, bits, chances)
			if want, _, _ := plainAll(bits, chances); s != want {
				t.Errorf("%s is not as the plain one", name)
			}
			comeBack(t, name+", learning", bits, learnt(2048, bits))
		}
	}
}

// CodeAll and ReadAll do no more than their steps one after the other.
func TestAllIsOneStepAfterTheOther(t *testing.T) {
	chances := chancesFrom(3, 2000)
	bits := likelyBits(4, chances)
	c := impl.CoderStart("")
	for i, bit := range bits {
		c = impl.CoderPut(c, bit, chances[i])
	}
	s, ok := impl.CodeAll(bits, chances)
	if !ok || s != impl.CoderEnd(c) {
		t.Fatal("CodeAll")
	}
	r := impl.ReaderStart(s)
	for i, p := range chances {
		bit := 0
		r, bit = impl.ReaderGet(r, p)
		if bit != bits[i] || r.Low > r.Code || r.Code > r.High {
			t.Fatalf("bit %d is %d, at %x %x %x", i, bit, r.Low, r.Code, r.High)
		}
	}
	if r.Low != c.Low || r.High != c.High || r.Code != c.Low || r.At != len(s) {
		t.Errorf("the reader ends at %x %x %x, place %d", r.Low, r.High, r.Code, r.At)
	}
}

func TestWhatStandsAheadIsKept(t *testing.T) {
	chances := chancesFrom(8, 500)
	bits := likelyBits(9, chances)
	s, _ := impl.CodeAll(bits, chances)
	for _, ahead := range []string{"a", "\x00\x00\x00\x00", "\xff", someText(1000)} {
		c := impl.CoderStart(ahead)
		for i, bit := range bits {
			c = impl.CoderPut(c, bit, chances[i])
		}
		if impl.CoderEnd(c) != ahead+s {
			t.Errorf("%d bytes ahead", len(ahead))
		}
	}
}

func TestLikelyBitsAreWrittenWithFewer(t *testing.T) {
	for _, c := range []struct {
		bit, p, most int
	}{
		{0, 1, 30}, {1, 4095, 30}, {0, 41, 150}, {1, 4055, 150}, {0, 2048, 1260}, {1, 2048, 1260},
	} {
		bits := slices.Repeat([]int{c.bit}, 10000)
		s := comeBack(t, fmt.Sprint(c), bits, slices.Repeat([]int{c.p}, 10000))
		if len(s) > c.most {
			t.Errorf("10000 times %d with %d are %d bytes", c.bit, c.p, len(s))
		}
	}
	bits := likelyBits(1, slices.Repeat([]int{100}, 20000))
	if s := comeBack(t, "learning", bits, learnt(2048, bits)); len(s) > 600 {
		t.Errorf("20000 bits of which few are 1 are %d bytes", len(s))
	}
}

func TestBytesThatAreLacking(t *testing.T) {
	for seed := range uint64(30) {
		chances := chancesFrom(seed, 40)
		bits := someNumbers(seed+90, 40, 2)
		s, _ := impl.CodeAll(bits, chances)
		more := "\x00\xff" + someText(20)
		if back, ok := impl.ReadAll(s+more, chances); !ok || !slices.Equal(back, bits) {
			t.Errorf("list %d does not come back from a longer text", seed)
		}
		for n := range len(s) + 1 {
			cut := s[:n]
			got, ok := impl.ReadAll(cut, chances)
			want, _ := impl.ReadAll(cut+strings.Repeat("\x00", 200), chances)
			if !ok || len(got) != len(chances) || !slices.Equal(got, want) {
				t.Errorf("list %d, of which %d bytes are left", seed, n)
			}
			r := impl.ReaderStart(cut)
			bit := 0
			for i, p := range chances {
				if r, bit = plainGet(r, p); bit != got[i] {
					t.Fatalf("list %d, of which %d bytes are left: bit %d", seed, n, i)
				}
			}
		}
	}
	ones := slices.Repeat([]int{1}, 50)
	rare := slices.Repeat([]int{1}, 50)
	if back, ok := impl.ReadAll("", rare); !ok || !slices.Equal(back, ones) {
		t.Error("the empty text")
	}
	if back, ok := impl.ReadAll("", nil); !ok || len(back) != 0 {
		t.Error("the empty text and no chances")
	}
}

func TestAllRefuse(t *testing.T) {
	chances := chancesFrom(5, 30)
	bits := someNumbers(6, 30, 2)
	s, ok := impl.CodeAll(bits, chances)
	if !ok {
		t.Fatal("not written")
	}
	notCoded(t, "a bit fewer", bits[:29], chances)
	notCoded(t, "a chance fewer", bits, chances[:29])
	notCoded(t, "no bits", nil, chances)
	notCoded(t, "no chances", bits, nil)
	notCoded(t, "one bit and no chance", []int{1}, nil)
	notCoded(t, "no bit and one chance", nil, []int{2048})
	for _, at := range []int{0, 15, 29} {
		for _, x := range noBits {
			wrong := slices.Clone(bits)
			wrong[at] = x
			notCoded(t, fmt.Sprint("the bit ", x), wrong, chances)
		}
		for _, p := range noChances {
			wrong := slices.Clone(chances)
			wrong[at] = p
			notCoded(t, fmt.Sprint("the chance ", p), bits, wrong)
			notReadAll(t, fmt.Sprint("the chance ", p), s, wrong)
			notReadAll(t, fmt.Sprint("the chance ", p), "", wrong)
		}
	}
}

func TestUpToMaxBits(t *testing.T) {
	many := impl.MaxBits + 1
	cheap := slices.Repeat([]int{1}, many)
	zeros := make([]int, many)
	for _, n := range []int{impl.MaxBits - 1, impl.MaxBits} {
		s := comeBack(t, fmt.Sprint(n, " cheap bits"), zeros[:n], cheap[:n])
		if want, _, _ := plainAll(zeros[:n], cheap[:n]); s != want {
			t.Errorf("%d cheap bits", n)
		}
	}
	notCoded(t, "one bit more", zeros, cheap)
	// Such a text is long enough for many more cheap bits.
	long := strings.Repeat("\xff", 1000)
	if back, ok := impl.ReadAll(long, cheap[:impl.MaxBits]); !ok || !slices.Equal(back, zeros[:impl.MaxBits]) {
		t.Error("MaxBits chances")
	}
	notReadAll(t, "one chance more", long, cheap)
	notReadAll(t, "one chance more and nothing to read", "", cheap)
	notCoded(t, "a bit more than chances", zeros, cheap[:impl.MaxBits])
	notCoded(t, "a chance more than bits", zeros[:impl.MaxBits], cheap)
	wrong := slices.Clone(cheap[:impl.MaxBits])
	wrong[impl.MaxBits-1] = 4096
	notCoded(t, "the last chance is none", zeros[:impl.MaxBits], wrong)
	notReadAll(t, "the last chance is none", long, wrong)
	noBit := slices.Clone(zeros[:impl.MaxBits])
	noBit[impl.MaxBits-1] = 2
	notCoded(t, "the last bit is none", noBit, cheap[:impl.MaxBits])
	bits := someNumbers(1, impl.MaxBits, 2)
	comeBack(t, "learning", bits[:impl.MaxBits/2], learnt(2048, bits[:impl.MaxBits/2]))
}

// brimBits gives bits whose Out grows past MaxBytes, after some that shift where.
func brimBits(ahead int) ([]int, []int) {
	bits := slices.Repeat([]int{0}, ahead)
	chances := slices.Repeat([]int{2048}, ahead)
	return append(bits, slices.Repeat([]int{1}, 40010)...), append(chances, slices.Repeat([]int{1}, 40010)...)
}

func TestOutUpToMaxBytes(t *testing.T) {
	exact, past, passed := false, false, false
	for ahead := range 12 {
		bits, chances := brimBits(ahead)
		_, _, lengths := plainAll(bits, chances)
		n := len(lengths)
		last := lengths[n-1]
		want, ok, _ := plainAll(bits[:n], chances[:n])
		if ok != (last == impl.MaxBytes) {
			t.Fatal("the plain one is wrong")
		}
		if ok {
			exact = true
			s := comeBack(t, "just MaxBytes", bits[:n], chances[:n])
			if s != want || len(s) != impl.MaxBytes+4 {
				t.Errorf("just MaxBytes: %d bytes", len(s))
			}
		} else {
			past = true
			notCoded(t, fmt.Sprint("an Out of ", last, " bytes"), bits[:n], chances[:n])
		}
		passed = passed || lengths[n-2] == impl.MaxBytes-1
		s := comeBack(t, fmt.Sprint("an Out of ", lengths[n-2]), bits[:n-1], chances[:n-1])
		if len(s) != lengths[n-2]+4 {
			t.Errorf("an Out of %d bytes: %d bytes", lengths[n-2], len(s))
		}
		notCoded(t, "MaxBytes ahead of a bit", bits[:n+1], chances[:n+1])
		notCoded(t, "MaxBytes ahead of many bits", bits, chances)
	}
	if !exact || !past || !passed {
		t.Error("no list of just MaxBytes bytes, or none that goes past them, or none from one byte less on")
	}
	bits, chances := brimBits(0)
	s, ok := impl.CodeAll(bits[:40000], chances[:40000])
	if !ok || s != strings.Repeat("\x00", impl.MaxBytes+4) {
		t.Error("40000 rare bits")
	}
	cheap := append(slices.Clone(bits[:40000]), 0)
	notCoded(t, "a bit for which no byte goes", cheap, append(slices.Clone(chances[:40000]), 1))
}

// Where ReaderGet has no bit any more, ReadAll has none.
func TestReadAllGoesNoFartherThanReaderGet(t *testing.T) {
	s := strings.Repeat("\x00", impl.MaxBytes+4)
	rare := slices.Repeat([]int{1}, 40020)
	r := impl.ReaderStart(s)
	told, bit := 0, 0
	for _, p := range rare {
		if r, bit = impl.ReaderGet(r, p); bit < 0 {
			break
		}
		told++
	}
	if told != 40004 || r.At != impl.MaxBytes+10 {
		t.Fatalf("ReaderGet has %d bits, and ends at %d", told, r.At)
	}
	for _, text := range []string{s, "", s + "\x00\x00\x00\x00\x00\x00\x00\x00"} {
		if bits, ok := impl.ReadAll(text, rare[:told]); !ok || !slices.Equal(bits, slices.Repeat([]int{1}, told)) {
			t.Errorf("%d bytes and as many chances as there are bits", len(text))
		}
		notReadAll(t, "a chance more than there are bits", text, rare[:told+1])
		notReadAll(t, "many chances more than there are bits", text, rare)
	}
}

func TestReadAllOfAnyText(t *testing.T) {
	chances := chancesFrom(77, 3000)
	for _, s := range []string{"", "a", someText(100), strings.Repeat("\xff", 5000), strings.Repeat("\x00", 5000), someText(impl.MaxBytes), someText(impl.MaxBytes + 100)} {
		bits, ok := impl.ReadAll(s, chances)
		if !ok || len(bits) != len(chances) {
			t.Fatalf("%d bytes: %d bits", len(s), len(bits))
		}
		r := impl.ReaderStart(s)
		bit := 0
		for i, p := range chances {
			if r, bit = plainGet(r, p); bit != bits[i] {
				t.Fatalf("%d bytes: bit %d", len(s), i)
			}
		}
		comeBack(t, fmt.Sprint("what ", len(s), " bytes tell"), bits, chances)
	}
}

func TestLearnSpeltOut(t *testing.T) {
	for _, c := range [][3]int{
		{2048, 1, 2176}, {2048, 0, 1920},
		{1, 1, 256}, {1, 0, 1}, {2, 0, 2}, {15, 0, 15}, {16, 0, 15}, {17, 0, 16}, {31, 0, 30}, {32, 0, 30},
		{4095, 0, 3840}, {4095, 1, 4095}, {4094, 1, 4094}, {4081, 1, 4081}, {4080, 1, 4081}, {4079, 1, 4080}, {4065, 1, 4066}, {4064, 1, 4066},
		{100, 1, 349}, {100, 0, 94},
	} {
		if got := impl.Learn(c[0], c[1]); got != c[2] {
			t.Errorf("Learn(%d, %d) = %d, not %d", c[0], c[1], got, c[2])
		}
	}
}

func TestAChanceMovesTowardsWhatCame(t *testing.T) {
	for p := 1; p <= 4095; p++ {
		up, down := impl.Learn(p, 1), impl.Learn(p, 0)
		if up < 1 || up > 4095 || down < 1 || down > 4095 {
			t.Errorf("%d becomes %d or %d, which is no chance", p, up, down)
		}
		if up < p || up == p && p <= 4080 || down > p || down == p && p >= 16 {
			t.Errorf("%d becomes %d for a 1 and %d for a 0", p, up, down)
		}
		// Both are held against whole numbers alone: 16 times what moves is at
		// most the way to the end, and less than 16 below it.
		if left := 4096 - p - 16*(up-p); left < 0 || left > 15 {
			t.Errorf("%d becomes %d for a 1", p, up)
		}
		if left := p - 16*(p-down); left < 0 || left > 15 {
			t.Errorf("%d becomes %d for a 0", p, down)
		}
	}
	for _, p := range someChances {
		up, down := p, p
		for range 500 {
			up, down = impl.Learn(up, 1), impl.Learn(down, 0)
		}
		if up != max(p, 4081) || down != min(p, 15) {
			t.Errorf("from %d on: %d and %d", p, up, down)
		}
	}
}

func TestLearnRefuses(t *testing.T) {
	for _, p := range noChances {
		for _, bit := range []int{0, 1, 2, -1} {
			if got := impl.Learn(p, bit); got != p {
				t.Errorf("Learn(%d, %d) = %d", p, bit, got)
			}
		}
	}
	for _, p := range someChances {
		for _, bit := range noBits {
			if got := impl.Learn(p, bit); got != p {
				t.Errorf("Learn(%d, %d) = %d", p, bit, got)
			}
		}
	}
}

func TestBitsAndChancesAreLeftAlone(t *testing.T) {
	bitRoom := append(someNumbers(1, 50, 2), 71, 72)
	chanceRoom := append(chancesFrom(2, 50), 73, 74)
	keptBits, keptChances := slices.Clone(bitRoom), slices.Clone(chanceRoom)
	bits, chances := bitRoom[:50], chanceRoom[:50]
	s, ok := impl.CodeAll(bits, chances)
	if !ok {
		t.Fatal("not written")
	}
	back, _ := impl.ReadAll(s, chances)
	other, _ := impl.ReadAll(s, chances)
	spoil(back)
	if !slices.Equal(other, keptBits[:50]) {
		t.Error("two answers share memory")
	}
	impl.CodeAll(bits, chances[:49])
	impl.CodeAll(bitRoom[:51], chanceRoom[:51])
	refused, _ := impl.ReadAll(s, append(chanceRoom[:52:52], 4096))
	spoil(refused)
	if !slices.Equal(bitRoom, keptBits) || !slices.Equal(chanceRoom, keptChances) {
		t.Error("a list, or the room behind it, was written into")
	}
}

// A coder or a reader that was gone on from can be gone on from again.
func TestCodersAndReadersAreValues(t *testing.T) {
	c := impl.CoderPut(impl.CoderStart("ab"), 1, 3)
	kept := c
	one, zero := impl.CoderPut(c, 1, 1), impl.CoderPut(c, 0, 4095)
	if c != kept || one != impl.CoderPut(kept, 1, 1) || zero != impl.CoderPut(kept, 0, 4095) || one == zero {
		t.Error("a coder was changed")
	}
	r := impl.ReaderStart("abcdefgh")
	keptReader := r
	a, x := impl.ReaderGet(r, 1)
	b, y := impl.ReaderGet(r, 1)
	if r != keptReader || a != b || x != y {
		t.Error("a reader was changed")
	}
}
