package tests

import (
	"fmt"
	"math"
	"slices"
	"strings"
	"testing"

	"loop.example/g00120/impl"
)

// counts gives 16 numbers, those that are told first.
func counts(told ...int) []int {
	return append(slices.Clone(told), make([]int, 16-len(told))...)
}

// upTo gives the numbers from 0 on below n.
func upTo(n int) []int {
	list := []int{}
	for i := range n {
		list = append(list, i)
	}
	return list
}

// freqWith gives 256 numbers, 0 but for those that are told as pairs.
func freqWith(pairs ...int) []int {
	freq := make([]int, 256)
	for i := 0; i < len(pairs); i += 2 {
		freq[pairs[i]] = pairs[i+1]
	}
	return freq
}

// smallCodes have the codes 0, 10, 110 and 1110.
func smallCodes() impl.Codes {
	return impl.Codes{Counts: counts(1, 1, 1, 1), Syms: []int{5, 3, 255, 0}}
}

// stairCodes have one code of each length.
func stairCodes() impl.Codes {
	return impl.Codes{Counts: slices.Repeat([]int{1}, 16), Syms: upTo(16)}
}

// someRightCodes has Codes of many shapes.
func someRightCodes() []impl.Codes {
	last := make([]int, 16)
	last[15] = 255
	return []impl.Codes{
		smallCodes(),
		stairCodes(),
		{Counts: counts(1), Syms: []int{9}},
		{Counts: counts(0, 3), Syms: []int{200, 7, 8}},
		{Counts: counts(0, 0, 7), Syms: []int{6, 5, 4, 3, 2, 1, 0}},
		{Counts: counts(0, 0, 0, 0, 0, 0, 0, 255), Syms: upTo(256)[1:]},
		{Counts: last, Syms: upTo(255)},
		{Counts: counts(0, 1, 2, 0, 5, 0, 9), Syms: upTo(17)},
		{Counts: counts(0, 1, 5, 1, 1, 1, 1, 1, 1), Syms: upTo(12)},
	}
}

// speltCodes gives all codes as texts of digits by the words of the document:
// one more than the one before, with noughts behind up to the length.
func speltCodes(c impl.Codes) map[int]string {
	codes := map[int]string{}
	x, length, at := -1, 0, 0
	for i, n := range c.Counts {
		for range n {
			x = (x + 1) << (i + 1 - length)
			if length == 0 {
				x = 0
			}
			length = i + 1
			codes[c.Syms[at]] = fmt.Sprintf("%0*b", length, x)
			at++
		}
	}
	return codes
}

func bitsOf(digits string) []int {
	bits := []int{}
	for _, r := range digits {
		bits = append(bits, int(r-'0'))
	}
	return bits
}

type wrongCodes struct {
	name  string
	codes impl.Codes
}

func someWrongCodes() []wrongCodes {
	huge := counts(0, 0, 0, 1, math.MaxInt)
	wrapping := counts(0, 0, 0, 1<<62, 1<<62, 1<<62, 1<<62, 1)
	over := slices.Repeat([]int{1}, 16)
	over[15] = 2
	last := make([]int, 16)
	last[15] = 256
	return []wrongCodes{
		{"nothing", impl.Codes{}},
		{"15 counts", impl.Codes{Counts: counts(1)[:15], Syms: []int{1}}},
		{"17 counts", impl.Codes{Counts: append(counts(1), 0), Syms: []int{1}}},
		{"no counts", impl.Codes{Syms: []int{1}}},
		{"no symbol", impl.Codes{Counts: counts()}},
		{"symbols that no count tells", impl.Codes{Counts: counts(), Syms: []int{1}}},
		{"a count below 0", impl.Codes{Counts: counts(0, 2, -1), Syms: []int{1}}},
		{"a count below 0 at the end", impl.Codes{Counts: append(counts(0, 2)[:15], -1), Syms: []int{1}}},
		{"a symbol more", impl.Codes{Counts: counts(0, 2), Syms: []int{1, 2, 3}}},
		{"a symbol less", impl.Codes{Counts: counts(0, 2), Syms: []int{1}}},
		{"two symbols alike", impl.Codes{Counts: counts(0, 3), Syms: []int{1, 2, 1}}},
		{"a symbol below 0", impl.Codes{Counts: counts(0, 3), Syms: []int{1, 2, -1}}},
		{"a symbol above 255", impl.Codes{Counts: counts(0, 3), Syms: []int{256, 2, 1}}},
		{"a symbol far off", impl.Codes{Counts: counts(0, 3), Syms: []int{0, math.MinInt, 1}}},
		{"two codes of one bit", impl.Codes{Counts: counts(2), Syms: []int{1, 2}}},
		{"four codes of two bits", impl.Codes{Counts: counts(0, 4), Syms: []int{1, 2, 3, 4}}},
		{"one more than the room", impl.Codes{Counts: over, Syms: upTo(17)}},
		{"256 symbols of eight bits", impl.Codes{Counts: counts(0, 0, 0, 0, 0, 0, 0, 256), Syms: upTo(256)}},
		{"256 symbols of sixteen bits", impl.Codes{Counts: last, Syms: upTo(256)}},
		{"256 symbols of two lengths", impl.Codes{Counts: counts(0, 0, 0, 0, 0, 0, 0, 200, 56), Syms: upTo(256)}},
		{"a huge count", impl.Codes{Counts: huge, Syms: []int{1}}},
		{"counts whose sum wraps", impl.Codes{Counts: wrapping, Syms: []int{1}}},
	}
}

func TestCodesOk(t *testing.T) {
	for _, c := range someRightCodes() {
		if !impl.CodesOk(c) {
			t.Errorf("not right: %v", c)
		}
	}
	for _, w := range someWrongCodes() {
		if impl.CodesOk(w.codes) {
			t.Errorf("right: %s", w.name)
		}
	}
}

func TestCodesThatAreNotRight(t *testing.T) {
	for _, w := range someWrongCodes() {
		for _, sym := range []int{0, 1, 2} {
			if got := impl.CodeOf(w.codes, sym); len(got) != 0 {
				t.Errorf("%s: CodeOf %v", w.name, got)
			}
		}
		for i := range 3 {
			if sym, at := impl.SymAt(w.codes, []int{0, 0, 0}, i); sym != -1 || at != -1 {
				t.Errorf("%s: SymAt %d, %d", w.name, sym, at)
			}
		}
		for _, list := range [][]int{nil, {}, {1}} {
			if got, ok := impl.PutSyms(w.codes, list); ok || len(got) != 0 {
				t.Errorf("%s: PutSyms(%v) = %v", w.name, list, got)
			}
		}
		for n := range 2 {
			if got, ok := impl.GetSyms(w.codes, make([]int, 20), n); ok || len(got) != 0 {
				t.Errorf("%s: GetSyms of %d = %v", w.name, n, got)
			}
		}
		if got := impl.Spent(w.codes, freqWith()); got != -1 {
			t.Errorf("%s: Spent %d", w.name, got)
		}
	}
}

func TestCodesInTheirOrder(t *testing.T) {
	for _, c := range someRightCodes() {
		want := speltCodes(c)
		for sym := range 256 {
			if got := spelt(impl.CodeOf(c, sym)); got != want[sym] {
				t.Errorf("code of %d is %q, not %q", sym, got, want[sym])
			}
		}
		for _, sym := range []int{-1, 256, 1000, math.MinInt, math.MaxInt} {
			if got := impl.CodeOf(c, sym); len(got) != 0 {
				t.Errorf("code of %d is %v", sym, got)
			}
		}
	}
	if got := spelt(impl.CodeOf(stairCodes(), 15)); got != "1111111111111110" {
		t.Errorf("the last of sixteen lengths is %q", got)
	}
}

func TestNoCodeBeginsAnother(t *testing.T) {
	for _, c := range someRightCodes() {
		codes := []string{}
		for _, sym := range c.Syms {
			code := spelt(impl.CodeOf(c, sym))
			if !strings.Contains(code, "0") {
				t.Errorf("the code of %d is %q", sym, code)
			}
			codes = append(codes, code)
		}
		slices.Sort(codes)
		for i := 1; i < len(codes); i++ {
			if strings.HasPrefix(codes[i], codes[i-1]) {
				t.Errorf("%q begins %q", codes[i-1], codes[i])
			}
		}
	}
}

func TestSymAt(t *testing.T) {
	c := smallCodes()
	bits := []int{0, 1, 0, 1, 1, 0, 1, 1, 1, 0, 1, 1}
	want := [][2]int{{5, 1}, {3, 3}, {5, 3}, {255, 6}, {3, 6}, {5, 6}, {0, 10}, {255, 10}, {3, 10}, {5, 10}, {-1, -1}, {-1, -1}, {-1, -1}}
	for i, w := range want {
		if sym, at := impl.SymAt(c, bits, i); sym != w[0] || at != w[1] {
			t.Errorf("at %d stands %d, behind it is %d", i, sym, at)
		}
	}
	for _, i := range append([]int{len(bits) + 1, len(bits) + 2}, somePlaces...) {
		if sym, at := impl.SymAt(c, bits, i); sym != -1 || at != -1 {
			t.Errorf("at %d stands %d, behind it is %d", i, sym, at)
		}
	}
	for _, i := range []int{0, 1, -1} {
		if sym, at := impl.SymAt(c, nil, i); sym != -1 || at != -1 {
			t.Errorf("no bits have %d at %d", sym, i)
		}
	}
}

func TestEverySymbolStandsAtItsCode(t *testing.T) {
	for _, c := range someRightCodes() {
		for _, sym := range c.Syms {
			code := impl.CodeOf(c, sym)
			bits := slices.Concat([]int{1, 0, 1}, code, []int{0, 1, 1})
			if got, at := impl.SymAt(c, bits, 3); got != sym || at != 3+len(code) {
				t.Fatalf("code %v of %d gives %d, %d", code, sym, got, at)
			}
			if got, at := impl.SymAt(c, code[:len(code)-1], 0); got != -1 || at != -1 {
				t.Fatalf("the beginning of code %v gives %d, %d", code, got, at)
			}
		}
	}
}

func TestBitsThatAreNoCode(t *testing.T) {
	for _, c := range someRightCodes() {
		for n := range 40 {
			ones := slices.Repeat([]int{1}, n)
			if sym, at := impl.SymAt(c, ones, 0); sym != -1 || at != -1 {
				t.Errorf("%d ones are %d", n, sym)
			}
			if list, ok := impl.GetSyms(c, ones, 1); ok || len(list) != 0 {
				t.Errorf("%d ones are %v", n, list)
			}
		}
	}
	long := impl.Codes{Counts: counts(0, 0, 1), Syms: []int{4}}
	for _, digits := range []string{"001", "010", "0010000000000000000", "1000000000000000000"} {
		if sym, at := impl.SymAt(long, bitsOf(digits), 0); sym != -1 || at != -1 {
			t.Errorf("%s is %d", digits, sym)
		}
	}
	for _, x := range noBits {
		for i := range 3 {
			bits := []int{1, 1, 0}
			bits[i] = x
			if sym, at := impl.SymAt(smallCodes(), bits, 0); sym != -1 || at != -1 {
				t.Errorf("%v is %d", bits, sym)
			}
			if list, ok := impl.GetSyms(smallCodes(), bits, 1); ok || len(list) != 0 {
				t.Errorf("%v is %v", bits, list)
			}
		}
	}
}

// What stands behind the code asked for is not read.
func TestWhatStandsBehindACode(t *testing.T) {
	bits := []int{1, 0, 7}
	if sym, at := impl.SymAt(smallCodes(), bits, 0); sym != 3 || at != 2 {
		t.Errorf("SymAt gives %d, %d", sym, at)
	}
	if list, ok := impl.GetSyms(smallCodes(), bits, 1); !ok || !slices.Equal(list, []int{3}) {
		t.Errorf("GetSyms gives %v", list)
	}
	if list, ok := impl.GetSyms(smallCodes(), bits, 2); ok || len(list) != 0 {
		t.Errorf("GetSyms gives %v", list)
	}
}

// symsOf gives n symbols of c that repeat only after long.
func symsOf(c impl.Codes, n int) []int {
	list := []int{}
	for i := range n {
		list = append(list, c.Syms[(i*i+i/3)%len(c.Syms)])
	}
	return list
}

func TestSymbolsComeBack(t *testing.T) {
	for _, c := range someRightCodes() {
		codes := speltCodes(c)
		for _, n := range []int{0, 1, 2, 17, 300} {
			list := symsOf(c, n)
			want := strings.Builder{}
			for _, sym := range list {
				want.WriteString(codes[sym])
			}
			bits, ok := impl.PutSyms(c, list)
			if !ok || spelt(bits) != want.String() {
				t.Fatalf("PutSyms of %v", list)
			}
			for _, behind := range [][]int{{}, {1}, {0, 0, 1}} {
				back, ok := impl.GetSyms(c, slices.Concat(bits, behind), n)
				if !ok || !slices.Equal(back, list) {
					t.Fatalf("%v comes back as %v", list, back)
				}
			}
			if n > 0 {
				if back, ok := impl.GetSyms(c, bits, n+1); ok || len(back) != 0 {
					t.Fatalf("one more than %d: %v", n, back)
				}
				if back, ok := impl.GetSyms(c, bits[:len(bits)-1], n); ok || len(back) != 0 {
					t.Fatalf("%d of one bit less: %v", n, back)
				}
			}
		}
	}
}

func TestPutSymsRefuses(t *testing.T) {
	for _, sym := range []int{1, 4, 254, 256, -1, 256 + 5, math.MinInt, math.MaxInt} {
		for at := range 3 {
			list := []int{5, 3, 0}
			list[at] = sym
			if bits, ok := impl.PutSyms(smallCodes(), list); ok || len(bits) != 0 {
				t.Errorf("PutSyms(%v) = %v", list, bits)
			}
		}
	}
}

func TestPutSymsUpToMaxBits(t *testing.T) {
	one := impl.Codes{Counts: counts(1), Syms: []int{9}}
	if bits, ok := impl.PutSyms(one, slices.Repeat([]int{9}, impl.MaxBits)); !ok || len(bits) != impl.MaxBits {
		t.Errorf("MaxBits symbols of a bit are %d bits", len(bits))
	}
	if bits, ok := impl.PutSyms(one, slices.Repeat([]int{9}, impl.MaxBits+1)); ok || len(bits) != 0 {
		t.Errorf("one bit more gives %d", len(bits))
	}
	// 30000 codes of 16 bits are MaxBits.
	c := stairCodes()
	list := slices.Repeat([]int{15}, 30000)
	if bits, ok := impl.PutSyms(c, list); !ok || len(bits) != impl.MaxBits {
		t.Errorf("30000 codes of 16 bits are %d bits", len(bits))
	}
	if bits, ok := impl.PutSyms(c, append(list, 0)); ok || len(bits) != 0 {
		t.Errorf("a bit more gives %d", len(bits))
	}
	list[29999] = 14
	if bits, ok := impl.PutSyms(c, append(list[:30000], 0)); !ok || len(bits) != impl.MaxBits {
		t.Errorf("MaxBits of several lengths are %d", len(bits))
	}
	if bits, ok := impl.PutSyms(c, append(list[:30000], 1)); ok || len(bits) != 0 {
		t.Errorf("one bit more gives %d", len(bits))
	}
}

func TestGetSymsHowMany(t *testing.T) {
	one := impl.Codes{Counts: counts(1), Syms: []int{9}}
	bits := make([]int, 60001)
	if list, ok := impl.GetSyms(one, bits, 60000); !ok || !slices.Equal(list, slices.Repeat([]int{9}, 60000)) {
		t.Error("60000 symbols")
	}
	for _, n := range []int{60001, -1, math.MinInt, math.MaxInt} {
		if list, ok := impl.GetSyms(one, bits, n); ok || len(list) != 0 {
			t.Errorf("%d symbols", n)
		}
	}
	for _, bits := range [][]int{nil, {}, {0}, {1, 1}, {7}} {
		if list, ok := impl.GetSyms(one, bits, 0); !ok || len(list) != 0 {
			t.Errorf("no symbol of %v", bits)
		}
	}
	if list, ok := impl.GetSyms(one, nil, 1); ok || len(list) != 0 {
		t.Error("a symbol of no bits")
	}
}

func TestSpent(t *testing.T) {
	c := smallCodes()
	for _, k := range []struct {
		freq []int
		want int
	}{
		{freqWith(), 0},
		{freqWith(5, 1), 1},
		{freqWith(0, 1), 4},
		{freqWith(255, 7), 21},
		{freqWith(5, 10, 3, 20, 255, 30, 0, 40), 10 + 40 + 90 + 160},
		{freqWith(5, 100000, 0, 100000), 500000},
		{freqWith(5, 100001), -1},
		{freqWith(5, 1, 0, -1), -1},
		{freqWith(5, 1, 4, -1), -1},
		{freqWith(5, 1, 4, math.MinInt), -1},
		{freqWith(5, 1, 0, math.MaxInt), -1},
		{freqWith(5, 1, 4, 1), -1},
		{freqWith(254, 1), -1},
		{freqWith(5, 1)[:255], -1},
		{append(freqWith(5, 1), 0), -1},
		{nil, -1},
		{[]int{}, -1},
	} {
		if got := impl.Spent(c, k.freq); got != k.want {
			t.Errorf("Spent is %d, not %d", got, k.want)
		}
	}
	freq := slices.Repeat([]int{100000}, 256)
	freq[255] = 0
	last := make([]int, 16)
	last[15] = 255
	if got := impl.Spent(impl.Codes{Counts: last, Syms: upTo(255)}, freq); got != 255*16*100000 {
		t.Errorf("the most that can be spent is %d", got)
	}
}

func TestSpentIsWhatPutSymsWrites(t *testing.T) {
	for _, c := range someRightCodes() {
		list := symsOf(c, 200)
		freq := freqWith()
		for _, sym := range list {
			freq[sym]++
		}
		bits, ok := impl.PutSyms(c, list)
		if got := impl.Spent(c, freq); !ok || got != len(bits) {
			t.Errorf("Spent is %d of %d bits", got, len(bits))
		}
	}
}

// plainLengths works the lengths out as the document tells them, by a list
// that is gone through at each step.
func plainLengths(freq []int) map[int]int {
	type plainTree struct {
		weight int
		in     []int
	}
	trees := []plainTree{{0, []int{256}}}
	for sym, f := range freq {
		if f > 0 {
			trees = append(trees, plainTree{f, []int{sym}})
		}
	}
	lengths := map[int]int{}
	for len(trees) > 1 {
		slices.SortFunc(trees, func(a, b plainTree) int {
			if a.weight != b.weight {
				return a.weight - b.weight
			}
			return slices.Min(a.in) - slices.Min(b.in)
		})
		both := plainTree{trees[0].weight + trees[1].weight, append(trees[0].in, trees[1].in...)}
		for _, sym := range both.in {
			lengths[sym]++
		}
		trees = append(trees[2:], both)
	}
	delete(lengths, 256)
	return lengths
}

func plainBest(freq []int) impl.Codes {
	lengths := plainLengths(freq)
	tooLong := false
	for _, n := range lengths {
		tooLong = tooLong || n > 16
	}
	c := impl.Codes{Counts: make([]int, 16)}
	for sym, n := range lengths {
		if tooLong {
			lengths[sym] = 8
			n = 8
		}
		c.Counts[n-1]++
		c.Syms = append(c.Syms, sym)
	}
	slices.SortFunc(c.Syms, func(a, b int) int {
		if lengths[a] != lengths[b] {
			return lengths[a] - lengths[b]
		}
		return a - b
	})
	return c
}

// fibonacci gives weights by which n symbols have lengths 1 .. n.
func fibonacci(n int) []int {
	freq := freqWith(0, 1, 1, 1)
	for i := 2; i < n; i++ {
		freq[i] = freq[i-1] + freq[i-2]
	}
	return freq
}

func someFreqs() [][]int {
	full := slices.Repeat([]int{1}, 256)
	full[0] = 0
	most := slices.Repeat([]int{100000}, 256)
	most[255] = 0
	freqs := [][]int{
		freqWith(9, 7), freqWith(0, 1), freqWith(255, 100000),
		freqWith(1, 1, 2, 1), freqWith(1, 1, 2, 1, 3, 1), freqWith(1, 2, 2, 1, 3, 1),
		freqWith(1, 1, 2, 1, 3, 2, 5, 4), freqWith(10, 3, 20, 3, 30, 3, 40, 3),
		freqWith(1, 4, 2, 2, 3, 1, 4, 1, 5, 1, 6, 1), freqWith(255, 1, 0, 1, 128, 2),
		full, most, fibonacci(15), fibonacci(16), fibonacci(17), fibonacci(25),
	}
	for n := 2; n < 40; n++ {
		tied, spread := freqWith(), freqWith()
		for i := range n {
			tied[(i*37)%256] = 1 + i*i%3
			spread[(i*91+5)%256] = 1 + i*i*i%1000
		}
		freqs = append(freqs, tied, spread)
	}
	return freqs
}

func sameCodes(a impl.Codes, b impl.Codes) bool {
	return slices.Equal(a.Counts, b.Counts) && slices.Equal(a.Syms, b.Syms)
}

func TestBestCodes(t *testing.T) {
	for _, freq := range someFreqs() {
		c, ok := impl.BestCodes(freq)
		if want := plainBest(freq); !ok || !sameCodes(c, want) {
			t.Errorf("best codes of %v are %v, not %v", freq, c, want)
		}
		if !impl.CodesOk(c) {
			t.Errorf("best codes of %v are not right", freq)
		}
	}
}

func TestOneSymbolAlone(t *testing.T) {
	for _, sym := range []int{0, 9, 255} {
		for _, f := range []int{1, 2, 100000} {
			c, ok := impl.BestCodes(freqWith(sym, f))
			if !ok || !sameCodes(c, impl.Codes{Counts: counts(1), Syms: []int{sym}}) {
				t.Errorf("best codes of %d alone are %v", sym, c)
			}
			if got := spelt(impl.CodeOf(c, sym)); got != "0" {
				t.Errorf("the code of %d alone is %q", sym, got)
			}
		}
	}
}

func TestTiesOfWeights(t *testing.T) {
	for _, k := range []struct {
		freq []int
		want impl.Codes
	}{
		{freqWith(1, 1, 2, 1), impl.Codes{Counts: counts(1, 1), Syms: []int{2, 1}}},
		{freqWith(1, 1, 2, 1, 3, 1), impl.Codes{Counts: counts(1, 1, 1), Syms: []int{3, 2, 1}}},
		{freqWith(1, 1, 2, 1, 3, 1, 4, 1), impl.Codes{Counts: counts(0, 3, 1), Syms: []int{2, 3, 4, 1}}},
		{freqWith(4, 2, 7, 1, 9, 1), impl.Codes{Counts: counts(1, 1, 1), Syms: []int{4, 9, 7}}},
		{freqWith(1, 2, 2, 1, 3, 1), impl.Codes{Counts: counts(1, 1, 1), Syms: []int{1, 3, 2}}},
	} {
		if c, ok := impl.BestCodes(k.freq); !ok || !sameCodes(c, k.want) {
			t.Errorf("best codes are %v, not %v", c, k.want)
		}
	}
}

func TestLengthsAboveSixteen(t *testing.T) {
	c, ok := impl.BestCodes(fibonacci(16))
	if !ok || !sameCodes(c, impl.Codes{Counts: slices.Repeat([]int{1}, 16), Syms: c.Syms}) || len(c.Syms) != 16 {
		t.Errorf("sixteen lengths are %v", c)
	}
	for _, n := range []int{17, 18, 25} {
		c, ok := impl.BestCodes(fibonacci(n))
		want := impl.Codes{Counts: counts(0, 0, 0, 0, 0, 0, 0, n), Syms: upTo(n)}
		if !ok || !sameCodes(c, want) {
			t.Errorf("%d lengths are %v", n, c)
		}
	}
}

func TestBestCodesHowManySymbols(t *testing.T) {
	freq := slices.Repeat([]int{3}, 256)
	if c, ok := impl.BestCodes(freq); ok || len(c.Counts)+len(c.Syms) != 0 {
		t.Error("256 symbols")
	}
	for _, sym := range []int{0, 100, 255} {
		freq[sym] = 0
		c, ok := impl.BestCodes(freq)
		freq[sym] = 3
		if !ok || len(c.Syms) != 255 || slices.Contains(c.Syms, sym) || !impl.CodesOk(c) {
			t.Errorf("all symbols but %d", sym)
		}
	}
}

func TestBestCodesRefuses(t *testing.T) {
	for _, freq := range [][]int{
		nil, {}, {1}, freqWith(), freqWith(1, 1)[:255], append(freqWith(1, 1), 0), append(freqWith(1, 1), 1),
		freqWith(1, 1, 2, -1), freqWith(1, 1, 2, 100001), freqWith(0, math.MinInt), freqWith(255, math.MaxInt), freqWith(255, -1),
	} {
		if c, ok := impl.BestCodes(freq); ok || len(c.Counts)+len(c.Syms) != 0 {
			t.Errorf("best codes of %v are %v", freq, c)
		}
	}
	if _, ok := impl.BestCodes(freqWith(1, 1, 2, 100000)); !ok {
		t.Error("a freq of 100000")
	}
}

// allShapes calls tell with the Counts of all right Codes of n symbols of at most longest bits.
func allShapes(n int, longest int, tell func([]int)) {
	shape := make([]int, 16)
	var fill func(i int, left int, room int)
	fill = func(i int, left int, room int) {
		if left == 0 {
			tell(shape)
			return
		}
		if i == longest {
			return
		}
		each := 1 << (15 - i)
		for k := 0; k <= left && k*each <= room; k++ {
			shape[i] = k
			fill(i+1, left-k, room-k*each)
		}
		shape[i] = 0
	}
	fill(0, n, 65535)
}

func TestNoCodesCostLess(t *testing.T) {
	for _, pairs := range [][]int{
		{7, 1}, {7, 5, 8, 9}, {1, 1, 2, 1, 3, 1}, {1, 1, 2, 1, 3, 2, 5, 4}, {1, 3, 2, 3, 3, 3, 4, 3, 5, 3},
		{10, 1, 20, 2, 30, 4, 40, 8, 50, 16, 60, 32}, {0, 5, 1, 5, 2, 6, 3, 7, 4, 20, 255, 21},
		{0, 1, 1, 1, 2, 1, 3, 1, 4, 1, 5, 1, 6, 1}, {0, 9, 1, 8, 2, 7, 3, 6, 4, 5, 5, 4, 6, 3},
	} {
		freq := freqWith(pairs...)
		best, _ := impl.BestCodes(freq)
		cost := impl.Spent(best, freq)
		// Of one shape those cost least whose frequent symbols are first.
		syms := slices.Clone(best.Syms)
		slices.SortFunc(syms, func(a, b int) int { return freq[b] - freq[a] })
		shapes := 0
		allShapes(len(syms), len(syms)+1, func(shape []int) {
			shapes++
			other := impl.Spent(impl.Codes{Counts: shape, Syms: syms}, freq)
			if other < cost {
				t.Errorf("%v costs %d, best codes of %v %d", shape, other, pairs, cost)
			}
		})
		if shapes == 0 || cost < 1 {
			t.Errorf("%v: %d shapes, cost %d", pairs, shapes, cost)
		}
	}
	for _, freq := range someFreqs() {
		best, _ := impl.BestCodes(freq)
		if best.Counts[7] == len(best.Syms) {
			continue
		}
		for _, other := range []impl.Codes{
			{Counts: counts(0, 0, 0, 0, 0, 0, 0, len(best.Syms)), Syms: best.Syms},
			{Counts: best.Counts, Syms: slices.Sorted(slices.Values(best.Syms))},
		} {
			if impl.Spent(other, freq) < impl.Spent(best, freq) {
				t.Errorf("best codes of %v cost more than %v", freq, other)
			}
		}
	}
}

func TestCodesAreLeftAlone(t *testing.T) {
	countRoom := append(counts(1, 1, 1, 1), 71, 72)
	symRoom := append([]int{5, 3, 255, 0}, 73, 74)
	listRoom := []int{3, 5, 0, 75, 76}
	bitRoom := []int{1, 0, 0, 1, 1, 1, 0, 77, 78}
	freqRoom := append(freqWith(5, 9, 3, 2, 0, 1), 79, 80)
	rooms := [][]int{countRoom, symRoom, listRoom, bitRoom, freqRoom}
	kept := [][]int{}
	for _, room := range rooms {
		kept = append(kept, slices.Clone(room))
	}
	c := impl.Codes{Counts: countRoom[:16], Syms: symRoom[:4]}
	impl.CodesOk(c)
	impl.CodeOf(c, 3)
	impl.SymAt(c, bitRoom[:7], 0)
	impl.PutSyms(c, listRoom[:3])
	impl.GetSyms(c, bitRoom[:7], 3)
	impl.Spent(c, freqRoom[:256])
	impl.BestCodes(freqRoom[:256])
	for i, room := range rooms {
		if !slices.Equal(room, kept[i]) {
			t.Errorf("list %d, or the room behind it, was written into", i)
		}
	}
}

func TestAnswersOfCodesAreNewMemory(t *testing.T) {
	c := smallCodes()
	freq := freqWith(5, 9, 3, 2, 0, 1)
	for i, ask := range []func() [][]int{
		func() [][]int { return [][]int{impl.CodeOf(c, 255)} },
		func() [][]int { bits, _ := impl.PutSyms(c, []int{3, 5, 0}); return [][]int{bits} },
		func() [][]int { list, _ := impl.GetSyms(c, []int{1, 0, 0}, 2); return [][]int{list} },
		func() [][]int { best, _ := impl.BestCodes(freq); return [][]int{best.Counts, best.Syms} },
	} {
		a, b := ask(), ask()
		for k := range a {
			kept := slices.Clone(b[k])
			spoil(a[k])
			if len(kept) == 0 || !slices.Equal(b[k], kept) || !slices.Equal(ask()[k], kept) {
				t.Errorf("answer %d shares memory", i)
			}
		}
	}
	best, _ := impl.BestCodes(freq)
	kept := slices.Clone(best.Syms)
	spoil(best.Counts)
	if !slices.Equal(best.Syms, kept) {
		t.Error("Counts and Syms share memory")
	}
}

// spoil writes over a list and all the room behind it.
func spoil(list []int) {
	list = list[:cap(list)]
	for i := range list {
		list[i] = -99
	}
}
