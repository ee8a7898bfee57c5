package tests

import (
	"fmt"
	"math"
	"slices"
	"strings"
	"testing"

	"loop.example/g00120/impl"
)

const (
	endSym  = 0
	skipSym = 240
)

// codesWith gives codes for pairs of symbol and length, whose lengths ascend.
func codesWith(pairs ...int) impl.Codes {
	c := impl.Codes{Counts: make([]int, 16)}
	for i := 0; i < len(pairs); i += 2 {
		c.Syms = append(c.Syms, pairs[i])
		c.Counts[pairs[i+1]-1]++
	}
	return c
}

// wideTables have a code for all that a block can have.
func wideTables() impl.Tables {
	dc, ac := []int{}, []int{endSym, 3}
	for size := range 12 {
		dc = append(dc, size, 4)
	}
	ac = append(ac, skipSym, 8)
	for run := range 16 {
		for size := 1; size <= 10; size++ {
			ac = append(ac, 16*run+size, 8)
		}
	}
	return impl.Tables{Dc: codesWith(dc...), Ac: codesWith(ac...)}
}

// loneTables have one symbol each: they write blocks alone that are all 0, or
// have no other difference than that of size 1 and no other number than 1 or -1.
func loneTables(dc int, ac int) impl.Tables {
	return impl.Tables{Dc: codesWith(dc, 1), Ac: codesWith(ac, 1)}
}

// onesBlock has no number of Ac but 1 and -1, so that there is no end behind.
func onesBlock(dc int) impl.Block {
	b := blockWith(dc)
	for i := range b.Ac {
		b.Ac[i] = 1 - i%2*2
	}
	return b
}

func cloneBlocks(list []impl.Block) []impl.Block {
	list = slices.Clone(list)
	for i := range list {
		list[i].Ac = slices.Clone(list[i].Ac)
	}
	return list
}

func sameBlocks(a []impl.Block, b []impl.Block) bool {
	return slices.EqualFunc(a, b, sameBlock)
}

func sameTables(a impl.Tables, b impl.Tables) bool {
	return sameCodes(a.Dc, b.Dc) && sameCodes(a.Ac, b.Ac)
}

// someScans has lists of right blocks that wideTables can write.
func someScans() [][]impl.Block {
	lists := [][]impl.Block{
		nil,
		{},
		{blockWith(0)},
		{blockWith(1)},
		{blockWith(-1023)},
		{fullBlock()},
		{blockWith(7), blockWith(7), blockWith(7)},
		{blockWith(-1023), blockWith(1023), blockWith(-1023), blockWith(1023)},
		{blockWith(1023, 0, 1023), blockWith(-1023, 62, -1023), blockWith(0, 16, 1)},
		{blockWith(512), blockWith(-512), blockWith(511), blockWith(-511)},
		{onesBlock(0), onesBlock(1), onesBlock(1)},
		someBlocks(),
		slices.Repeat([]impl.Block{blockWith(3)}, 100),
	}
	for _, b := range someBlocks() {
		lists = append(lists, []impl.Block{b}, []impl.Block{b, blockWith(-b.Dc, 5, 5), b})
	}
	return lists
}

// plainScan writes by the words of the document, as a text of digits.
func plainScan(t impl.Tables, list []impl.Block) (string, bool) {
	dc, ac := speltCodes(t.Dc), speltCodes(t.Ac)
	b := strings.Builder{}
	lacks := false
	put := func(codes map[int]string, sym int, rest []int) {
		lacks = lacks || codes[sym] == ""
		b.WriteString(codes[sym] + spelt(rest))
	}
	for i, block := range list {
		x := block.Dc
		if i > 0 {
			x -= list[i-1].Dc
		}
		put(dc, plainSize(x), plainRest(x))
		for _, s := range plainSteps(block.Ac) {
			put(ac, 16*s.Run+s.Size, s.Bits)
		}
	}
	return b.String(), !lacks
}

// plainSym gives the symbol whose code the digits begin with, and what stands
// behind it.
func plainSym(codes map[int]string, digits string) (int, string, bool) {
	for sym, code := range codes {
		if strings.HasPrefix(digits, code) {
			return sym, digits[len(code):], true
		}
	}
	return 0, "", false
}

// plainNumber gives the number that has the first n of the digits for its rest.
func plainNumber(n int, digits string) (int, string, bool) {
	if n > len(digits) || n > 11 {
		return 0, "", false
	}
	x := 0
	for _, bit := range digits[:n] {
		x = 2*x + int(bit-'0')
	}
	if n > 0 && digits[0] == '0' {
		x -= 1<<n - 1
	}
	return x, digits[n:], true
}

// plainRead reads whatever it can, and takes it only if it is written so.
func plainRead(t impl.Tables, digits string, n int) ([]impl.Block, int, bool) {
	dc, ac := speltCodes(t.Dc), speltCodes(t.Ac)
	list := []impl.Block{}
	ahead, left := 0, digits
	for range n {
		size, behind, ok := plainSym(dc, left)
		if !ok {
			return nil, 0, false
		}
		x, behind, ok := plainNumber(size, behind)
		if !ok {
			return nil, 0, false
		}
		ahead, left = ahead+x, behind
		b := impl.Block{Dc: ahead}
		for len(b.Ac) < 63 {
			sym, behind, ok := plainSym(ac, left)
			if !ok {
				return nil, 0, false
			}
			x, behind, ok := plainNumber(sym%16, behind)
			if !ok {
				return nil, 0, false
			}
			left = behind
			b.Ac = append(b.Ac, make([]int, sym/16)...)
			b.Ac = append(b.Ac, x)
			if sym == endSym {
				b.Ac = append(b.Ac, make([]int, max(0, 63-len(b.Ac)))...)
			}
		}
		if !impl.BlockOk(b) {
			return nil, 0, false
		}
		list = append(list, b)
	}
	told, ok := plainScan(t, list)
	if !ok || !strings.HasPrefix(digits, told) {
		return nil, 0, false
	}
	return list, len(told), true
}

// refuses fails when one of the functions that write takes the blocks.
func refuses(t *testing.T, name string, tables impl.Tables, list []impl.Block) {
	t.Helper()
	if bits, ok := impl.ScanBits(tables, list); ok || len(bits) != 0 {
		t.Errorf("%s: ScanBits gives %d bits, %v", name, len(bits), ok)
	}
	if n := impl.ScanCost(tables, list); n != -1 {
		t.Errorf("%s: ScanCost gives %d", name, n)
	}
	if s, ok := impl.ScanText(tables, list); ok || s != "" {
		t.Errorf("%s: ScanText gives %d bytes, %v", name, len(s), ok)
	}
}

// readsNone fails when ScanBlocks finds blocks.
func readsNone(t *testing.T, name string, tables impl.Tables, bits []int, n int) {
	t.Helper()
	if list, behind, ok := impl.ScanBlocks(tables, bits, n); ok || len(list) != 0 || behind != 0 {
		t.Errorf("%s: ScanBlocks gives %d blocks of %d bits, %v", name, len(list), behind, ok)
	}
}

// textHasNone fails when ScanRead finds blocks.
func textHasNone(t *testing.T, name string, tables impl.Tables, s string, n int) {
	t.Helper()
	if list, ok := impl.ScanRead(tables, s, n); ok || len(list) != 0 {
		t.Errorf("%s: ScanRead gives %d blocks, %v", name, len(list), ok)
	}
}

func TestScanBitsSpeltOut(t *testing.T) {
	tables := impl.Tables{
		Dc: codesWith(0, 1, 2, 2, 3, 3, 11, 4),
		Ac: codesWith(endSym, 1, 1, 2, 2, 3, 0x11, 4, skipSym, 5, 0xf3, 6, 0xe2, 7),
	}
	for _, w := range []struct {
		list []impl.Block
		bits string
	}{
		{nil, ""},
		{[]impl.Block{blockWith(0)}, "0 0"},
		{[]impl.Block{blockWith(3)}, "10 11 0"},
		{[]impl.Block{blockWith(-3)}, "10 00 0"},
		{[]impl.Block{blockWith(4), blockWith(4), blockWith(2)}, "110 100 0  0 0  10 01 0"},
		{[]impl.Block{blockWith(0, 0, 1)}, "0 10 1 0"},
		{[]impl.Block{blockWith(0, 0, -1, 1, 2)}, "0 10 0 110 10 0"},
		{[]impl.Block{blockWith(0, 1, -1)}, "0 1110 0 0"},
		{[]impl.Block{blockWith(0, 15, 5)}, "0 111110 101 0"},
		{[]impl.Block{blockWith(0, 16, 3)}, "0 11110 110 11 0"},
		{[]impl.Block{blockWith(0, 61, -1, 62, 1)}, ""},
		{[]impl.Block{blockWith(0, 62, -3)}, "0 11110 11110 11110 1111110 00"},
		{[]impl.Block{blockWith(-1023), blockWith(2, 62, 2)}, ""},
		{[]impl.Block{blockWith(2), blockWith(2, 62, 2)}, "10 10 0  0 11110 11110 11110 1111110 10"},
	} {
		digits := strings.ReplaceAll(w.bits, " ", "")
		bits, ok := impl.ScanBits(tables, w.list)
		if right := digits != "" || len(w.list) == 0; ok != right || spelt(bits) != digits {
			t.Errorf("%v is written as %s, %v, not as %s", w.list, spelt(bits), ok, digits)
		}
	}
}

func TestScanBitsOfManyLists(t *testing.T) {
	wide := wideTables()
	for i, list := range someScans() {
		best, ok := impl.ScanBest(list)
		if !ok {
			t.Fatalf("list %d has no best tables", i)
		}
		for _, tables := range []impl.Tables{wide, best} {
			want, _ := plainScan(tables, list)
			bits, ok := impl.ScanBits(tables, list)
			if !ok || spelt(bits) != want {
				t.Errorf("list %d is written as %s, %v, not as %s", i, spelt(bits), ok, want)
			}
			if n := impl.ScanCost(tables, list); n != len(want) {
				t.Errorf("list %d costs %d bits, not %d", i, n, len(want))
			}
			s, ok := impl.ScanText(tables, list)
			if !ok || s != impl.Stuff(impl.PutBits(bitsOf(want))) {
				t.Errorf("list %d has the text %q, %v", i, s, ok)
			}
		}
	}
}

func TestBlocksComeBackFromBitsAndText(t *testing.T) {
	for i, list := range someScans() {
		best, _ := impl.ScanBest(list)
		for _, tables := range []impl.Tables{wideTables(), best} {
			bits, _ := impl.ScanBits(tables, list)
			for _, more := range [][]int{nil, {0}, {1}, someBits(40), slices.Repeat([]int{1}, 100)} {
				back, n, ok := impl.ScanBlocks(tables, slices.Concat(bits, more), len(list))
				if !ok || n != len(bits) || !sameBlocks(back, list) {
					t.Errorf("list %d comes back as %v, %d, %v", i, back, n, ok)
				}
			}
			for k := range list {
				first, _ := impl.ScanBits(tables, list[:k])
				back, n, ok := impl.ScanBlocks(tables, bits, k)
				if !ok || n != len(first) || !sameBlocks(back, list[:k]) {
					t.Errorf("%d blocks of list %d come back as %v, %d, %v", k, i, back, n, ok)
				}
			}
			s, _ := impl.ScanText(tables, list)
			if back, ok := impl.ScanRead(tables, s, len(list)); !ok || !sameBlocks(back, list) {
				t.Errorf("list %d comes back from its text as %v, %v", i, back, ok)
			}
		}
	}
}

func TestNoBlocks(t *testing.T) {
	for _, tables := range []impl.Tables{wideTables(), loneTables(0, 0), loneTables(255, 255)} {
		for _, none := range [][]impl.Block{nil, {}} {
			if bits, ok := impl.ScanBits(tables, none); !ok || len(bits) != 0 {
				t.Errorf("no blocks are %v, %v", bits, ok)
			}
			if s, ok := impl.ScanText(tables, none); !ok || s != "" || impl.ScanCost(tables, none) != 0 {
				t.Errorf("no blocks are %q, %v", s, ok)
			}
		}
		for _, bits := range [][]int{nil, {}, {0}, {1, 1, 1}} {
			if list, n, ok := impl.ScanBlocks(tables, bits, 0); !ok || n != 0 || len(list) != 0 {
				t.Errorf("no blocks of %v are %v, %d, %v", bits, list, n, ok)
			}
		}
		if list, ok := impl.ScanRead(tables, "", 0); !ok || len(list) != 0 {
			t.Errorf("no blocks are %v, %v", list, ok)
		}
		for _, s := range []string{"\x00", "\x7f", "\xff\x00", "\xff"} {
			textHasNone(t, fmt.Sprintf("%q", s), tables, s, 0)
		}
		readsNone(t, "one of nothing", tables, nil, 1)
		textHasNone(t, "one of nothing", tables, "", 1)
	}
}

func TestHowManyBlocks(t *testing.T) {
	tables := loneTables(0, 0)
	list := slices.Repeat([]impl.Block{blockWith(0)}, 1601)
	bits, ok := impl.ScanBits(tables, list[:1600])
	if !ok || len(bits) != 3200 || slices.Max(bits) != 0 || impl.ScanCost(tables, list[:1600]) != 3200 {
		t.Errorf("1600 blocks have %d bits, %v", len(bits), ok)
	}
	s, ok := impl.ScanText(tables, list[:1600])
	if !ok || s != strings.Repeat("\x00", 400) {
		t.Errorf("1600 blocks have %d bytes, %v", len(s), ok)
	}
	if back, n, ok := impl.ScanBlocks(tables, bits, 1600); !ok || n != 3200 || !sameBlocks(back, list[:1600]) {
		t.Errorf("%d blocks come back, %d bits, %v", len(back), n, ok)
	}
	if back, ok := impl.ScanRead(tables, s, 1600); !ok || !sameBlocks(back, list[:1600]) {
		t.Errorf("%d blocks come back, %v", len(back), ok)
	}
	refuses(t, "1601 blocks", tables, list)
	refuses(t, "1601 blocks", wideTables(), list)
	enough := make([]int, 8000)
	for _, n := range []int{1601, -1, 1602, 4000, math.MaxInt, math.MinInt} {
		readsNone(t, fmt.Sprint(n, " blocks"), tables, enough, n)
		textHasNone(t, fmt.Sprint(n, " blocks"), tables, impl.PutBits(enough[:max(0, min(8000, n*2))]), n)
	}
	dc, ac, ok := impl.ScanFreqs(list[:1600])
	if !ok || !slices.Equal(dc, freqWith(0, 1600)) || !slices.Equal(ac, freqWith(endSym, 1600)) {
		t.Errorf("1600 blocks: %v, %v, %v", dc, ac, ok)
	}
	if best, ok := impl.ScanBest(list[:1600]); !ok || !sameTables(best, loneTables(0, 0)) {
		t.Errorf("1600 blocks have the tables %v, %v", best, ok)
	}
	if dc, ac, ok := impl.ScanFreqs(list); ok || len(dc) != 0 || len(ac) != 0 {
		t.Errorf("1601 blocks: %v, %v, %v", dc, ac, ok)
	}
	if best, ok := impl.ScanBest(list); ok || best.Dc.Counts != nil || best.Dc.Syms != nil || best.Ac.Counts != nil || best.Ac.Syms != nil {
		t.Errorf("1601 blocks have the tables %v, %v", best, ok)
	}
}

// brimTables write brimBlock(false) behind one of the same Dc as 300 bits, and
// brimBlock(true) as 301.
func brimTables() impl.Tables {
	return impl.Tables{Dc: codesWith(0, 12), Ac: codesWith(endSym, 13, 0x0a, 15, 0x1a, 16)}
}

func brimBlock(over bool) impl.Block {
	b := blockWith(0)
	for i := range 11 {
		b.Ac[i] = 1023 - i
	}
	if over {
		b.Ac[11], b.Ac[10] = b.Ac[10], 0
	}
	return b
}

func TestBitsUpToMaxBits(t *testing.T) {
	tables := brimTables()
	list := slices.Repeat([]impl.Block{brimBlock(false)}, 1600)
	bits, ok := impl.ScanBits(tables, list)
	if !ok || len(bits) != 480000 || impl.ScanCost(tables, list) != 480000 {
		t.Fatalf("1600 blocks have %d bits, %v", len(bits), ok)
	}
	if back, n, ok := impl.ScanBlocks(tables, bits, 1600); !ok || n != 480000 || !sameBlocks(back, list) {
		t.Errorf("%d blocks come back, %d bits, %v", len(back), n, ok)
	}
	s, ok := impl.ScanText(tables, list)
	text, right := impl.Unstuff(s)
	if !ok || !right || len(text) != 60000 || len(s) <= 60000 {
		t.Fatalf("1600 blocks have %d bytes, %d ahead of Stuff", len(s), len(text))
	}
	if back, ok := impl.ScanRead(tables, s, 1600); !ok || !sameBlocks(back, list) {
		t.Errorf("%d blocks come back, %v", len(back), ok)
	}
	for _, at := range []int{0, 800, 1599} {
		over := slices.Clone(list)
		over[at] = brimBlock(true)
		refuses(t, fmt.Sprint("480001 bits at ", at), tables, over)
		if n := impl.ScanCost(tables, over[:1599]); at < 1599 && n != 479701 {
			t.Errorf("1599 blocks cost %d bits", n)
		}
	}
	long := append(slices.Clone(bits), 1)
	for _, n := range []int{0, 1, 1599, 1600} {
		readsNone(t, fmt.Sprint(n, " blocks of 480001 bits"), tables, long, n)
		back, _, ok := impl.ScanBlocks(tables, bits, n)
		if !ok || len(back) != n {
			t.Errorf("%d blocks of 480000 bits are %d, %v", n, len(back), ok)
		}
	}
	textHasNone(t, "60001 bytes", tables, s+"\x7f", 1600)
	textHasNone(t, "60001 bytes", tables, s+"\xff\x00", 1600)
	textHasNone(t, "59999 bytes", tables, s[:len(s)-1], 1600)
}

func TestFarTooManyBits(t *testing.T) {
	tables := wideTables()
	b := blockWith(1023)
	for i := range b.Ac {
		b.Ac[i] = -1023
	}
	refuses(t, "much too long", tables, slices.Repeat([]impl.Block{b}, 1600))
	readsNone(t, "much too long", tables, make([]int, 2000000), 1)
	textHasNone(t, "much too long", tables, strings.Repeat("\x00", 120000), 1)
	textHasNone(t, "much too long", tables, strings.Repeat("\xff\x00", 60001), 1)
	textHasNone(t, "much too long", tables, strings.Repeat("\x00", 1000000), 1)
}

func TestTablesOfOneSymbol(t *testing.T) {
	zeros := slices.Repeat([]impl.Block{blockWith(0)}, 3)
	ones := []impl.Block{onesBlock(0), onesBlock(0)}
	for _, w := range []struct {
		name   string
		tables impl.Tables
		list   []impl.Block
		ok     bool
	}{
		{"zeros", loneTables(0, endSym), zeros, true},
		{"ones", loneTables(0, 1), ones, true},
		{"ones behind an end", loneTables(0, endSym), ones, false},
		{"zeros by ones", loneTables(0, 1), zeros, false},
		{"a Dc that goes up", loneTables(1, endSym), []impl.Block{blockWith(1), blockWith(2), blockWith(1), blockWith(0)}, true},
		{"a Dc that stays", loneTables(1, endSym), []impl.Block{blockWith(1), blockWith(1)}, false},
		{"a Dc to and fro", loneTables(11, endSym), []impl.Block{blockWith(1023), blockWith(-1023)}, false},
		{"skips alone", loneTables(0, skipSym), zeros, false},
		{"what is no size", loneTables(12, endSym), zeros, false},
		{"what is no step", loneTables(0, 255), zeros, false},
	} {
		bits, ok := impl.ScanBits(w.tables, w.list)
		if ok != w.ok {
			t.Errorf("%s: %v, %v", w.name, bits, ok)
		}
		if !w.ok {
			refuses(t, w.name, w.tables, w.list)
			continue
		}
		if back, n, ok := impl.ScanBlocks(w.tables, bits, len(w.list)); !ok || n != len(bits) || !sameBlocks(back, w.list) {
			t.Errorf("%s: come back as %v, %d, %v", w.name, back, n, ok)
		}
		readsNone(t, w.name+" and one more", w.tables, bits, len(w.list)+1)
	}
	for _, tables := range []impl.Tables{loneTables(12, endSym), loneTables(255, endSym), loneTables(0, skipSym), loneTables(0, 255), loneTables(0, 0x10)} {
		readsNone(t, fmt.Sprint(tables), tables, make([]int, 3000), 1)
		readsNone(t, fmt.Sprint(tables), tables, slices.Repeat([]int{1}, 3000), 1)
	}
}

func TestDifferencesOfSizeEleven(t *testing.T) {
	tables := impl.Tables{Dc: codesWith(0, 2, 10, 2, 11, 2), Ac: codesWith(endSym, 1)}
	list := []impl.Block{blockWith(-1023), blockWith(1023), blockWith(1023), blockWith(-1023), blockWith(1)}
	bits, ok := impl.ScanBits(tables, list)
	want := "01" + "0000000000" + "0" + "10" + "11111111110" + "0" + "00" + "0" + "10" + "00000000001" + "0" + "10" + "10000000000" + "0"
	if !ok || spelt(bits) != want {
		t.Errorf("%s, %v, not %s", spelt(bits), ok, want)
	}
	if back, n, ok := impl.ScanBlocks(tables, bits, 5); !ok || n != len(want) || !sameBlocks(back, list) {
		t.Errorf("come back as %v, %d, %v", back, n, ok)
	}
}

func TestDcThatAddsUpTooFar(t *testing.T) {
	tables := impl.Tables{Dc: codesWith(0, 3, 1, 3, 10, 3, 11, 3, 12, 3), Ac: codesWith(endSym, 1)}
	for _, w := range []struct {
		name   string
		digits string
		n      int
		ok     bool
	}{
		{"1023", "010" + "1111111111" + "0", 1, true},
		{"-1023", "010" + "0000000000" + "0", 1, true},
		{"1024", "011" + "10000000000" + "0", 1, false},
		{"-1024", "011" + "01111111111" + "0", 1, false},
		{"2047", "011" + "11111111111" + "0", 1, false},
		{"-2047", "011" + "00000000000" + "0", 1, false},
		{"size 12", "100" + "100000000000" + "0", 1, false},
		{"1023 and 1 more", "010" + "1111111111" + "0" + "001" + "1" + "0", 2, false},
		{"1023 and 1 less", "010" + "1111111111" + "0" + "001" + "0" + "0", 2, true},
		{"-1023 and 1 less", "010" + "0000000000" + "0" + "001" + "0" + "0", 2, false},
		{"-1023 and 1 more", "010" + "0000000000" + "0" + "001" + "1" + "0", 2, true},
		{"-1023 and 2046 more", "010" + "0000000000" + "0" + "011" + "11111111110" + "0", 2, true},
		{"-1023 and 2047 more", "010" + "0000000000" + "0" + "011" + "11111111111" + "0", 2, false},
		{"1023 and 2046 less", "010" + "1111111111" + "0" + "011" + "00000000001" + "0", 2, true},
		{"1023 and 2047 less", "010" + "1111111111" + "0" + "011" + "00000000000" + "0", 2, false},
		{"up too far and back", "010" + "1111111111" + "0" + "001" + "1" + "0" + "001" + "0" + "0", 3, false},
	} {
		back, n, ok := impl.ScanBlocks(tables, bitsOf(w.digits), w.n)
		if ok != w.ok || ok && n != len(w.digits) {
			t.Errorf("%s: %v, %d, %v", w.name, back, n, ok)
		}
		if !w.ok {
			readsNone(t, w.name, tables, bitsOf(w.digits+"00000000"), w.n)
			textHasNone(t, w.name, tables, impl.Stuff(impl.PutBits(bitsOf(w.digits))), w.n)
		}
	}
}

func TestTablesThatAreNotRight(t *testing.T) {
	list := []impl.Block{blockWith(0)}
	for _, w := range someWrongCodes() {
		for _, tables := range []impl.Tables{
			{Dc: w.codes, Ac: wideTables().Ac},
			{Dc: wideTables().Dc, Ac: w.codes},
			{Dc: w.codes, Ac: w.codes},
		} {
			for _, blocks := range [][]impl.Block{nil, list} {
				refuses(t, w.name, tables, blocks)
				readsNone(t, w.name, tables, nil, len(blocks))
				readsNone(t, w.name, tables, make([]int, 100), len(blocks))
				textHasNone(t, w.name, tables, "", len(blocks))
				textHasNone(t, w.name, tables, "\x00", len(blocks))
			}
		}
	}
}

func TestBlocksThatAreNotRight(t *testing.T) {
	for _, w := range someWrongBlocks() {
		for at := range 3 {
			list := []impl.Block{blockWith(1), blockWith(2), blockWith(3)}
			list[at] = w.block
			refuses(t, w.name, wideTables(), list)
			if dc, ac, ok := impl.ScanFreqs(list); ok || len(dc) != 0 || len(ac) != 0 {
				t.Errorf("%s: %v, %v, %v", w.name, dc, ac, ok)
			}
			if best, ok := impl.ScanBest(list); ok || !sameTables(best, impl.Tables{}) {
				t.Errorf("%s: %v, %v", w.name, best, ok)
			}
		}
	}
}

// without gives codes that lack a symbol.
func without(c impl.Codes, sym int) impl.Codes {
	c = impl.Codes{Counts: slices.Clone(c.Counts), Syms: slices.Clone(c.Syms)}
	at := slices.Index(c.Syms, sym)
	c.Syms = slices.Delete(c.Syms, at, at+1)
	for i, n := range c.Counts {
		at -= n
		if at < 0 {
			c.Counts[i]--
			break
		}
	}
	return c
}

func TestCodesThatAreLacking(t *testing.T) {
	wide := wideTables()
	list := someBlocks()
	dc, ac, _ := impl.ScanFreqs(list)
	lacking := 0
	for _, sym := range wide.Dc.Syms {
		tables := impl.Tables{Dc: without(wide.Dc, sym), Ac: wide.Ac}
		if n := impl.ScanCost(tables, list); (n >= 0) != (dc[sym] == 0) {
			t.Errorf("without %d of Dc the cost is %d", sym, n)
		}
		if dc[sym] > 0 {
			lacking++
			refuses(t, fmt.Sprint("without Dc ", sym), tables, list)
		}
	}
	for _, sym := range wide.Ac.Syms {
		tables := impl.Tables{Dc: wide.Dc, Ac: without(wide.Ac, sym)}
		if n := impl.ScanCost(tables, list); (n >= 0) != (ac[sym] == 0) {
			t.Errorf("without %d of Ac the cost is %d", sym, n)
		}
		if ac[sym] > 0 {
			lacking++
			refuses(t, fmt.Sprint("without Ac ", sym), tables, list)
		}
	}
	if lacking < 100 {
		t.Errorf("only %d codes are lacking", lacking)
	}
}

// Each table is asked for its own symbols, never for those of the other one.
func TestTablesAreNotMixedUp(t *testing.T) {
	tables := impl.Tables{Dc: codesWith(2, 1), Ac: codesWith(1, 2, endSym, 3)}
	refuses(t, "tables changed over", impl.Tables{Dc: tables.Ac, Ac: tables.Dc}, []impl.Block{blockWith(3, 0, 1)})
	bits, ok := impl.ScanBits(tables, []impl.Block{blockWith(3, 0, 1)})
	if !ok || spelt(bits) != "0"+"11"+"00"+"1"+"010" {
		t.Errorf("%v, %v", bits, ok)
	}
	refuses(t, "a Dc of size 1", tables, []impl.Block{blockWith(1, 0, 1)})
	refuses(t, "a number of size 2", tables, []impl.Block{blockWith(3, 0, 3)})
}

func TestNumbersThatAreNoBitsOfBlocks(t *testing.T) {
	tables := wideTables()
	list := []impl.Block{blockWith(5, 3, -7), blockWith(-5)}
	bits, _ := impl.ScanBits(tables, list)
	bits = append(bits, 0, 1, 1)
	for at := range bits {
		for _, x := range []int{-1, 2, 256, math.MaxInt, math.MinInt} {
			wrong := slices.Clone(bits)
			wrong[at] = x
			for n := range 3 {
				readsNone(t, fmt.Sprint(x, " at ", at), tables, wrong, n)
			}
		}
	}
}

func TestBitsThatEndEarly(t *testing.T) {
	list := []impl.Block{blockWith(-1023, 0, 1023, 30, -5), blockWith(1023, 62, 1), fullBlock(), onesBlock(3)}
	best, _ := impl.ScanBest(list)
	for _, tables := range []impl.Tables{wideTables(), best} {
		bits, _ := impl.ScanBits(tables, list)
		for end := range bits {
			readsNone(t, fmt.Sprint(end, " bits"), tables, bits[:end], 4)
		}
		s, _ := impl.ScanText(tables, list)
		for end := range len(s) {
			textHasNone(t, fmt.Sprint(end, " bytes"), tables, s[:end], 4)
		}
	}
}

func TestStepsThatNoBlockHasInBits(t *testing.T) {
	tables := impl.Tables{
		Dc: codesWith(0, 1),
		Ac: codesWith(endSym, 4, skipSym, 4, 1, 4, 0xf1, 4, 0xe1, 4, 0xd1, 4, 0x10, 4, 0xe0, 4, 0x0b, 4, 0xfb, 4, 0x0f, 4, 0xff, 4),
	}
	codes := speltCodes(tables.Ac)
	end, skip, one, far := codes[endSym], codes[skipSym], codes[1]+"1", codes[0xf1]+"1"
	for _, w := range []struct {
		name   string
		digits string
		ok     bool
	}{
		{"an end", end, true},
		{"a skip and an end", skip + end, false},
		{"a skip and a number", skip + one + end, true},
		{"three skips and an end", strings.Repeat(skip, 3) + end, false},
		{"three skips and a number", strings.Repeat(skip, 3) + one + end, true},
		{"four skips", strings.Repeat(skip, 4), false},
		{"three skips and the last number", strings.Repeat(skip, 3) + codes[0xe1] + "1", true},
		{"three skips and the last but one", strings.Repeat(skip, 3) + codes[0xd1] + "1" + end, true},
		{"three skips and no room", strings.Repeat(skip, 3) + far, false},
		{"three numbers and one without room", strings.Repeat(far, 4), false},
		{"a number, three skips and no room", one + strings.Repeat(skip, 3) + codes[0xe1] + "1", false},
		{"a number, three skips and the last", one + strings.Repeat(skip, 3) + codes[0xd1] + "1", true},
		{"sixty-three numbers", strings.Repeat(one, 63), true},
		{"sixty-two numbers and an end", strings.Repeat(one, 62) + end, true},
		{"sixty-two numbers and a skip", strings.Repeat(one, 62) + skip, false},
		{"a run of 1 without a number", codes[0x10] + end, false},
		{"a run of 14 without a number", codes[0xe0] + one + end, false},
		{"size 11", codes[0x0b] + "10000000000" + end, false},
		{"size 11 behind a run", codes[0xfb] + "10000000000" + end, false},
		{"size 15", codes[0x0f] + "100000000000000" + end, false},
		{"size 15 behind a run", codes[0xff] + "100000000000000" + end, false},
	} {
		digits := "0" + w.digits
		list, n, ok := impl.ScanBlocks(tables, bitsOf(digits), 1)
		if ok != w.ok || ok && n != len(digits) {
			t.Errorf("%s: %v, %d, %v", w.name, list, n, ok)
		}
		if !w.ok {
			readsNone(t, w.name, tables, bitsOf(digits+strings.Repeat("0", 40)), 1)
			textHasNone(t, w.name, tables, impl.Stuff(impl.PutBits(bitsOf(digits))), 1)
		}
	}
}

// shortTables have short codes for what a block may have and may not have.
func shortTables() []impl.Tables {
	return []impl.Tables{
		loneTables(0, endSym),
		loneTables(1, endSym),
		{Dc: codesWith(0, 1, 1, 2), Ac: codesWith(endSym, 1, 1, 2)},
		{Dc: codesWith(0, 1, 12, 2), Ac: codesWith(endSym, 1, skipSym, 2, 0xe1, 3)},
		{Dc: codesWith(2, 1, 0, 2), Ac: codesWith(skipSym, 1, 0xe1, 2, endSym, 3)},
		{Dc: codesWith(0, 1), Ac: codesWith(0xf1, 1, 0xe1, 2, 0x10, 3, endSym, 4)},
		{Dc: codesWith(255, 1, 0, 2), Ac: codesWith(0x50, 2, endSym, 2, 0x12, 2)},
		{Dc: codesWith(1, 2, 0, 3), Ac: codesWith(0xf2, 1, endSym, 5)},
	}
}

// sameAsPlain fails where ScanBlocks or ScanRead answers otherwise than plainRead.
func sameAsPlain(t *testing.T, tables impl.Tables, bits []int, n int) bool {
	t.Helper()
	want, end, right := plainRead(tables, spelt(bits), n)
	got, behind, ok := impl.ScanBlocks(tables, bits, n)
	if ok != right || behind != end || !sameBlocks(got, want) {
		t.Fatalf("%d blocks of %s are %v, %d, %v, not %v, %d, %v", n, spelt(bits), got, behind, ok, want, end, right)
	}
	if len(bits)%8 != 0 {
		return ok
	}
	filled := len(bits)-end < 8 && !slices.Contains(bits[end:], 0)
	s := impl.Stuff(impl.PutBits(bits))
	if got, ok := impl.ScanRead(tables, s, n); ok != (right && filled) || ok && !sameBlocks(got, want) || !ok && len(got) != 0 {
		t.Fatalf("%d blocks of the text of %s are %v, %v", n, spelt(bits), got, ok)
	}
	return ok
}

func TestScanBlocksOfAllShortBits(t *testing.T) {
	for i, tables := range shortTables() {
		taken, refused := 0, 0
		for length := range 12 {
			for x := range 1 << length {
				for n := range 4 {
					if sameAsPlain(t, tables, impl.NumBits(x, length), n) {
						taken++
					} else {
						refused++
					}
				}
			}
		}
		if taken < 4000 || refused < 500 {
			t.Errorf("tables %d: %d taken, %d refused", i, taken, refused)
		}
	}
}

func TestScanBlocksOfChangedBits(t *testing.T) {
	taken, refused := 0, 0
	for _, list := range [][]impl.Block{
		{blockWith(5, 3, -7, 22, 1), blockWith(1023, 62, 3), blockWith(-1023)},
		{onesBlock(2)},
		{blockWith(-1), blockWith(0, 17, 1023), blockWith(9, 0, 2, 40, -2)},
	} {
		best, _ := impl.ScanBest(list)
		for _, tables := range []impl.Tables{wideTables(), best} {
			bits, _ := impl.ScanBits(tables, list)
			for at := range bits {
				flipped := slices.Clone(bits)
				flipped[at] = 1 - flipped[at]
				cut := slices.Delete(slices.Clone(bits), at, at+1)
				more := slices.Insert(slices.Clone(bits), at, 1)
				for _, next := range [][]int{flipped, cut, more} {
					if sameAsPlain(t, tables, next, len(list)) {
						taken++
					} else {
						refused++
					}
				}
			}
		}
	}
	if taken < 100 || refused < 100 {
		t.Errorf("%d taken, %d refused", taken, refused)
	}
}

func TestTextsThatAreNotQuiteRight(t *testing.T) {
	tables := impl.Tables{Dc: codesWith(0, 1, 2, 2), Ac: codesWith(endSym, 1)}
	list := []impl.Block{blockWith(0), blockWith(3)}
	s, ok := impl.ScanText(tables, list)
	if !ok || s != string([]byte{0b00101101}) {
		t.Fatalf("%q, %v", s, ok)
	}
	for c := range 256 {
		back, ok := impl.ScanRead(tables, string([]byte{byte(c)}), 2)
		if ok && c == 255 {
			t.Errorf("a text that is not stuffed is %v", back)
		}
		if again, right := impl.ScanText(tables, back); ok && (!right || again != string([]byte{byte(c)})) {
			t.Errorf("%q is %v", byte(c), back)
		}
	}
	for _, more := range []string{"\x00", "\xff\x00", "\x7f", "\xff", "\xff\xff"} {
		textHasNone(t, "a byte more", tables, s+more, 2)
		textHasNone(t, "a byte ahead", tables, more+s, 2)
	}
	textHasNone(t, "zeros behind", tables, "\x2c", 2)
	textHasNone(t, "one block less", tables, s, 1)
	textHasNone(t, "one block more", tables, s, 3)
}

// The ones that fill the last byte are at most seven.
func TestOnesThatFillTheLastByte(t *testing.T) {
	tables := loneTables(0, endSym)
	for n := range 13 {
		list := slices.Repeat([]impl.Block{blockWith(0)}, n)
		want := strings.Repeat("\x00", n/4) + []string{"", "\x3f", "\x0f", "\x03"}[n%4]
		if s, ok := impl.ScanText(tables, list); !ok || s != want {
			t.Errorf("%d blocks are %q, %v", n, s, ok)
		}
		if back, ok := impl.ScanRead(tables, want, n); !ok || !sameBlocks(back, list) {
			t.Errorf("%d blocks come back as %v, %v", n, back, ok)
		}
		textHasNone(t, "ones behind", tables, want+"\xff\x00", n)
		if n%4 == 0 {
			continue
		}
		for k := range 8 - 2*(n%4) {
			zero := []byte(want)
			zero[len(zero)-1] &^= 1 << k
			if string(zero) != want {
				textHasNone(t, "a zero behind", tables, string(zero), n)
			}
		}
	}
}

func TestTextsAreStuffed(t *testing.T) {
	tables := impl.Tables{Dc: codesWith(10, 1, 0, 2), Ac: codesWith(10, 1, endSym, 2)}
	b := blockWith(1023, 0, 1023, 1, 1023, 2, 1023, 3, 1023)
	list := []impl.Block{b, b}
	s, ok := impl.ScanText(tables, list)
	bits, _ := impl.ScanBits(tables, list)
	plain := impl.PutBits(bits)
	if !ok || !strings.Contains(plain, "\xff") || s != strings.ReplaceAll(plain, "\xff", "\xff\x00") {
		t.Fatalf("%q, %v", s, ok)
	}
	if back, ok := impl.ScanRead(tables, s, 2); !ok || !sameBlocks(back, list) {
		t.Errorf("%q comes back as %v, %v", s, back, ok)
	}
	textHasNone(t, "not stuffed", tables, plain, 2)
	textHasNone(t, "stuffed twice", tables, impl.Stuff(s), 2)
	at := strings.Index(s, "\xff")
	for c := 1; c < 256; c++ {
		textHasNone(t, "a mark", tables, s[:at+1]+string([]byte{byte(c)})+s[at+2:], 2)
	}
}

// plainFreqs counts what plainSteps tells.
func plainFreqs(list []impl.Block) ([]int, []int) {
	dc, ac := freqWith(), freqWith()
	ahead := 0
	for _, b := range list {
		dc[plainSize(b.Dc-ahead)]++
		ahead = b.Dc
		for _, s := range plainSteps(b.Ac) {
			ac[16*s.Run+s.Size]++
		}
	}
	return dc, ac
}

func TestScanFreqs(t *testing.T) {
	for i, list := range someScans() {
		wantDc, wantAc := plainFreqs(list)
		dc, ac, ok := impl.ScanFreqs(list)
		if !ok || !slices.Equal(dc, wantDc) || !slices.Equal(ac, wantAc) {
			t.Errorf("list %d: %v, %v, %v", i, dc, ac, ok)
		}
		rests := 0
		for size := range 256 {
			rests += size*dc[size] + size%16*ac[size]
		}
		wide := wideTables()
		if n := impl.Spent(wide.Dc, dc) + impl.Spent(wide.Ac, ac) + rests; n != impl.ScanCost(wide, list) {
			t.Errorf("list %d costs %d, not %d", i, impl.ScanCost(wide, list), n)
		}
	}
	dc, ac, ok := impl.ScanFreqs([]impl.Block{blockWith(-1023, 16, -1), blockWith(1023, 62, 1023), blockWith(1023, 0, 2, 17, 9)})
	if !ok || !slices.Equal(dc, freqWith(10, 1, 11, 1, 0, 1)) || !slices.Equal(ac, freqWith(skipSym, 5, 1, 1, 0xea, 1, 2, 1, 4, 1, endSym, 2)) {
		t.Errorf("%v, %v, %v", dc, ac, ok)
	}
}

func TestScanBest(t *testing.T) {
	for i, list := range someScans() {
		dc, ac := plainFreqs(list)
		dc[0]++
		ac[0]++
		want := impl.Tables{Dc: plainBest(dc), Ac: plainBest(ac)}
		if best, ok := impl.ScanBest(list); !ok || !sameTables(best, want) || !impl.CodesOk(best.Dc) || !impl.CodesOk(best.Ac) {
			t.Errorf("list %d: %v, %v, not %v", i, best, ok, want)
		}
	}
	for _, none := range [][]impl.Block{nil, {}} {
		if best, ok := impl.ScanBest(none); !ok || !sameTables(best, loneTables(0, 0)) {
			t.Errorf("no blocks: %v, %v", best, ok)
		}
	}
	// A symbol 0 that no block has gets its code all the same.
	best, ok := impl.ScanBest([]impl.Block{onesBlock(1)})
	if !ok || !slices.Equal(best.Dc.Syms, []int{1, 0}) && !slices.Equal(best.Dc.Syms, []int{0, 1}) || !slices.Equal(best.Ac.Syms, []int{1, 0}) {
		t.Errorf("%v, %v", best, ok)
	}
}

// otherTables gives tables that can write the blocks, but are not the best.
func otherTables(list []impl.Block) []impl.Tables {
	dc, ac, _ := impl.ScanFreqs(list)
	all := []impl.Tables{wideTables()}
	for k := range 6 {
		pair := [2]impl.Codes{}
		for i, freq := range [][]int{dc, ac} {
			next := slices.Clone(freq)
			for sym := range next {
				if next[sym] > 0 && k > 0 {
					next[sym] = 1 + next[sym]*(sym*k%7+1)/3
				}
			}
			if slices.Max(next) == 0 {
				next[9] = 1
			}
			pair[i], _ = impl.BestCodes(next)
		}
		all = append(all, impl.Tables{Dc: pair[0], Ac: pair[1]})
	}
	return all
}

func TestBestTablesCostNoMoreThanOthers(t *testing.T) {
	less := 0
	for i, list := range someScans() {
		best, _ := impl.ScanBest(list)
		cost := impl.ScanCost(best, list)
		bits, _ := impl.ScanBits(best, list)
		if cost < 0 || cost != len(bits) {
			t.Errorf("list %d costs %d with the best tables", i, cost)
		}
		for k, tables := range otherTables(list) {
			other := impl.ScanCost(tables, list)
			if other < 0 || cost > other+32 {
				t.Errorf("list %d costs %d with the best tables, and %d with tables %d", i, cost, other, k)
			}
			if cost < other {
				less++
			}
		}
	}
	if less < 100 {
		t.Errorf("the best tables cost less than others %d times", less)
	}
}

// Numbers of Ac of one size alone, none of them 0, are more than BestCodes takes.
func TestBestTablesOfTooManyOfOneSymbol(t *testing.T) {
	list := slices.Repeat([]impl.Block{onesBlock(0)}, 1600)
	for _, n := range []int{1587, 1588, 1600} {
		_, ac, ok := impl.ScanFreqs(list[:n])
		if !ok || ac[1] != 63*n {
			t.Errorf("%d blocks: %v, %v", n, ac, ok)
		}
		ac[0]++
		want, _ := impl.BestCodes(ac)
		best, ok := impl.ScanBest(list[:n])
		if !ok || !sameCodes(best.Dc, codesWith(0, 1)) || !sameCodes(best.Ac, want) || impl.CodesOk(best.Ac) != (63*n <= 100000) {
			t.Errorf("%d blocks: %v, %v", n, best, ok)
		}
	}
}

func TestScansAreLeftAlone(t *testing.T) {
	countRoom := append(counts(1, 1, 1, 1), 71, 72)
	symRoom := append([]int{0, 1, 2, 3}, 73, 74)
	acRoom := append(blockWith(4, 0, 3, 1, -2).Ac, 75, 76)
	blockRoom := []impl.Block{{Dc: 1, Ac: acRoom[:63]}, {Dc: 2, Ac: acRoom[:63]}, {Dc: 77}, {Dc: 78}}
	codes := impl.Codes{Counts: countRoom[:16], Syms: symRoom[:4]}
	tables := impl.Tables{Dc: codes, Ac: codes}
	bits, ok := impl.ScanBits(tables, blockRoom[:2])
	if !ok {
		t.Fatal("the blocks are refused")
	}
	bitRoom := append(slices.Clone(bits), 1, 79, 80)
	rooms := [][]int{countRoom, symRoom, acRoom, bitRoom}
	kept := [][]int{}
	for _, room := range rooms {
		kept = append(kept, slices.Clone(room))
	}
	impl.ScanBits(tables, blockRoom[:2])
	if _, _, ok := impl.ScanBlocks(tables, bitRoom[:len(bits)+1], 2); !ok {
		t.Error("the bits are refused")
	}
	impl.ScanFreqs(blockRoom[:2])
	impl.ScanBest(blockRoom[:2])
	impl.ScanCost(tables, blockRoom[:2])
	s, _ := impl.ScanText(tables, blockRoom[:2])
	impl.ScanRead(tables, s, 2)
	for i, room := range rooms {
		if !slices.Equal(room, kept[i]) {
			t.Errorf("list %d, or the room behind it, was written into", i)
		}
	}
	for i, dc := range []int{1, 2, 77, 78} {
		if blockRoom[i].Dc != dc || i < 2 && &blockRoom[i].Ac[0] != &acRoom[0] || i > 1 && blockRoom[i].Ac != nil {
			t.Errorf("block %d was written into", i)
		}
	}
}

func TestAnswersOfScansAreNewMemory(t *testing.T) {
	tables := wideTables()
	list := []impl.Block{blockWith(4, 3, -9, 40, 1023), blockWith(5, 1, 1), blockWith(5)}
	kept := cloneBlocks(list)
	bits, _ := impl.ScanBits(tables, list)
	s, _ := impl.ScanText(tables, list)
	keptBits := slices.Clone(bits)
	listsOf := func(blocks []impl.Block) [][]int {
		lists := [][]int{}
		for _, b := range blocks {
			lists = append(lists, b.Ac)
		}
		return lists
	}
	for i, ask := range []func() [][]int{
		func() [][]int { bits, _ := impl.ScanBits(tables, list); return [][]int{bits} },
		func() [][]int { blocks, _, _ := impl.ScanBlocks(tables, bits, 3); return listsOf(blocks) },
		func() [][]int { dc, ac, _ := impl.ScanFreqs(list); return [][]int{dc, ac} },
		func() [][]int {
			best, _ := impl.ScanBest(list)
			return [][]int{best.Dc.Counts, best.Dc.Syms, best.Ac.Counts, best.Ac.Syms}
		},
		func() [][]int { blocks, _ := impl.ScanRead(tables, s, 3); return listsOf(blocks) },
	} {
		a, other, want := ask(), ask(), ask()
		for k := range a {
			spoil(a[k])
			if len(want[k]) == 0 || !slices.Equal(other[k], want[k]) || !slices.Equal(ask()[k], want[k]) {
				t.Errorf("answer %d shares memory", i)
			}
			if k+1 < len(a) && !slices.Equal(a[k+1], want[k+1]) {
				t.Errorf("two lists of answer %d share memory", i)
			}
		}
	}
	if !sameBlocks(list, kept) || !slices.Equal(bits, keptBits) || !sameTables(tables, wideTables()) {
		t.Error("an answer shares memory with an argument")
	}
}

// steepBlocks have symbols of Ac each of which stands so much more often than
// the one before that some codes would be longer than 16 bits.
func steepBlocks() []impl.Block {
	ac := []int{}
	often := 1
	for i := range 17 {
		for range often {
			ac = append(ac, make([]int, 1-i/9)...)
			ac = append(ac, 1<<(8-i%9))
		}
		often += often*3/4 + 1
	}
	list := []impl.Block{}
	for piece := range slices.Chunk(ac, 63) {
		b := blockWith(0)
		copy(b.Ac, piece)
		list = append(list, b)
	}
	return list
}

func TestBestTablesOfEightBits(t *testing.T) {
	list := steepBlocks()
	_, ac := plainFreqs(list)
	ac[0]++
	longest := 0
	for _, n := range plainLengths(ac) {
		longest = max(longest, n)
	}
	best, ok := impl.ScanBest(list)
	if longest <= 16 || !ok || best.Ac.Counts[7] != len(best.Ac.Syms) || !sameCodes(best.Ac, plainBest(ac)) {
		t.Fatalf("the longest has %d bits: %v, %v", longest, best, ok)
	}
	bits, ok := impl.ScanBits(best, list)
	if back, n, also := impl.ScanBlocks(best, bits, len(list)); !ok || !also || n != len(bits) || !sameBlocks(back, list) {
		t.Errorf("%d blocks of %d bits come back, %v", len(back), n, also)
	}
}
