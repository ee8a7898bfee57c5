package tests

import (
	"fmt"
	"math"
	"slices"
	"strconv"
	"strings"
	"testing"

	"loop.example/g00120/impl"
)

// toldNum is a number, and the group in which it is told.
type toldNum struct {
	group int
	x     int
}

// plainBands has the band of each number of Ac as a digit.
var plainBands = "000" + "1111111" + strings.Repeat("2", 15) + strings.Repeat("3", 38)

func plainLength(b impl.Block) int {
	n := 0
	for i, x := range b.Ac {
		if x != 0 {
			n = i + 1
		}
	}
	return n
}

// plainTold gives all numbers of blocks by the words of the document, each block
// with a look at those ahead of it.
func plainTold(list []impl.Block) []toldNum {
	told := []toldNum{}
	for i, b := range list {
		dc, shift, length := 0, 0, 0
		if i > 0 {
			dc, shift, length = list[i-1].Dc, list[i-1].Dc, plainLength(list[i-1])
		}
		if i > 1 {
			shift -= list[i-2].Dc
		}
		groups := [2]int{0, 2}
		if shift == 0 {
			groups[0] = 1
		}
		if length >= 10 {
			groups[1] = 3
		}
		told = append(told, toldNum{groups[0], b.Dc - dc}, toldNum{groups[1], plainLength(b)})
		for k, x := range b.Ac[:plainLength(b)] {
			neighbour := 0
			if k > 0 {
				neighbour = min(plainSize(b.Ac[k-1]), 2)
			}
			told = append(told, toldNum{4 + 3*int(plainBands[k]-'0') + neighbour, x})
		}
	}
	return told
}

// plainPacker tells any numbers in any groups; ahead has how long Out was ahead
// of each.
type plainPacker struct {
	low     uint32
	high    uint32
	out     []byte
	chances []int
	ahead   []int
}

func newPlainPacker() plainPacker {
	return plainPacker{high: top, chances: slices.Repeat([]int{2048}, 16*24)}
}

// with leaves p as it is.
func (p plainPacker) with(told []toldNum) plainPacker {
	p.out, p.chances, p.ahead = slices.Clone(p.out), slices.Clone(p.chances), slices.Clone(p.ahead)
	for _, n := range told {
		p.ahead = append(p.ahead, len(p.out))
		digits, slots := plainPlan(n.x)
		for i, slot := range slots {
			chance := &p.chances[24*n.group+slot]
			bit, gone := int(digits[i]-'0'), ""
			p.low, p.high, gone = plainBounds(p.low, p.high, bit, *chance)
			p.out = append(p.out, gone...)
			*chance = plainLearn(*chance, bit)
		}
	}
	return p
}

func (p plainPacker) text() (string, bool) {
	if len(p.ahead) > 0 && slices.Max(p.ahead) > 59800 {
		return "", false
	}
	return string(p.out) + string([]byte{byte(p.low >> 24), byte(p.low >> 16), byte(p.low >> 8), byte(p.low)}), true
}

func plainPack(list []impl.Block) (string, bool) {
	return newPlainPacker().with(plainTold(list)).text()
}

// toldText is the text of any numbers in any groups.
func toldText(told ...toldNum) string {
	s, _ := newPlainPacker().with(told).text()
	return s
}

// plainUnpacker reads numbers by the rows of all their decisions.
type plainUnpacker struct {
	reader  impl.Reader
	chances []int
	whole   map[string]int
	open    map[string]int
}

func newPlainUnpacker(s string) *plainUnpacker {
	u := &plainUnpacker{chances: slices.Repeat([]int{2048}, 16*24)}
	u.whole, u.open = sharedRows()
	u.reader = impl.Reader{High: top, In: s, At: 4}
	for i := range 4 {
		u.reader.Code *= 256
		if i < len(s) {
			u.reader.Code += uint32(s[i])
		}
	}
	return u
}

var keptRows []map[string]int

func sharedRows() (map[string]int, map[string]int) {
	if keptRows == nil {
		whole, open := plainRows()
		keptRows = []map[string]int{whole, open}
	}
	return keptRows[0], keptRows[1]
}

func (u *plainUnpacker) next(group int) (int, bool) {
	row := ""
	for {
		if x, ok := u.whole[row]; ok {
			return x, true
		}
		chance, bit := &u.chances[24*group+u.open[row]], 0
		if u.reader, bit = plainGet(u.reader, *chance); bit < 0 {
			return 0, false
		}
		*chance = plainLearn(*chance, bit)
		row += strconv.Itoa(bit)
	}
}

// plainUnpack reads whatever it can, and takes it only if it is packed so.
func plainUnpack(s string, n int) ([]impl.Block, bool) {
	u := newPlainUnpacker(s)
	list := []impl.Block{}
	shift, length, dc, ok := 0, 0, 0, false
	for range n {
		group := 0
		if shift == 0 {
			group = 1
		}
		if shift, ok = u.next(group); !ok {
			return nil, false
		}
		group = 2
		if length > 9 {
			group = 3
		}
		if length, ok = u.next(group); !ok || length < 0 || length > 63 {
			return nil, false
		}
		dc += shift
		b := blockWith(dc)
		neighbour := 0
		for k := range length {
			if b.Ac[k], ok = u.next(4 + 3*int(plainBands[k]-'0') + neighbour); !ok {
				return nil, false
			}
			neighbour = min(plainSize(b.Ac[k]), 2)
		}
		if !impl.BlockOk(b) {
			return nil, false
		}
		list = append(list, b)
	}
	again, ok := plainPack(list)
	return list, ok && again == s
}

func plainPackedPic(p impl.Pic) string {
	blocks, _ := plainPack(p.Blocks)
	return packedAhead(p) + blocks
}

// packedAhead is what stands ahead of the blocks.
func packedAhead(p impl.Pic) string {
	s := "PK" + string([]byte{byte(p.W), byte(p.H)})
	return s + plainCodes(p.Tables.Dc) + plainCodes(p.Tables.Ac) + plainNum(len(p.Note)) + p.Note
}

// plainUnpackedPic goes through a text by the words of the document.
func plainUnpackedPic(s string) (impl.Pic, bool) {
	if len(s) > 60000 || !strings.HasPrefix(s, "PK") || len(s) < 4 || s[2] < 1 || s[2] > 40 || s[3] < 1 || s[3] > 40 {
		return impl.Pic{}, false
	}
	p := impl.Pic{W: int(s[2]), H: int(s[3])}
	at := 0
	if p.Tables.Dc, at = plainCodesAt(s, 4); at < 0 {
		return impl.Pic{}, false
	}
	if p.Tables.Ac, at = plainCodesAt(s, at); at < 0 {
		return impl.Pic{}, false
	}
	if p.Note, at = plainNoteAt(s, at); at < 0 {
		return impl.Pic{}, false
	}
	ok := false
	if p.Blocks, ok = plainUnpack(s[at:], p.W*p.H); !ok {
		return impl.Pic{}, false
	}
	if digits, ok := plainScan(p.Tables, p.Blocks); !ok || len(digits) > 480000 || len(plainFile(p)) > 60000 {
		return impl.Pic{}, false
	}
	return p, true
}

// packsAs holds PackBlocks against the plain one, and the blocks against what
// comes back.
func packsAs(t *testing.T, name string, list []impl.Block) string {
	t.Helper()
	want, wantOk := plainPack(list)
	s, ok := impl.PackBlocks(list)
	if !ok || !wantOk || s != want {
		t.Errorf("%s: packed as %q, %v, not as %q, %v", name, s, ok, want, wantOk)
	}
	if back, ok := impl.UnpackBlocks(s, len(list)); !ok || !sameBlocks(back, list) {
		t.Errorf("%s: comes back as %v, %v", name, back, ok)
	}
	return s
}

func notPacked(t *testing.T, name string, list []impl.Block) {
	t.Helper()
	if s, ok := impl.PackBlocks(list); ok || s != "" {
		t.Errorf("%s: PackBlocks gives %d bytes, %v", name, len(s), ok)
	}
}

func notUnpacked(t *testing.T, name string, s string, n int) {
	t.Helper()
	if list, ok := impl.UnpackBlocks(s, n); ok || len(list) != 0 {
		t.Errorf("%s: UnpackBlocks gives %d blocks, %v", name, len(list), ok)
	}
}

// unpacksAsPlain says whether blocks come back.
func unpacksAsPlain(t *testing.T, name string, s string, n int) bool {
	t.Helper()
	want, wantOk := plainUnpack(s, n)
	list, ok := impl.UnpackBlocks(s, n)
	if ok != wantOk || ok && !sameBlocks(list, want) || !ok && len(list) != 0 {
		t.Errorf("%s: %d blocks of %q are %v, %v, not %v, %v", name, n, s, list, ok, want, wantOk)
	}
	return wantOk
}

// notPackedPic fails when a picture is packed.
func notPackedPic(t *testing.T, name string, p impl.Pic) {
	t.Helper()
	if s, ok := impl.PackPic(p); ok || s != "" {
		t.Errorf("%s: PackPic gives %d bytes, %v", name, len(s), ok)
	}
}

// notUnpackedPic fails when a text is taken for what was packed of a picture.
func notUnpackedPic(t *testing.T, name string, s string) {
	t.Helper()
	if p, ok := impl.UnpackPic(s); ok || !samePic(p, impl.Pic{}) {
		t.Errorf("%s: UnpackPic gives %d blocks, %v", name, len(p.Blocks), ok)
	}
	if file, ok := impl.Restore(s); ok || file != "" {
		t.Errorf("%s: Restore gives %d bytes, %v", name, len(file), ok)
	}
}

func notSqueezed(t *testing.T, name string, file string) {
	t.Helper()
	if s, ok := impl.Squeeze(file); ok || s != "" {
		t.Errorf("%s: Squeeze gives %d bytes, %v", name, len(s), ok)
	}
	if n := impl.Saved(file); n != 0 {
		t.Errorf("%s: Saved is %d", name, n)
	}
}

// unpacksPicAsPlain says whether a picture comes back.
func unpacksPicAsPlain(t *testing.T, name string, s string) bool {
	t.Helper()
	want, wantOk := plainUnpackedPic(s)
	if p, ok := impl.UnpackPic(s); ok != wantOk || !samePic(p, want) {
		t.Errorf("%s: %q is %v, %v, not %v, %v", name, s, p, ok, want, wantOk)
	}
	file, ok := impl.Restore(s)
	if ok != wantOk || ok && file != plainFile(want) || !ok && file != "" {
		t.Errorf("%s: %q is restored as %q, %v", name, s, file, ok)
	}
	return wantOk
}

// heavyBlocks have no 0 in their Ac, whose sizes are each half as likely as the
// next: codes write them in fewer bits than what has to learn.
func heavyBlocks(n int) []impl.Block {
	list := []impl.Block{}
	some := someNumbers(1, 63*n, 1<<20)
	for i := range n {
		b := blockWith(0)
		for k := range b.Ac {
			x := some[63*i+k]
			size := 10
			for bit := 10; size > 1 && x>>bit&1 == 1; bit++ {
				size--
			}
			b.Ac[k] = 1<<(size-1) + x%512%(1<<(size-1))
			if x>>9&1 == 1 {
				b.Ac[k] = -b.Ac[k]
			}
		}
		list = append(list, b)
	}
	return list
}

// plainlyRandom gives lists of n blocks of all kinds, the same ones often.
func plainlyRandom(seed uint64, n int) []impl.Block {
	list := []impl.Block{}
	some := someNumbers(seed, 70*n, 1<<30)
	for i := range n {
		row := some[70*i : 70*i+70]
		dc := 0
		if i > 0 && row[0]%3 > 0 {
			dc = list[i-1].Dc
		}
		if row[0]%3 == 1 {
			dc = max(-1023, min(1023, dc+row[1]%31-15))
		}
		if row[0]%13 == 0 {
			dc = row[1]%2047 - 1023
		}
		b := blockWith(dc)
		for k := range []int{0, 1, 2, 9, 10, 11, 12, 24, 25, 40, 62, 63}[row[2]%12] {
			b.Ac[k] = []int{0, 0, 1, -1, 2, -3, row[3+k]%31 - 15, row[3+k]%2047 - 1023}[row[3+k]>>12%8]
		}
		list = append(list, b)
	}
	return list
}

func TestBand(t *testing.T) {
	for _, c := range [][2]int{{-1, -1}, {0, 0}, {1, 0}, {2, 0}, {3, 1}, {9, 1}, {10, 2}, {24, 2}, {25, 3}, {62, 3}, {63, -1}, {64, -1}} {
		if got := impl.Band(c[0]); got != c[1] {
			t.Errorf("Band(%d) = %d, not %d", c[0], got, c[1])
		}
	}
	for i := range 63 {
		if got := strconv.Itoa(impl.Band(i)); got != plainBands[i:i+1] {
			t.Errorf("Band(%d) = %s", i, got)
		}
	}
	for _, i := range append(somePlaces, 100, 1<<32, 1<<32+3, -1<<32+5, -63) {
		if got := impl.Band(i); got != -1 {
			t.Errorf("Band(%d) = %d", i, got)
		}
	}
}

func TestLength(t *testing.T) {
	for _, dc := range []int{0, 1, 1023, -1023} {
		if n := impl.Length(blockWith(dc)); n != 0 {
			t.Errorf("all 0: %d", n)
		}
		for k := range 63 {
			for _, x := range []int{1, -1, 1023, -1023} {
				if n := impl.Length(blockWith(dc, k, x)); n != k+1 {
					t.Errorf("%d at %d alone: %d", x, k, n)
				}
				if n := impl.Length(blockWith(dc, 0, x, k/2, x, k, x)); n != k+1 {
					t.Errorf("%d at 0, %d and %d: %d", x, k/2, k, n)
				}
			}
		}
	}
	for i, b := range someBlocks() {
		if n := impl.Length(b); n != plainLength(b) {
			t.Errorf("block %d: %d", i, n)
		}
	}
	for _, w := range someWrongBlocks() {
		if n := impl.Length(w.block); n != -1 {
			t.Errorf("%s: %d", w.name, n)
		}
	}
}

func TestPackBlocksToTheByte(t *testing.T) {
	for _, c := range []struct {
		name string
		list []impl.Block
		want string
	}{
		{"none", nil, "\x00\x00\x00\x00"},
		{"none", []impl.Block{}, "\x00\x00\x00\x00"},
		// A difference and a length of 0 are two decisions of 1, and leave Low at 0.
		{"one of all 0", []impl.Block{blockWith(0)}, "\x00\x00\x00\x00"},
		{"two of all 0", []impl.Block{blockWith(0), blockWith(0)}, "\x00\x00\x00\x00"},
		// Three decisions of 0 take Low to 0x7ffff801, 0xbffff802 and 0xdffff803; the
		// length of 0, a decision of 1, leaves it there.
		{"a Dc of 1", []impl.Block{blockWith(1)}, "\xdf\xff\xf8\x03"},
	} {
		if s, ok := impl.PackBlocks(c.list); !ok || s != c.want {
			t.Errorf("%s: %x, %v, not %x", c.name, s, ok, c.want)
		}
	}
}

// packCase tells for blocks their numbers, each with its group, as they are to be
// told.
type packCase struct {
	name string
	list []impl.Block
	told []toldNum
}

func packCases() []packCase {
	return []packCase{
		{"a first Dc of 0", []impl.Block{blockWith(0), blockWith(0)}, []toldNum{{1, 0}, {2, 0}, {1, 0}, {2, 0}}},
		{"the greatest", []impl.Block{blockWith(1023), blockWith(1023), blockWith(1023), blockWith(0)},
			[]toldNum{{1, 1023}, {2, 0}, {0, 0}, {2, 0}, {1, 0}, {2, 0}, {1, -1023}, {2, 0}}},
		{"the least", []impl.Block{blockWith(-1023), blockWith(1023), blockWith(-1023)},
			[]toldNum{{1, -1023}, {2, 0}, {0, 2046}, {2, 0}, {0, -2046}, {2, 0}}},
		// A Dc of 0 is no difference of 0.
		{"a Dc of 0 behind another", []impl.Block{blockWith(5), blockWith(0), blockWith(0), blockWith(7), blockWith(7)},
			[]toldNum{{1, 5}, {2, 0}, {0, -5}, {2, 0}, {0, 0}, {2, 0}, {1, 7}, {2, 0}, {0, 0}, {2, 0}}},
		{"only the first", []impl.Block{blockWith(0, 0, -9), blockWith(0, 0, 4)},
			[]toldNum{{1, 0}, {2, 1}, {4, -9}, {1, 0}, {2, 1}, {4, 4}}},
		{"sizes ahead", []impl.Block{blockWith(0, 0, 1, 1, -2, 2, 3, 3, 0, 4, 4, 5, 0, 6, -1, 7, 9)},
			[]toldNum{{1, 0}, {2, 8}, {4, 1}, {5, -2}, {6, 3}, {9, 0}, {7, 4}, {9, 0}, {7, -1}, {8, 9}}},
	}
}

func TestNumbersAreToldInTheirGroups(t *testing.T) {
	cases := packCases()
	// Only the last one: zeros in all bands, with none but 0 ahead.
	last := packCase{"only the last", []impl.Block{blockWith(2, 62, 700), blockWith(2, 62, -700)}, nil}
	for _, shift := range []toldNum{{1, 2}, {0, 0}} {
		length := toldNum{2, 63}
		if shift.x == 0 {
			length.group = 3
		}
		last.told = append(last.told, shift, length)
		for k := range 62 {
			last.told = append(last.told, toldNum{4 + 3*impl.Band(k), 0})
		}
		last.told = append(last.told, toldNum{13, 700 - 700*2*bitOf(shift.x == 0)})
	}
	// No 0 among them: the sizes ahead are 1 in the first block, more in the second.
	full := packCase{"all bands", []impl.Block{onesBlock(0), blockWith(0)}, []toldNum{{1, 0}, {2, 63}}}
	for k, x := range onesBlock(0).Ac {
		full.told = append(full.told, toldNum{4 + 3*impl.Band(k) + bitOf(k > 0), x})
		full.list[1].Ac[k] = 100 + k
	}
	full.told = append(full.told, toldNum{1, 0}, toldNum{3, 63})
	for k := range 63 {
		full.told = append(full.told, toldNum{4 + 3*impl.Band(k) + 2*bitOf(k > 0), 100 + k})
	}
	cases = append(cases, last, full)
	for _, n := range []int{9, 10, 11, 63} {
		group := 2 + bitOf(n >= 10)
		c := packCase{fmt.Sprint("a length of ", n), []impl.Block{blockWith(0, n-1, 1), blockWith(0), blockWith(0), blockWith(0, n-1, 1), blockWith(0, 0, 1)}, nil}
		row := []toldNum{}
		for k := range n - 1 {
			row = append(row, toldNum{4 + 3*impl.Band(k), 0})
		}
		row = append(row, toldNum{4 + 3*impl.Band(n-1), 1})
		c.told = slices.Concat([]toldNum{{1, 0}, {2, n}}, row, []toldNum{{1, 0}, {group, 0}, {1, 0}, {2, 0}, {1, 0}, {2, n}}, row, []toldNum{{1, 0}, {group, 1}, {4, 1}})
		cases = append(cases, c)
	}
	for _, c := range cases {
		if got := plainTold(c.list); !slices.Equal(got, c.told) {
			t.Fatalf("%s: told plainly as %v", c.name, got)
		}
		coder, ok := impl.CoderStart(""), false
		m, _ := impl.ModelStart(impl.Groups * impl.Slots)
		for _, n := range c.told {
			if coder, m, ok = impl.ModelPut(coder, m, n.group*impl.Slots, n.x); !ok {
				t.Fatalf("%s: %v is not put", c.name, n)
			}
		}
		if s := packsAs(t, c.name, c.list); s != impl.CoderEnd(coder) {
			t.Errorf("%s: %x, not %x", c.name, s, impl.CoderEnd(coder))
		}
	}
}

func bitOf(so bool) int {
	if so {
		return 1
	}
	return 0
}

func TestPackedBlocksComeBack(t *testing.T) {
	for i, list := range someScans() {
		packsAs(t, fmt.Sprint("list ", i), list)
	}
	for i := range 60 {
		packsAs(t, fmt.Sprint("random list ", i), plainlyRandom(uint64(i), i))
	}
	packsAs(t, "many", plainlyRandom(99, 1600))
	packsAs(t, "heavy", heavyBlocks(100))
}

// What groups learn shows only in what is told behind: each group is used often
// enough that to take another one for it makes another text.
func TestNoGroupStandsForAnother(t *testing.T) {
	list := plainlyRandom(7, 100)
	told := plainTold(list)
	want, _ := impl.PackBlocks(list)
	for g := range impl.Groups {
		for h := range impl.Groups {
			other := slices.Clone(told)
			for i := range other {
				if other[i].group == g {
					other[i].group = h
				}
			}
			if s := toldText(other...); (s == want) != (g == h) {
				t.Errorf("group %d for group %d: %v", h, g, s == want)
			}
		}
	}
}

func TestHowManyBlocksArePacked(t *testing.T) {
	for _, list := range [][]impl.Block{slices.Repeat([]impl.Block{blockWith(0)}, 1602), slices.Repeat([]impl.Block{blockWith(-9, 3, 1)}, 1602), plainlyRandom(3, 1602)} {
		for _, n := range []int{1599, 1600} {
			s, ok := impl.PackBlocks(list[:n])
			if back, fine := impl.UnpackBlocks(s, n); !ok || !fine || !sameBlocks(back, list[:n]) {
				t.Errorf("%d blocks: %v, %d come back, %v", n, ok, len(back), fine)
			}
		}
		for _, n := range []int{1601, 1602} {
			notPacked(t, fmt.Sprint(n, " blocks"), list[:n])
			s := toldText(plainTold(list[:n])...)
			notUnpacked(t, fmt.Sprint(n, " blocks"), s, n)
		}
	}
}

func TestHowManyBlocksAreUnpacked(t *testing.T) {
	texts := []string{"\x00\x00\x00\x00", "", "abcd", someText(500)}
	for _, list := range [][]impl.Block{plainlyRandom(4, 3), plainlyRandom(5, 1600), {blockWith(1)}} {
		s, _ := impl.PackBlocks(list)
		texts = append(texts, s)
	}
	for i, s := range texts {
		for _, n := range []int{-1, -2, -1600, 1601, 1602, 3200, 1 << 32, 1<<32 + 3, math.MinInt, math.MaxInt} {
			notUnpacked(t, fmt.Sprint("text ", i, ", ", n, " blocks"), s, n)
		}
		if list, ok := impl.UnpackBlocks(s, 0); len(list) != 0 || ok != (i == 0) {
			t.Errorf("text %d, no blocks: %v, %v", i, list, ok)
		}
	}
	// As long as no byte goes, blocks like the one ahead leave the text as it is.
	for _, n := range []int{1, 2, 5, 1600} {
		unpacksAsPlain(t, fmt.Sprint(n, " of noughts"), "\x00\x00\x00\x00", n)
	}
}

// Blocks more that are told by decisions of 1 alone may leave the text as it is:
// then these are the n blocks whose text it is.
func TestOneBlockLessOrMore(t *testing.T) {
	more, fewer := 0, 0
	for i := range 60 {
		list := plainlyRandom(uint64(i), i%7+1)
		s, _ := impl.PackBlocks(list)
		for _, n := range []int{0, len(list) - 1, len(list) + 1, len(list) + 2, 100, 1600} {
			if !unpacksAsPlain(t, fmt.Sprint("list ", i), s, n) {
				fewer++
				continue
			}
			more++
			back, _ := impl.UnpackBlocks(s, n)
			if again, ok := impl.PackBlocks(back); !ok || again != s || len(back) != n {
				t.Errorf("list %d: %d blocks are packed as another text", i, n)
			}
		}
	}
	if more == 0 || fewer == 0 {
		t.Errorf("%d and %d", more, fewer)
	}
	three := []impl.Block{blockWith(3, 0, 1), blockWith(9, 4, -7), blockWith(-100, 3, 900)}
	s, _ := impl.PackBlocks(three)
	for _, n := range []int{0, 1, 2} {
		notUnpacked(t, fmt.Sprint(n, " of three"), s, n)
	}
	for n := 5; n <= 1600; n += 145 {
		unpacksAsPlain(t, fmt.Sprint(n, " of three"), s, n)
	}
}

func TestBlocksThatAreNotPacked(t *testing.T) {
	some := []impl.Block{blockWith(0), blockWith(5, 2, 3), blockWith(-9, 62, 1)}
	for _, w := range someWrongBlocks() {
		notPacked(t, w.name, []impl.Block{w.block})
		for at := range 3 {
			list := cloneBlocks(some)
			list[at] = w.block
			notPacked(t, fmt.Sprint(w.name, " at ", at), list)
		}
		many := slices.Repeat(some, 600)[:1600]
		many[1599] = w.block
		notPacked(t, w.name+" at the end", many)
	}
}

// Texts that tell numbers in the right groups, though there are no such blocks.
func TestNumbersThatAreNoBlock(t *testing.T) {
	row := func(n int, last int) []toldNum {
		list := []toldNum{}
		for k := range n - 1 {
			list = append(list, toldNum{4 + 3*impl.Band(k), 0})
		}
		return append(list, toldNum{4 + 3*impl.Band(n-1), last})
	}
	zero := []toldNum{{1, 0}, {2, 0}}
	for _, c := range []struct {
		name string
		told []toldNum
		n    int
	}{
		{"a Dc of 1024", []toldNum{{1, 1024}, {2, 0}}, 1},
		{"a Dc of -1024", []toldNum{{1, -1024}, {2, 0}}, 1},
		{"a Dc of 2047", []toldNum{{1, 2047}, {2, 0}}, 1},
		{"a second Dc of 1024", []toldNum{{1, 1023}, {2, 0}, {0, 1}, {2, 0}}, 2},
		{"a second Dc of -1024", []toldNum{{1, -1023}, {2, 0}, {0, -1}, {2, 0}}, 2},
		{"a difference of 2047", []toldNum{{1, -1023}, {2, 0}, {0, 2047}, {2, 0}}, 2},
		{"a Dc that comes back", []toldNum{{1, 1023}, {2, 0}, {0, 5}, {2, 0}, {0, -5}, {2, 0}}, 3},
		{"a length of 64", slices.Concat([]toldNum{{1, 0}, {2, 64}}, row(63, 1)), 1},
		{"a length of 65", slices.Concat([]toldNum{{1, 0}, {2, 65}}, row(63, 1)), 1},
		{"a length of 2047", slices.Concat([]toldNum{{1, 0}, {2, 2047}}, row(63, 1)), 1},
		{"a length of -1", []toldNum{{1, 0}, {2, -1}}, 1},
		{"a length of -1 and all", slices.Concat([]toldNum{{1, 0}, {2, -1}}, row(63, 1)), 1},
		{"a length of -63", slices.Concat([]toldNum{{1, 0}, {2, -63}}, row(63, 1)), 1},
		{"a length of 64, and a block", slices.Concat([]toldNum{{1, 0}, {2, 64}}, row(63, 1), []toldNum{{1, 0}, {3, 0}}), 2},
		{"a 0 at the end", slices.Concat([]toldNum{{1, 0}, {2, 1}}, row(1, 0)), 1},
		{"a 0 at the end of 63", slices.Concat([]toldNum{{1, 0}, {2, 63}}, row(63, 0)), 1},
		{"zeros alone, and a block", slices.Concat([]toldNum{{1, 0}, {2, 12}}, row(12, 0), []toldNum{{1, 3}, {3, 0}}), 2},
		{"an Ac of 1024", slices.Concat([]toldNum{{1, 0}, {2, 5}}, row(5, 1024)), 1},
		{"an Ac of -1024", slices.Concat([]toldNum{{1, 0}, {2, 63}}, row(63, -1024)), 1},
		{"an Ac of 2047", slices.Concat([]toldNum{{1, 0}, {2, 1}}, row(1, 2047)), 1},
	} {
		for _, ahead := range [][]toldNum{nil, zero, slices.Concat(zero, zero)} {
			s := toldText(slices.Concat(ahead, c.told)...)
			notUnpacked(t, c.name, s, c.n+len(ahead)/2)
			unpacksAsPlain(t, c.name, s, c.n+len(ahead)/2)
		}
	}
	// The same with numbers that are just right.
	for _, c := range [][]toldNum{
		{{1, 1023}, {2, 0}}, {{1, -1023}, {2, 0}}, slices.Concat([]toldNum{{1, 0}, {2, 63}}, row(63, -1023)), slices.Concat([]toldNum{{1, 0}, {2, 1}}, row(1, 1023)),
	} {
		if !unpacksAsPlain(t, "right", toldText(c...), 1) {
			t.Errorf("%v is refused", c)
		}
	}
}

// changesOf gives texts with a byte more, a byte less or another one.
func changesOf(s string, others []int) []string {
	list := []string{"", s + "\x00", s + "\x01", s + "\xff", "\x00" + s, "PK" + s, s + s, s + "\x00\x00\x00\x00"}
	for i := range len(s) {
		list = append(list, s[:i], s[:i]+s[i+1:], s[:i]+"\x00"+s[i:], s[:i]+s[i:i+1]+s[i:])
		for _, x := range others {
			list = append(list, s[:i]+string([]byte{s[i] ^ byte(x)})+s[i+1:])
		}
	}
	return list
}

func TestPackedBlocksChanged(t *testing.T) {
	all := upTo(256)[1:]
	right, wrong := 0, 0
	for i, list := range [][]impl.Block{
		nil, {blockWith(0)}, {blockWith(1)}, {blockWith(-1023, 0, 1)}, {blockWith(3, 0, 1, 1, -2), blockWith(3, 0, 1, 1, -2), blockWith(-100, 3, 900)},
		plainlyRandom(11, 2), plainlyRandom(12, 4),
	} {
		s, _ := impl.PackBlocks(list)
		others := all
		if len(s) > 20 {
			others = []int{1, 2, 3, 16, 128, 255}
		}
		for _, other := range changesOf(s, others) {
			if other == s {
				continue
			}
			if unpacksAsPlain(t, fmt.Sprint("list ", i), other, len(list)) {
				right++
				if back, _ := impl.UnpackBlocks(other, len(list)); sameBlocks(back, list) {
					t.Errorf("list %d comes back from another text %q", i, other)
				}
			} else {
				wrong++
			}
		}
	}
	if right == 0 || wrong == 0 {
		t.Errorf("%d changed texts are taken, %d are not", right, wrong)
	}
}

func TestUnpackBlocksOfAnyText(t *testing.T) {
	for n := range 3 {
		for _, s := range textsOf("\x00\x01\x7f\x80\xfe\xff", n+2) {
			for k := range 4 {
				unpacksAsPlain(t, "a short text", s, k)
			}
		}
	}
	for i, s := range []string{someText(50), someText(3000), strings.Repeat("\xff", 100), strings.Repeat("\x00", 100), strings.Repeat("\x80", 300), "\xff\xd8", plainFile(threePic())} {
		for _, n := range []int{0, 1, 2, 40} {
			unpacksAsPlain(t, fmt.Sprint("text ", i), s, n)
		}
	}
	for _, c := range []string{"\x00", "\xff", "\x55", "k"} {
		for _, n := range []int{59799, 60000, 60001, 200000} {
			notUnpacked(t, fmt.Sprint(n, " alike"), strings.Repeat(c, n), 1600)
			notUnpacked(t, fmt.Sprint(n, " alike"), strings.Repeat(c, n), 1)
		}
	}
	notUnpacked(t, "a long text", someText(300000), 1600)
}

// A number is told as long as Out has no more than MaxBytes - 200 bytes ahead of
// it.
func TestPackedUpToTheBrim(t *testing.T) {
	list := heavyBlocks(669)
	first := newPlainPacker().with(plainTold(list[:667]))
	if n := len(first.out); n > 59780 || n < 59600 {
		t.Fatalf("667 blocks have %d bytes", n)
	}
	// What was ahead of those is no longer of interest, and none was at the brim.
	first.ahead = nil
	yes, no := 0, 0
	for dc := -20; dc <= 20 && (yes < 3 || no < 3); dc++ {
		for n := 1; n <= 63; n++ {
			last := impl.Block{Dc: dc, Ac: slices.Concat(list[667].Ac[:n], make([]int, 63-n))}
			all := append(slices.Clone(list[:667]), last)
			near := plainTold(all[660:])
			packed := first.with(near[len(near)-n-2:])
			ahead := slices.Max(packed.ahead)
			if ahead != 59800 && ahead != 59801 || ahead == 59800 && yes >= 3 || ahead == 59801 && no >= 3 {
				continue
			}
			if ahead == 59801 {
				no++
				notPacked(t, fmt.Sprint("Dc ", dc, ", length ", n), all)
				notUnpacked(t, fmt.Sprint("Dc ", dc, ", length ", n), string(packed.out)+impl.PutWord(packed.low), 668)
				continue
			}
			yes++
			want, _ := packed.text()
			s, ok := impl.PackBlocks(all)
			if !ok || s != want {
				t.Errorf("Dc %d, length %d: %d bytes, %v", dc, n, len(s), ok)
			}
			if back, ok := impl.UnpackBlocks(s, 668); !ok || !sameBlocks(back, all) {
				t.Errorf("Dc %d, length %d: does not come back", dc, n)
			}
		}
	}
	if yes == 0 || no == 0 {
		t.Errorf("%d are told at the brim, %d are not", yes, no)
	}
	notPacked(t, "too many heavy ones", heavyBlocks(1600))
}

func TestPackedPicturesComeBack(t *testing.T) {
	for i, p := range somePics() {
		want := plainPackedPic(p)
		s, ok := impl.PackPic(p)
		if !ok || s != want {
			t.Errorf("picture %d: packed as %q, %v, not as %q", i, s, ok, want)
		}
		if back, ok := impl.UnpackPic(s); !ok || !samePic(back, p) {
			t.Errorf("picture %d comes back as %v, %v", i, back, ok)
		}
	}
}

func TestSqueezedFilesComeBackToTheByte(t *testing.T) {
	pics := somePics()
	for i := range 30 {
		pics = append(pics, bestPic(i%4+1, i%5+1, someText(i), plainlyRandom(uint64(i), (i%4+1)*(i%5+1))))
	}
	pics = append(pics, bestPic(40, 40, "whole", plainlyRandom(77, 1600)))
	for i, p := range pics {
		file, _ := impl.PicWrite(p)
		small, ok := impl.Squeeze(file)
		if !ok || small != plainPackedPic(p) {
			t.Errorf("picture %d: squeezed to %d bytes, %v", i, len(small), ok)
		}
		if back, ok := impl.Restore(small); !ok || back != file {
			t.Errorf("picture %d: %d of %d bytes come back, %v", i, len(back), len(file), ok)
		}
		if n := impl.Saved(file); n != len(file)-len(small) {
			t.Errorf("picture %d: %d saved of %d and %d", i, n, len(file), len(small))
		}
	}
}

func TestPackedPicSpeltOut(t *testing.T) {
	p := impl.Pic{W: 2, H: 1, Tables: impl.Tables{Dc: codesWith(0, 1, 2, 2), Ac: codesWith(7, 2, endSym, 3)}, Note: "hi", Blocks: []impl.Block{blockWith(0), blockWith(0)}}
	want := "PK" + "\x02\x01" +
		"\x01\x01\x00\x00\x00\x00\x00\x00\x00\x00\x00\x00\x00\x00\x00\x00" + "\x00\x02" +
		"\x00\x01\x01\x00\x00\x00\x00\x00\x00\x00\x00\x00\x00\x00\x00\x00" + "\x07\x00" +
		"\x02hi" + "\x00\x00\x00\x00"
	s, ok := impl.PackPic(p)
	if !ok || s != want {
		t.Errorf("%q, %v, not %q", s, ok, want)
	}
	if back, ok := impl.UnpackPic(want); !ok || !samePic(back, p) {
		t.Errorf("comes back as %v, %v", back, ok)
	}
	file, _ := impl.PicWrite(p)
	if back, ok := impl.Restore(want); !ok || back != file {
		t.Errorf("restored as %q, %v, not %q", back, ok, file)
	}
}

func TestSaved(t *testing.T) {
	// One block of all 0 is a byte and the two behind it in a file, four bytes packed.
	file, _ := impl.PicWrite(zeroPic(1, 1))
	if n := impl.Saved(file); n != -1 {
		t.Errorf("one block: %d", n)
	}
	// 1600 such are 3200 bits in a file, with a 0 for each of them.
	file, _ = impl.PicWrite(zeroPic(40, 40))
	if n := impl.Saved(file); n < 370 {
		t.Errorf("1600 blocks of all 0: %d", n)
	}
	file, _ = impl.PicWrite(bestPic(10, 10, "", slices.Repeat([]impl.Block{blockWith(9, 0, 4, 1, -3)}, 100)))
	if n := impl.Saved(file); n < 50 {
		t.Errorf("100 blocks alike: %d", n)
	}
}

func TestNotesOfPackedPictures(t *testing.T) {
	for _, n := range []int{0, 1, 2, 127, 128, 129, 255, 256, 499, 500, 501, 502, 1000} {
		for _, note := range []string{someText(n), strings.Repeat("\x00", n), strings.Repeat("PK", n)[:n], strings.Repeat("\xff", n)} {
			p := threePic()
			p.Note = note
			s := plainPackedPic(p)
			if n > 500 {
				notPackedPic(t, fmt.Sprint("a note of ", n), p)
				notUnpackedPic(t, fmt.Sprint("a note of ", n), s)
				continue
			}
			told, ok := impl.PackPic(p)
			if back, fine := impl.UnpackPic(told); !ok || !fine || told != s || !samePic(back, p) {
				t.Errorf("a note of %d bytes comes back as %d bytes, %v", n, len(back.Note), fine)
			}
		}
	}
}

func TestPicturesThatAreNotPacked(t *testing.T) {
	all, _ := someWrongPics()
	for _, w := range all {
		notPackedPic(t, w.name, w.pic)
	}
}

// Blocks that can be packed are no picture with tables that do not write them.
func TestPackedBlocksWithoutCodes(t *testing.T) {
	p := threePic()
	if !unpacksPicAsPlain(t, "the picture itself", plainPackedPic(p)) {
		t.Fatal("refused")
	}
	for _, sym := range p.Tables.Dc.Syms {
		q := clonePic(p)
		q.Tables.Dc = without(q.Tables.Dc, sym)
		notPackedPic(t, fmt.Sprint("Dc lacks ", sym), q)
		notUnpackedPic(t, fmt.Sprint("Dc lacks ", sym), plainPackedPic(q))
	}
	for _, sym := range p.Tables.Ac.Syms {
		q := clonePic(p)
		q.Tables.Ac = without(q.Tables.Ac, sym)
		notPackedPic(t, fmt.Sprint("Ac lacks ", sym), q)
		notUnpackedPic(t, fmt.Sprint("Ac lacks ", sym), plainPackedPic(q))
	}
}

// A file that would be too long has no packed form either, however short that is.
func TestPackedPicturesOfTooLongFiles(t *testing.T) {
	for _, n := range []int{59999, 60000, 60001, 60002} {
		p := brimPic(n)
		s := plainPackedPic(p)
		if len(s) > 30000 {
			t.Fatalf("%d bytes", len(s))
		}
		if n > 60000 {
			notPackedPic(t, fmt.Sprint(n, " bytes"), p)
			notUnpackedPic(t, fmt.Sprint(n, " bytes"), s)
			notSqueezed(t, fmt.Sprint(n, " bytes"), plainFile(p))
			continue
		}
		if got, ok := impl.PackPic(p); !ok || got != s {
			t.Errorf("%d bytes: %v", n, ok)
		}
		if file, ok := impl.Restore(s); !ok || file != plainFile(p) || impl.Saved(file) != n-len(s) {
			t.Errorf("%d bytes: restored to %d, %v", n, len(file), ok)
		}
	}
	// More bits than MaxBits, in few bytes when packed.
	p := zeroPic(40, 40)
	p.Tables = brimTables()
	p.Blocks = slices.Repeat([]impl.Block{brimBlock(true)}, 1600)
	notPackedPic(t, "too many bits", p)
	notUnpackedPic(t, "too many bits", plainPackedPic(p))
}

// Of these the packed form is longer than the file.
func TestPackedPicturesUpToMaxBytes(t *testing.T) {
	p := bestPic(35, 19, "", heavyBlocks(665))
	blocks, ok := impl.PackBlocks(p.Blocks)
	lacks := 60000 - len(packedAhead(p)) - len(blocks) - 1
	if !ok || lacks < 128 || lacks > 499 {
		t.Fatalf("%d bytes are lacking, %v", lacks, ok)
	}
	for _, more := range []int{-1, 0, 1, 2} {
		p.Note = someText(lacks + more)
		want := packedAhead(p) + blocks
		if len(want) != 60000+more {
			t.Fatalf("%d bytes", len(want))
		}
		file, ok := impl.PicWrite(p)
		if !ok || len(file) >= len(want) {
			t.Fatalf("a file of %d bytes, %v", len(file), ok)
		}
		if more > 0 {
			notPackedPic(t, fmt.Sprint(more, " over"), p)
			notUnpackedPic(t, fmt.Sprint(more, " over"), want)
			notSqueezed(t, fmt.Sprint(more, " over"), file)
			continue
		}
		if s, ok := impl.PackPic(p); !ok || s != want {
			t.Errorf("%d over: %d bytes, %v", more, len(s), ok)
		}
		if back, ok := impl.Restore(want); !ok || back != file {
			t.Errorf("%d over: restored to %d bytes, %v", more, len(back), ok)
		}
		if n := impl.Saved(file); n != len(file)-len(want) || n >= 0 {
			t.Errorf("%d over: %d saved", more, n)
		}
	}
	heavy := bestPic(40, 17, "", heavyBlocks(680))
	file, ok := impl.PicWrite(heavy)
	if !ok {
		t.Fatal("no file")
	}
	notPacked(t, "blocks that are too heavy", heavy.Blocks)
	notPackedPic(t, "a picture that is too heavy", heavy)
	notSqueezed(t, "a file that is too heavy", file)
}

func TestPartsOfPackedPictures(t *testing.T) {
	parts := fileParts()
	parts[0] = filePart{0, []string{"PK", "\xff\xd8", "KP", "P", "pk", "PL", "\x00PK", ""}}
	wrong := []string{"", "\x00\x00\x00", "\x00\x00\x00\x00\x00", "\x00\x00\x00\x01", "\x00\x00\x00\x00\xff\xd9", "\x3f\xff\xd9", "\xdf\xff\xf8\x03", toldText(toldNum{1, 0}, toldNum{2, 1}, toldNum{4, 5})}
	parts[5] = filePart{0, append([]string{"\x00\x00\x00\x00"}, wrong...)}
	taken := 0
	var fill func(i int, s string, right bool)
	fill = func(i int, s string, right bool) {
		if i == len(parts) {
			if !right {
				notUnpackedPic(t, fmt.Sprintf("%q", s), s)
			} else if p, ok := impl.UnpackPic(s); !ok || p.Note != "n" || !sameBlocks(p.Blocks, []impl.Block{blockWith(0)}) {
				t.Errorf("%q is refused", s)
			} else {
				taken++
			}
			return
		}
		for k, text := range parts[i].texts {
			fill(i+1, s+text, right && k == 0)
		}
	}
	fill(0, "", true)
	if taken != 1 {
		t.Errorf("%d are taken", taken)
	}
}

func TestPackedPicturesChanged(t *testing.T) {
	right, wrong := 0, 0
	for i, p := range []impl.Pic{
		threePic(), zeroPic(1, 1), zeroPic(3, 2), bestPic(2, 2, "", plainlyRandom(31, 4)),
		{W: 2, H: 1, Tables: wideTables(), Note: "wide", Blocks: []impl.Block{blockWith(4, 0, 3), blockWith(4, 2, -1)}},
	} {
		s, _ := impl.PackPic(p)
		for _, other := range changesOf(s, []int{1, 2, 5, 32, 128, 255}) {
			if other == s {
				continue
			}
			if unpacksPicAsPlain(t, fmt.Sprint("picture ", i), other) {
				right++
				if back, _ := impl.UnpackPic(other); samePic(back, p) {
					t.Errorf("picture %d comes back from another text %q", i, other)
				}
			} else {
				wrong++
			}
		}
		for n := range len(s) {
			notUnpackedPic(t, fmt.Sprint("picture ", i, " cut at ", n), s[:n])
			notUnpackedPic(t, fmt.Sprint("picture ", i, " from ", n+1), s[n+1:])
		}
	}
	if right == 0 || wrong == 0 {
		t.Errorf("%d changed texts are taken, %d are not", right, wrong)
	}
}

func TestSidesOfPackedPictures(t *testing.T) {
	p := bestPic(3, 2, "six", []impl.Block{blockWith(1), blockWith(5, 3, 1), blockWith(-9), blockWith(100, 20, 7), blockWith(4), blockWith(-7, 0, 2)})
	s, _ := impl.PackPic(p)
	for w := range 256 {
		for _, h := range []int{0, 1, 2, 3, 6, 7, 40, 41, 255} {
			other := "PK" + string([]byte{byte(w), byte(h)}) + s[4:]
			if w*h != 6 {
				unpacksPicAsPlain(t, fmt.Sprint(w, h), other)
				continue
			}
			if back, ok := impl.UnpackPic(other); !ok || back.W != w || back.H != h || !sameBlocks(back.Blocks, p.Blocks) {
				t.Errorf("%d times %d: %v", w, h, ok)
			}
		}
	}
	for _, sides := range []string{"\x00\x06", "\x06\x00", "\x01\x29", "\x29\x01", "\x01\x05", "\x05\x01", "\xff\xff"} {
		notUnpackedPic(t, fmt.Sprintf("sides %q", sides), "PK"+sides+s[4:])
	}
}

func TestNumbersOfAPackedNoteThatAreTooLong(t *testing.T) {
	p := threePic()
	for _, n := range []int{0, 1, 127, 128, 500} {
		p.Note = someText(n)
		s := plainPackedPic(p)
		num := plainNum(n)
		at := len(packedAhead(p)) - n - len(num)
		last := num[len(num)-1] + 128
		for noughts := range 6 {
			long := num[:len(num)-1] + string([]byte{last}) + strings.Repeat("\x80", noughts) + "\x00"
			notUnpackedPic(t, fmt.Sprintf("%d as %q", n, long), s[:at]+long+s[at+len(num):])
		}
	}
}

func TestFilesThatAreNotSqueezed(t *testing.T) {
	packed, _ := impl.PackPic(threePic())
	file, _ := impl.PicWrite(threePic())
	for i, s := range []string{"", "x", "xy", "PK", packed, "\xff\xd8", "\xff\xd8\xff\xd9", file + "\x00", file[1:], "PK" + file[2:], strings.Repeat("\x00", 60001), someText(60000)} {
		notSqueezed(t, fmt.Sprint("text ", i), s)
	}
	for n := range len(file) {
		notSqueezed(t, fmt.Sprint("cut at ", n), file[:n])
	}
	for _, s := range []string{"", "P", "PK", "PK\x01\x01", file, "\xff\xd8" + packed[2:], packed + "\x00", "\x00" + packed, strings.Repeat("P", 60000), "PK" + strings.Repeat("\x01", 59998), packed + strings.Repeat("\x00", 60001)} {
		notUnpackedPic(t, fmt.Sprintf("%.10q", s), s)
	}
	for _, other := range changesOf(file, []int{1, 16, 255}) {
		p, said := impl.PicRead(other)
		small, ok := impl.Squeeze(other)
		if ok != (said == impl.FileOk) {
			t.Errorf("%q: %d, and %v", other, said, ok)
		}
		if !ok {
			notSqueezed(t, "changed", other)
			continue
		}
		if back, ok := impl.Restore(small); !ok || back != other || small != plainPackedPic(p) {
			t.Errorf("%q is restored as %q, %v", other, back, ok)
		}
	}
}

func TestBlocksAndPicturesAreLeftAloneByPacking(t *testing.T) {
	acRoom := append(blockWith(4, 0, 3, 1, -2, 40, 9).Ac, 75, 76)
	blockRoom := []impl.Block{{Dc: 1, Ac: acRoom[:63]}, {Dc: 2, Ac: acRoom[:63]}, {Dc: 77}, {Dc: 78}}
	wide := wideTables()
	p := impl.Pic{W: 2, H: 1, Tables: wide, Note: "kept", Blocks: blockRoom[:2]}
	wrong := clonePic(p)
	wrong.W = 3
	bad := clonePic(p)
	bad.Blocks[1].Ac[62] = 5000
	pics := []impl.Pic{p, wrong, bad}
	kept := []impl.Pic{}
	for _, x := range pics {
		kept = append(kept, clonePic(x))
	}
	keptRoom := slices.Clone(acRoom)
	if _, ok := impl.PackPic(p); !ok {
		t.Fatal("the picture is refused")
	}
	for _, x := range pics {
		impl.PackPic(x)
		impl.PackBlocks(x.Blocks)
		for _, b := range x.Blocks {
			impl.Length(b)
		}
	}
	impl.PackBlocks(blockRoom)
	for i, x := range pics {
		if !samePic(x, kept[i]) {
			t.Errorf("picture %d was written into", i)
		}
	}
	if !slices.Equal(acRoom, keptRoom) {
		t.Error("the numbers, or the room behind them, were written into")
	}
	for i, dc := range []int{1, 2, 77, 78} {
		if blockRoom[i].Dc != dc || i < 2 && &blockRoom[i].Ac[0] != &acRoom[0] || i > 1 && blockRoom[i].Ac != nil {
			t.Errorf("block %d was written into", i)
		}
	}
}

func TestAnswersOfPackingAreNewMemory(t *testing.T) {
	p := bestPic(3, 2, "six", plainlyRandom(41, 6))
	s, _ := impl.PackPic(p)
	blocks, _ := impl.PackBlocks(p.Blocks)
	for i, ask := range []func() impl.Pic{
		func() impl.Pic { back, _ := impl.UnpackPic(s); return back },
		func() impl.Pic { list, _ := impl.UnpackBlocks(blocks, 6); return impl.Pic{Blocks: list} },
	} {
		a, other, want := ask(), ask(), clonePic(ask())
		if len(a.Blocks) != 6 {
			t.Fatal("nothing comes back")
		}
		lists := listsOfPic(a)
		for k := range lists {
			spoil(lists[k])
			for m := k + 1; m < len(lists); m++ {
				if !slices.Equal(lists[m], listsOfPic(want)[m]) {
					t.Errorf("lists %d and %d of answer %d share memory", k, m, i)
				}
			}
		}
		for k := range a.Blocks {
			a.Blocks[k] = impl.Block{}
		}
		if !samePic(other, want) || !samePic(ask(), want) {
			t.Errorf("answer %d shares memory", i)
		}
	}
}
