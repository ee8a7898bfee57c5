package tests

import (
	"fmt"
	"math"
	"slices"
	"sort"
	"strconv"
	"strings"
	"testing"

	"loop.example/g00120/impl"
)

// manyBlocks gives n right blocks that wideTables can write.
func manyBlocks(n int) []impl.Block {
	some := someBlocks()
	list := []impl.Block{}
	for i := range n {
		list = append(list, some[(i*i+3*i)%len(some)])
	}
	return cloneBlocks(list)
}

// zeroPic has blocks that are all 0, as many as w times h tells.
func zeroPic(w int, h int) impl.Pic {
	list := []impl.Block{}
	for range w * h {
		list = append(list, blockWith(0))
	}
	return impl.Pic{W: w, H: h, Tables: loneTables(0, endSym), Note: "zero", Blocks: list}
}

// bestPic has the best tables for its blocks.
func bestPic(w int, h int, note string, list []impl.Block) impl.Pic {
	tables, _ := impl.ScanBest(list)
	return impl.Pic{W: w, H: h, Tables: tables, Note: note, Blocks: list}
}

// threePic is small, and has a byte 255 in what is written of its blocks.
func threePic() impl.Pic {
	return impl.Pic{
		W:      3,
		H:      1,
		Tables: impl.Tables{Dc: codesWith(0, 1, 3, 2, 10, 3), Ac: codesWith(endSym, 1, 10, 2, 1, 3, 2, 4)},
		Note:   "three",
		Blocks: []impl.Block{blockWith(1023, 0, 1023), blockWith(1016, 0, 1, 1, -3), blockWith(1016)},
	}
}

// somePics has right pictures of many shapes.
func somePics() []impl.Pic {
	full := impl.Codes{Counts: counts(0, 0, 0, 0, 0, 0, 0, 255), Syms: upTo(255)}
	all := []impl.Pic{
		zeroPic(1, 1), zeroPic(40, 40), zeroPic(1, 40), zeroPic(40, 1), zeroPic(7, 3),
		threePic(),
		{W: 1, H: 1, Tables: loneTables(0, 1), Blocks: []impl.Block{onesBlock(0)}},
		{W: 2, H: 2, Tables: impl.Tables{Dc: full, Ac: full}, Note: "all symbols", Blocks: manyBlocks(4)},
		{W: 5, H: 4, Tables: wideTables(), Note: "\xff\xd9\xff\xd8\x00", Blocks: manyBlocks(20)},
		bestPic(4, 5, "the best", manyBlocks(20)),
		bestPic(1, 1, "", []impl.Block{fullBlock()}),
	}
	for _, n := range []int{0, 1, 2, 127, 128, 129, 255, 256, 499, 500} {
		p := threePic()
		p.Note = someText(n)
		all = append(all, p)
	}
	for i, b := range someBlocks() {
		all = append(all, bestPic(1, 1, fmt.Sprint("block ", i), []impl.Block{b}))
	}
	return all
}

// plainNum spells a number out that is less than 128 times 128.
func plainNum(n int) string {
	if n < 128 {
		return string([]byte{byte(n)})
	}
	return string([]byte{byte(n%128 + 128), byte(n / 128)})
}

func plainCodes(c impl.Codes) string {
	s := []byte{}
	for _, x := range slices.Concat(c.Counts, c.Syms) {
		s = append(s, byte(x))
	}
	return string(s)
}

// plainText gives bytes for digits by filling up with ones, and a nought
// behind each byte 255.
func plainText(digits string) string {
	for len(digits)%8 != 0 {
		digits += "1"
	}
	s := []byte{}
	for i := 0; i < len(digits); i += 8 {
		x, _ := strconv.ParseUint(digits[i:i+8], 2, 8)
		s = append(s, byte(x))
		if x == 255 {
			s = append(s, 0)
		}
	}
	return string(s)
}

// plainFile writes a picture by the words of the document, however long.
func plainFile(p impl.Pic) string {
	digits, _ := plainScan(p.Tables, p.Blocks)
	s := "\xff\xd8" + string([]byte{byte(p.W), byte(p.H)})
	s += plainCodes(p.Tables.Dc) + plainCodes(p.Tables.Ac)
	return s + plainNum(len(p.Note)) + p.Note + plainText(digits) + "\xff\xd9"
}

// plainCodesAt reads by the words of the document what is right.
func plainCodesAt(s string, i int) (impl.Codes, int) {
	if i < 0 || i > len(s) || len(s)-i < 16 {
		return impl.Codes{}, -1
	}
	c := impl.Codes{}
	told, room := 0, 0
	for k := range 16 {
		n := int(s[i+k])
		c.Counts = append(c.Counts, n)
		told += n
		room += n << (15 - k)
	}
	i += 16
	if told < 1 || told > 255 || room > 65535 || len(s)-i < told {
		return impl.Codes{}, -1
	}
	for range told {
		if slices.Contains(c.Syms, int(s[i])) {
			return impl.Codes{}, -1
		}
		c.Syms = append(c.Syms, int(s[i]))
		i++
	}
	return c, i
}

// plainNoteAt gives the note, and the place behind it.
func plainNoteAt(s string, i int) (string, int) {
	for n := range 501 {
		if num := plainNum(n); strings.HasPrefix(s[i:], num) {
			i += len(num)
			if n > len(s)-i {
				return "", -1
			}
			return s[i : i+n], i + n
		}
	}
	return "", -1
}

// plainReason goes through the reasons in their order.
func plainReason(s string) int {
	if len(s) > 60000 {
		return impl.FileLong
	}
	if !strings.HasPrefix(s, "\xff\xd8") {
		return impl.FileHead
	}
	if len(s) < 4 || s[2] < 1 || s[2] > 40 || s[3] < 1 || s[3] > 40 {
		return impl.FileSide
	}
	p := impl.Pic{W: int(s[2]), H: int(s[3])}
	at := 0
	p.Tables.Dc, at = plainCodesAt(s, 4)
	if at < 0 {
		return impl.FileCodes
	}
	p.Tables.Ac, at = plainCodesAt(s, at)
	if at < 0 {
		return impl.FileCodes
	}
	p.Note, at = plainNoteAt(s, at)
	if at < 0 {
		return impl.FileNote
	}
	digits := strings.Builder{}
	for _, c := range []byte(strings.ReplaceAll(s[at:], "\xff\x00", "\xff")) {
		fmt.Fprintf(&digits, "%08b", c)
	}
	list, _, ok := plainRead(p.Tables, digits.String(), p.W*p.H)
	p.Blocks = list
	if !ok || plainFile(p) != s {
		return impl.FileData
	}
	return impl.FileOk
}

func samePic(a impl.Pic, b impl.Pic) bool {
	return a.W == b.W && a.H == b.H && a.Note == b.Note && sameTables(a.Tables, b.Tables) && sameBlocks(a.Blocks, b.Blocks)
}

func clonePic(p impl.Pic) impl.Pic {
	for _, c := range []*impl.Codes{&p.Tables.Dc, &p.Tables.Ac} {
		c.Counts, c.Syms = slices.Clone(c.Counts), slices.Clone(c.Syms)
	}
	p.Blocks = cloneBlocks(p.Blocks)
	return p
}

// noPic fails when s is not refused for this reason.
func noPic(t *testing.T, name string, s string, reason int) {
	t.Helper()
	p, said := impl.PicRead(s)
	if said != reason || !samePic(p, impl.Pic{}) {
		t.Errorf("%s: %d and %d blocks, not %d", name, said, len(p.Blocks), reason)
	}
}

// notWritten fails when one of the functions that write takes the picture.
func notWritten(t *testing.T, name string, p impl.Pic) {
	t.Helper()
	if s, ok := impl.PicWrite(p); ok || s != "" {
		t.Errorf("%s: PicWrite gives %d bytes, %v", name, len(s), ok)
	}
	if n := impl.PicCost(p); n != -1 {
		t.Errorf("%s: PicCost gives %d", name, n)
	}
}

func TestPicFileSpeltOut(t *testing.T) {
	p := impl.Pic{
		W:      2,
		H:      1,
		Tables: impl.Tables{Dc: codesWith(0, 1, 2, 2), Ac: codesWith(7, 2, endSym, 3, 0xf3, 16)},
		Note:   "hi",
		Blocks: []impl.Block{blockWith(3, 0, 127), blockWith(3)},
	}
	want := "\xff\xd8" + "\x02\x01" +
		"\x01\x01\x00\x00\x00\x00\x00\x00\x00\x00\x00\x00\x00\x00\x00\x00" + "\x00\x02" +
		"\x00\x01\x01\x00\x00\x00\x00\x00\x00\x00\x00\x00\x00\x00\x00\x01" + "\x07\x00\xf3" +
		"\x02hi" + string([]byte{0b10_11_00_11, 0b11111_010, 0b0_010_1111}) + "\xff\xd9"
	s, ok := impl.PicWrite(p)
	if !ok || s != want || impl.PicCost(p) != len(want) || !impl.PicOk(p) {
		t.Errorf("%q, %v, not %q", s, ok, want)
	}
	if back, said := impl.PicRead(want); said != impl.FileOk || !samePic(back, p) {
		t.Errorf("comes back as %v, %d", back, said)
	}
}

func TestPicturesComeBackFromTheirFiles(t *testing.T) {
	for i, p := range somePics() {
		want := plainFile(p)
		s, ok := impl.PicWrite(p)
		if !ok || s != want || !impl.PicOk(p) || impl.PicCost(p) != len(want) {
			t.Fatalf("picture %d is written as %q, %v, not as %q", i, s, ok, want)
		}
		back, said := impl.PicRead(s)
		if said != impl.FileOk || !samePic(back, p) {
			t.Errorf("picture %d comes back as %v, %d", i, back, said)
		}
		if again, ok := impl.PicWrite(back); !ok || again != s {
			t.Errorf("picture %d is written again as %q, %v", i, again, ok)
		}
	}
}

func TestFileReasonsAreTheirNumbers(t *testing.T) {
	list := []int{impl.FileOk, impl.FileHead, impl.FileSide, impl.FileCodes, impl.FileNote, impl.FileData, impl.FileLong}
	if !slices.Equal(list, upTo(7)) || impl.MaxSide != 40 || impl.MaxNote != 500 {
		t.Errorf("%v", list)
	}
}

func TestSidesOfAPicture(t *testing.T) {
	for _, k := range [][2]int{{1, 1}, {1, 40}, {40, 1}, {40, 40}, {2, 39}, {39, 2}} {
		p := zeroPic(k[0], k[1])
		if !impl.PicOk(p) {
			t.Errorf("%v is refused", k)
		}
		s, _ := impl.PicWrite(p)
		if back, said := impl.PicRead(s); said != impl.FileOk || back.W != k[0] || back.H != k[1] {
			t.Errorf("%v comes back as %d, %d, %d", k, back.W, back.H, said)
		}
	}
	// Whole files but for a side, with as many blocks as the sides tell.
	for _, k := range [][2]int{{0, 1}, {1, 0}, {0, 0}, {41, 1}, {1, 41}, {41, 41}, {80, 20}, {20, 80}, {255, 1}, {1, 255}, {0, 41}, {41, 0}} {
		p := zeroPic(k[0], k[1])
		if impl.PicOk(p) {
			t.Errorf("%v is taken", k)
		}
		notWritten(t, fmt.Sprint(k), p)
		noPic(t, fmt.Sprint(k), plainFile(p), impl.FileSide)
	}
	// The product of these tells as many blocks as there are.
	for _, k := range [][3]int{
		{-1, -1, 1}, {-2, -3, 6}, {-40, -40, 1600}, {0, -1, 0}, {0, math.MaxInt, 0}, {1 << 32, 1 << 32, 0}, {math.MinInt, 2, 0},
		{math.MaxInt, math.MaxInt, 1}, {math.MinInt, math.MinInt, 0}, {math.MinInt, 1, 0}, {1<<62 + 1, 4, 4}, {4, 1<<62 + 1, 4}, {257, 1, 257},
	} {
		p := zeroPic(1, k[2])
		p.W, p.H = k[0], k[1]
		if impl.PicOk(p) {
			t.Errorf("%v is taken", k)
		}
		notWritten(t, fmt.Sprint(k), p)
	}
}

func TestHowManyBlocksAPictureHas(t *testing.T) {
	for _, k := range [][2]int{{1, 1}, {1, 2}, {3, 4}, {40, 39}, {40, 40}} {
		p := zeroPic(k[0], k[1])
		n := len(p.Blocks)
		list := append(p.Blocks, blockWith(0))
		for _, have := range []int{0, n - 1, n + 1} {
			p.Blocks = list[:have]
			if impl.PicOk(p) {
				t.Errorf("%v has %d blocks", k, have)
			}
			notWritten(t, fmt.Sprint(k, have), p)
			noPic(t, fmt.Sprint(k, have), plainFile(p), impl.FileData)
		}
		p.Blocks = list[:n]
		if !impl.PicOk(p) {
			t.Errorf("%v is refused", k)
		}
	}
}

func TestHowLongANoteIs(t *testing.T) {
	for _, n := range []int{0, 1, 127, 128, 255, 256, 257, 499, 500, 501, 502, 1000, 16383} {
		p := threePic()
		p.Note = someText(n)
		s := plainFile(p)
		if impl.PicOk(p) != (n <= 500) {
			t.Errorf("a note of %d bytes: %v", n, impl.PicOk(p))
		}
		if n > 500 {
			notWritten(t, fmt.Sprint("a note of ", n), p)
			noPic(t, fmt.Sprint("a note of ", n), s, impl.FileNote)
			continue
		}
		told, ok := impl.PicWrite(p)
		if back, said := impl.PicRead(told); !ok || told != s || said != impl.FileOk || back.Note != p.Note {
			t.Errorf("a note of %d bytes comes back as %d bytes, %d", n, len(back.Note), said)
		}
	}
	p := threePic()
	p.Note = strings.Repeat("x", 200000)
	notWritten(t, "a huge note", p)
}

// brimPic has a file of so many bytes, near to MaxBytes.
func brimPic(total int) impl.Pic {
	p := zeroPic(40, 40)
	p.Tables = brimTables()
	p.Note = ""
	zeros := p.Blocks
	brim := slices.Repeat([]impl.Block{brimBlock(false)}, 1600)
	n := sort.Search(1600, func(n int) bool {
		p.Blocks = slices.Concat(brim[:n], zeros[n:])
		return len(plainFile(p)) > total-400
	})
	p.Blocks = slices.Concat(brim[:n], zeros[n:])
	lacks := total - len(plainFile(p))
	if lacks > 127 {
		lacks--
	}
	p.Note = someText(lacks)
	return p
}

func TestFilesUpToMaxBytes(t *testing.T) {
	for _, n := range []int{59999, 60000} {
		p := brimPic(n)
		s, ok := impl.PicWrite(p)
		if !ok || len(s) != n || s != plainFile(p) || impl.PicCost(p) != n {
			t.Fatalf("a file of %d bytes: %d, %v", n, len(s), ok)
		}
		if back, said := impl.PicRead(s); said != impl.FileOk || !samePic(back, p) {
			t.Errorf("a file of %d bytes comes back with %d blocks, %d", n, len(back.Blocks), said)
		}
		more := impl.FileData
		if n == 60000 {
			more = impl.FileLong
		}
		noPic(t, "a byte more", s+"\x00", more)
		noPic(t, "a byte more", s+"\xd9", more)
	}
	for _, n := range []int{60001, 60002} {
		p := brimPic(n)
		s := plainFile(p)
		if len(s) != n || !impl.PicOk(p) {
			t.Fatalf("a file of %d bytes, not %d: %v", len(s), n, impl.PicOk(p))
		}
		notWritten(t, fmt.Sprint(n, " bytes"), p)
		noPic(t, fmt.Sprint(n, " bytes"), s, impl.FileLong)
		noPic(t, fmt.Sprint(n, " bytes, cut"), s[:60000], impl.FileData)
	}
}

func TestTextsBeyondMaxBytes(t *testing.T) {
	for _, c := range []string{"\x00", "\x01", "\xff", "\xd8", "x"} {
		noPic(t, "60001 alike", strings.Repeat(c, 60001), impl.FileLong)
		noPic(t, "60000 alike", strings.Repeat(c, 60000), impl.FileHead)
		noPic(t, "many alike", strings.Repeat(c, 1000000), impl.FileLong)
		noPic(t, "60000 and the head", "\xff\xd8"+strings.Repeat(c, 59999), impl.FileLong)
	}
	s := plainFile(threePic())
	noPic(t, "60001 bytes", s+strings.Repeat("\x00", 60001-len(s)), impl.FileLong)
	noPic(t, "60000 bytes", s+strings.Repeat("\x00", 60000-len(s)), impl.FileData)
}

// A picture whose blocks are more bits than MaxBits has no ScanText.
func TestPictureOfTooManyBits(t *testing.T) {
	p := zeroPic(40, 40)
	p.Tables = brimTables()
	for i := range p.Blocks {
		p.Blocks[i] = brimBlock(false)
	}
	if !impl.PicOk(p) {
		t.Error("480000 bits are refused")
	}
	notWritten(t, "480000 bits", p)
	p.Blocks[1599] = brimBlock(true)
	if impl.PicOk(p) {
		t.Error("480001 bits are taken")
	}
	notWritten(t, "480001 bits", p)
}

func TestFilesCutOffAtEveryPlace(t *testing.T) {
	for i, p := range somePics() {
		s := plainFile(p)
		codes := 4 + len(plainCodes(p.Tables.Dc)) + len(plainCodes(p.Tables.Ac))
		note := codes + len(plainNum(len(p.Note))) + len(p.Note)
		for n := range len(s) {
			reason := impl.FileData
			switch {
			case n < 2:
				reason = impl.FileHead
			case n < 4:
				reason = impl.FileSide
			case n < codes:
				reason = impl.FileCodes
			case n < note:
				reason = impl.FileNote
			}
			noPic(t, fmt.Sprint("picture ", i, " cut at ", n), s[:n], reason)
		}
		for _, more := range []string{"\x00", "\xff", "\xd9", "x", "\xff\xd9", "\xff\xd8", "\xff\x00", s} {
			noPic(t, fmt.Sprintf("picture %d and %q", i, more), s+more, impl.FileData)
		}
	}
}

func TestFilesWithOneByteChanged(t *testing.T) {
	said := make([]int, 7)
	for _, p := range []impl.Pic{threePic(), zeroPic(1, 1), zeroPic(3, 2), bestPic(2, 1, "", []impl.Block{blockWith(5, 3, -9), blockWith(-4, 62, 2)})} {
		s := plainFile(p)
		for at := range len(s) {
			for c := range 256 {
				other := s[:at] + string([]byte{byte(c)}) + s[at+1:]
				said[sameAsPlainFile(t, other)]++
			}
			for _, more := range []string{"\x00", "\x01", "\x28", "\xff", s[at : at+1]} {
				said[sameAsPlainFile(t, s[:at]+more+s[at:])]++
			}
			said[sameAsPlainFile(t, s[:at]+s[at+1:])]++
			for k := at + 1; k < len(s); k++ {
				said[sameAsPlainFile(t, s[:at]+s[k:])]++
			}
		}
	}
	if slices.Min(said[:6]) < 100 || said[impl.FileLong] != 0 {
		t.Errorf("the reasons stand %v times", said)
	}
}

// sameAsPlainFile fails when PicRead says another reason than the words of the
// document, or takes what PicWrite does not write.
func sameAsPlainFile(t *testing.T, s string) int {
	t.Helper()
	want := plainReason(s)
	p, said := impl.PicRead(s)
	if said != want {
		t.Errorf("%q: %d, not %d", s, said, want)
	}
	again, ok := impl.PicWrite(p)
	if said == impl.FileOk && (!ok || again != s) {
		t.Errorf("%q is written again as %q, %v", s, again, ok)
	}
	if said != impl.FileOk && !samePic(p, impl.Pic{}) {
		t.Errorf("%q: %v beside %d", s, p, said)
	}
	return want
}

// filePart is one part of a file; the first of its texts is right, and any of
// the others a reason to refuse whatever stands behind it.
type filePart struct {
	reason int
	texts  []string
}

func fileParts() []filePart {
	one := plainCodes(codesWith(0, 1))
	two := plainCodes(impl.Codes{Counts: counts(2), Syms: []int{0, 1}})
	alike := plainCodes(impl.Codes{Counts: counts(0, 2), Syms: []int{7, 7}})
	none := plainCodes(impl.Codes{Counts: counts()})
	many := plainCodes(impl.Codes{Counts: counts(0, 0, 0, 0, 0, 0, 0, 200, 56), Syms: upTo(256)})
	end := "\xff\xd9"
	return []filePart{
		{impl.FileHead, []string{"\xff\xd8", "\xff\xd9", "\xd8\xff", "\x00\xd8", "\xff\x00"}},
		{impl.FileSide, []string{"\x01\x01", "\x00\x01", "\x01\x00", "\x29\x01", "\x01\x29", "\xff\xff"}},
		{impl.FileCodes, []string{one, two, alike, none, many}},
		{impl.FileCodes, []string{one, two, alike, none, many}},
		{impl.FileNote, []string{"\x01n", "\x81\x00n", "\x80\x00", "\xf5\x03", "\xf5\x03" + strings.Repeat("n", 501), "\x80\x80\x80\x80\x80\x80", "\x50n", "\xff\xff\xff\xff\x7f"}},
		{impl.FileData, []string{"\x3f" + end, "\x3e" + end, "\x00" + end, "\x3f\xff\x00" + end, "\x3f", "\x3f\xff\xd8", "\x3f\xff", "", end, "\x3f" + end + "\x00", "\x3f" + end + end, "\xff\xd9\x3f", "\xff" + end, "\xff\x00" + end}},
	}
}

func TestTheFirstReasonIsTold(t *testing.T) {
	parts := fileParts()
	var fill func(i int, s string, reason int)
	fill = func(i int, s string, reason int) {
		if i == len(parts) {
			p, said := impl.PicRead(s)
			if said != reason || said != impl.FileOk && !samePic(p, impl.Pic{}) {
				t.Errorf("%q: %d, not %d", s, said, reason)
			}
			return
		}
		for k, text := range parts[i].texts {
			told := reason
			if told == impl.FileOk && k > 0 {
				told = parts[i].reason
			}
			fill(i+1, s+text, told)
		}
	}
	fill(0, "", impl.FileOk)
	// Too long is told ahead of all the others.
	for i, part := range parts {
		for _, text := range part.texts {
			s := ""
			for k, other := range parts {
				if k == i {
					s += text
				} else {
					s += other.texts[0]
				}
			}
			noPic(t, "too long", s+strings.Repeat("\x00", 60001-len(s)), impl.FileLong)
			if want := plainReason(s); want != impl.FileOk {
				noPic(t, "alone", s, want)
			}
		}
	}
}

// The bytes behind the number are all that follow, not those alone that are no
// blocks.
func TestNotesAsLongAsWhatFollows(t *testing.T) {
	s := "\xff\xd8\x01\x01" + plainCodes(codesWith(0, 1)) + plainCodes(codesWith(0, 1))
	for _, behind := range []string{"", "x", "\x3f\xff\xd9", "n\x3f\xff\xd9", strings.Repeat("n", 200), strings.Repeat("n", 500), strings.Repeat("n", 501)} {
		for n := range 510 {
			reason := impl.FileData
			switch {
			case n > 500 || n > len(behind):
				reason = impl.FileNote
			case behind[n:] == "\x3f\xff\xd9":
				reason = impl.FileOk
			}
			p, said := impl.PicRead(s + plainNum(n) + behind)
			if said != reason || said == impl.FileOk && p.Note != behind[:n] {
				t.Errorf("a note of %d in %d bytes: %d, not %d", n, len(behind), said, reason)
			}
		}
	}
}

func TestNumbersOfANoteThatAreTooLong(t *testing.T) {
	p := threePic()
	ahead := plainFile(p)[:4] + plainCodes(p.Tables.Dc) + plainCodes(p.Tables.Ac)
	for _, n := range []int{0, 1, 5, 127, 128, 300, 500} {
		p.Note = someText(n)
		num := plainNum(n)
		behind := plainFile(p)[len(ahead)+len(num):]
		if _, said := impl.PicRead(ahead + num + behind); said != impl.FileOk {
			t.Errorf("a note of %d: %d", n, said)
		}
		last := num[len(num)-1] + 128
		for noughts := range 6 {
			long := num[:len(num)-1] + string([]byte{last}) + strings.Repeat("\x80", noughts) + "\x00"
			noPic(t, fmt.Sprintf("%d as %q", n, long), ahead+long+behind, impl.FileNote)
		}
	}
}

func TestFilesOfOtherBlocks(t *testing.T) {
	p := threePic()
	s := plainFile(p)
	digits, _ := plainScan(p.Tables, p.Blocks)
	scan := plainText(digits)
	ahead := strings.TrimSuffix(s, scan+"\xff\xd9")
	if !strings.Contains(scan, "\xff\x00") || len(digits)%8 == 0 {
		t.Fatalf("%q", scan)
	}
	last := len(scan) - 1
	for _, w := range []struct {
		name string
		scan string
	}{
		{"not stuffed", strings.ReplaceAll(scan, "\xff\x00", "\xff")},
		{"stuffed twice", strings.ReplaceAll(scan, "\xff\x00", "\xff\x00\x00")},
		{"a mark", strings.Replace(scan, "\xff\x00", "\xff\xd9", 1)},
		{"filled with a nought", scan[:last] + string([]byte{scan[last] &^ 1})},
		{"nothing", ""},
		{"a byte less", scan[:last]},
		{"a byte of ones", scan + "\xff\x00"},
		{"a byte of noughts", scan + "\x00"},
		{"a byte 255 alone", scan + "\xff"},
		{"a mark behind", scan + "\xff\xd9"},
		{"a mark ahead", "\xff\xd9" + scan},
		{"a block more", plainText(digits + "00")},
		{"a block less", plainText(digits[:len(digits)-2])},
		{"a code that none is", plainText("1" + digits)},
	} {
		if w.scan == scan {
			t.Fatalf("%s: the blocks are as they were", w.name)
		}
		noPic(t, w.name, ahead+w.scan+"\xff\xd9", impl.FileData)
		if want := plainReason(ahead + w.scan + "\xff\xd9"); want != impl.FileData {
			t.Errorf("%s: by the words it is %d", w.name, want)
		}
	}
	if _, said := impl.PicRead(ahead + scan + "\xff\xd9"); said != impl.FileOk {
		t.Errorf("the file itself: %d", said)
	}
	// Sides that tell other numbers of blocks, and such as tell the same.
	for w := 1; w <= 40; w++ {
		for h := 1; h <= 40; h++ {
			other := "\xff\xd8" + string([]byte{byte(w), byte(h)}) + s[4:]
			if w*h != 3 {
				noPic(t, fmt.Sprint(w, h), other, impl.FileData)
				continue
			}
			if back, said := impl.PicRead(other); said != impl.FileOk || back.W != w || back.H != h || !sameBlocks(back.Blocks, p.Blocks) {
				t.Errorf("%d times %d: %d", w, h, said)
			}
		}
	}
}

type wrongPic struct {
	name string
	pic  impl.Pic
}

// someWrongPics has pictures that are threePic but for one thing; best says of
// which there are best tables all the same.
func someWrongPics() (all []wrongPic, best []wrongPic) {
	change := func(name string, hasBest bool, apply func(p *impl.Pic)) {
		p := threePic()
		apply(&p)
		all = append(all, wrongPic{name, p})
		if hasBest {
			best = append(best, wrongPic{name, p})
		}
	}
	for _, w := range someWrongCodes() {
		change("Dc: "+w.name, true, func(p *impl.Pic) { p.Tables.Dc = w.codes })
		change("Ac: "+w.name, true, func(p *impl.Pic) { p.Tables.Ac = w.codes })
	}
	for _, w := range someWrongBlocks() {
		for at := range 3 {
			change(fmt.Sprint("block ", at, ": ", w.name), false, func(p *impl.Pic) { p.Blocks[at] = w.block })
		}
	}
	for _, sym := range threePic().Tables.Dc.Syms {
		change(fmt.Sprint("Dc lacks ", sym), true, func(p *impl.Pic) { p.Tables.Dc = without(p.Tables.Dc, sym) })
	}
	for _, sym := range threePic().Tables.Ac.Syms {
		change(fmt.Sprint("Ac lacks ", sym), true, func(p *impl.Pic) { p.Tables.Ac = without(p.Tables.Ac, sym) })
	}
	for _, x := range []int{0, -1, -3, 2, 4, 41, math.MinInt, math.MaxInt} {
		change(fmt.Sprint("W ", x), true, func(p *impl.Pic) { p.W = x })
		change(fmt.Sprint("H ", x), true, func(p *impl.Pic) { p.H = x })
	}
	change("a note of 501", true, func(p *impl.Pic) { p.Note = someText(501) })
	change("a huge note", true, func(p *impl.Pic) { p.Note = someText(100000) })
	change("a block more", true, func(p *impl.Pic) { p.Blocks = append(p.Blocks, blockWith(0)) })
	change("a block less", true, func(p *impl.Pic) { p.Blocks = p.Blocks[:2] })
	change("no blocks", true, func(p *impl.Pic) { p.Blocks = nil })
	change("nothing", true, func(p *impl.Pic) { *p = impl.Pic{} })
	change("1600 blocks", true, func(p *impl.Pic) { p.Blocks = manyBlocks(1600) })
	change("1601 blocks", false, func(p *impl.Pic) { p.Blocks = manyBlocks(1601) })
	change("5000 blocks", false, func(p *impl.Pic) { p.Blocks = manyBlocks(5000) })
	return all, best
}

func TestPicturesThatAreNotRight(t *testing.T) {
	if p := threePic(); !impl.PicOk(p) {
		t.Fatal("what is changed is itself refused")
	}
	all, _ := someWrongPics()
	for _, w := range all {
		if impl.PicOk(w.pic) {
			t.Errorf("%s: taken", w.name)
		}
		notWritten(t, w.name, w.pic)
	}
}

func TestPutCodes(t *testing.T) {
	for i, c := range someRightCodes() {
		if s := impl.PutCodes(c); s != plainCodes(c) || len(s) != 16+len(c.Syms) {
			t.Errorf("codes %d are %q", i, s)
		}
	}
	nine := "\x01" + strings.Repeat("\x00", 15) + "\x09"
	if s := impl.PutCodes(codesWith(9, 1)); s != nine {
		t.Errorf("one symbol alone is %q", s)
	}
	most := impl.Codes{Counts: counts(0, 0, 0, 0, 0, 0, 0, 255), Syms: upTo(256)[1:]}
	if s := impl.PutCodes(most); len(s) != 271 || s[7] != 255 || s[16] != 1 || s[270] != 255 {
		t.Errorf("255 symbols are %q", s)
	}
	for _, w := range someWrongCodes() {
		if s := impl.PutCodes(w.codes); s != "" {
			t.Errorf("%s: %q", w.name, s)
		}
	}
}

// hasNoCodes fails when GetCodes finds codes.
func hasNoCodes(t *testing.T, name string, s string, i int) {
	t.Helper()
	if c, behind := impl.GetCodes(s, i); behind != -1 || !sameCodes(c, impl.Codes{}) {
		t.Errorf("%s: %v, %d", name, c, behind)
	}
}

func TestCodesComeBack(t *testing.T) {
	for i, c := range someRightCodes() {
		s := impl.PutCodes(c)
		for _, ahead := range []string{"", "\x00", "\xff\xd8\x01\x01", someText(300), strings.Repeat("a", 70000)} {
			for _, more := range []string{"", "\x00", "\xff", s, strings.Repeat("z", 70000)} {
				back, behind := impl.GetCodes(ahead+s+more, len(ahead))
				if behind != len(ahead)+len(s) || !sameCodes(back, c) {
					t.Errorf("codes %d come back as %v, %d", i, back, behind)
				}
			}
		}
		for n := range len(s) {
			hasNoCodes(t, fmt.Sprint("codes ", i, " cut at ", n), s[:n], 0)
			hasNoCodes(t, fmt.Sprint("codes ", i, " cut at ", n), "xyz"+s[:n], 3)
		}
	}
}

func TestPlacesOfCodes(t *testing.T) {
	s := impl.PutCodes(smallCodes())
	for _, text := range []string{"", "x", s, s + s, strings.Repeat("\x00", 16)} {
		for _, i := range append([]int{len(text), len(text) + 1, len(text) + 16, len(text) - 16, -16, -20}, somePlaces...) {
			want, at := plainCodesAt(text, i)
			if c, behind := impl.GetCodes(text, i); behind != at || !sameCodes(c, want) {
				t.Errorf("%d bytes at %d: %v, %d", len(text), i, c, behind)
			}
		}
	}
	hasNoCodes(t, "ahead of all", s, -1)
	hasNoCodes(t, "at the end", s, len(s))
	hasNoCodes(t, "behind the end", s, len(s)+1)
	if c, behind := impl.GetCodes(s, 0); behind != len(s) || !sameCodes(c, smallCodes()) {
		t.Errorf("at 0: %v, %d", c, behind)
	}
}

func TestTextsThatAreNoCodes(t *testing.T) {
	for _, w := range someWrongCodes() {
		// What is no byte, or not as many as the counts tell, makes another text.
		if len(w.codes.Counts) != 16 || slices.Max(w.codes.Counts) > 255 || slices.Min(w.codes.Counts) < 0 {
			continue
		}
		s := plainCodes(w.codes)
		want, at := plainCodesAt(s, 0)
		if c, behind := impl.GetCodes(s, 0); behind != at || !sameCodes(c, want) {
			t.Errorf("%s: %v, %d", w.name, c, behind)
		}
	}
	two := impl.Codes{Counts: counts(2), Syms: []int{1, 2}}
	alike := impl.Codes{Counts: counts(0, 3), Syms: []int{1, 2, 1}}
	over := impl.Codes{Counts: slices.Repeat([]int{1}, 16), Syms: upTo(17)}
	over.Counts[15] = 2
	for i, c := range []impl.Codes{two, alike, over, {Counts: counts()}, {Counts: slices.Repeat([]int{255}, 16), Syms: upTo(256)}} {
		hasNoCodes(t, fmt.Sprint("codes ", i), plainCodes(c)+strings.Repeat("x", 300), 0)
	}
	for _, p := range []impl.Pic{threePic(), zeroPic(3, 3), bestPic(4, 5, "note", manyBlocks(20))} {
		s := plainFile(p)
		for i := range len(s) + 1 {
			want, at := plainCodesAt(s, i)
			if c, behind := impl.GetCodes(s, i); behind != at || !sameCodes(c, want) {
				t.Errorf("at %d of %q: %v, %d", i, s, c, behind)
			}
		}
	}
}

func TestCodesWithOneByteChanged(t *testing.T) {
	for _, c := range []impl.Codes{smallCodes(), codesWith(9, 1), stairCodes(), {Counts: counts(0, 3), Syms: []int{200, 7, 8}}} {
		s := impl.PutCodes(c)
		for at := range len(s) {
			for x := range 256 {
				other := s[:at] + string([]byte{byte(x)}) + s[at+1:] + "\x0a\x0b\x0c"
				want, place := plainCodesAt(other, 0)
				got, behind := impl.GetCodes(other, 0)
				if behind != place || !sameCodes(got, want) {
					t.Errorf("%q: %v, %d", other, got, behind)
				}
				if behind >= 0 && impl.PutCodes(got) != other[:behind] {
					t.Errorf("%q is written again as %q", other, impl.PutCodes(got))
				}
			}
		}
	}
}

// plainTables are the best by the words of the document.
func plainTables(list []impl.Block) impl.Tables {
	dc, ac := plainFreqs(list)
	dc[0]++
	ac[0]++
	return impl.Tables{Dc: plainBest(dc), Ac: plainBest(ac)}
}

func TestPicPlain(t *testing.T) {
	for i, p := range somePics() {
		want := clonePic(p)
		want.Tables = plainTables(p.Blocks)
		got := impl.PicPlain(p)
		if !samePic(got, want) || !impl.PicOk(got) {
			t.Errorf("picture %d: %v", i, got.Tables)
		}
		if again := impl.PicPlain(got); !samePic(again, want) {
			t.Errorf("picture %d again: %v", i, again.Tables)
		}
		s, _ := impl.PicWrite(got)
		if back, said := impl.PicRead(s); said != impl.FileOk || !samePic(back, want) {
			t.Errorf("picture %d comes back as %v, %d", i, back, said)
		}
	}
}

// Only the blocks are asked whether there are best tables.
func TestPicPlainOfWhatIsNotRight(t *testing.T) {
	all, best := someWrongPics()
	hasBest := map[string]bool{}
	for _, w := range best {
		hasBest[w.name] = true
	}
	for _, w := range all {
		want := clonePic(w.pic)
		if hasBest[w.name] {
			want.Tables = plainTables(w.pic.Blocks)
		}
		if got := impl.PicPlain(w.pic); !samePic(got, want) {
			t.Errorf("%s: %v", w.name, got.Tables)
		}
	}
	p := zeroPic(40, 40)
	for i := range p.Blocks {
		p.Blocks[i] = onesBlock(0)
	}
	want, _ := impl.ScanBest(p.Blocks)
	if got := impl.PicPlain(p); !sameTables(got.Tables, want) || !sameBlocks(got.Blocks, p.Blocks) {
		t.Errorf("too many of one symbol: %v", got.Tables)
	}
}

// listsOfPic gives all lists of numbers of a picture.
func listsOfPic(p impl.Pic) [][]int {
	lists := [][]int{p.Tables.Dc.Counts, p.Tables.Dc.Syms, p.Tables.Ac.Counts, p.Tables.Ac.Syms}
	for _, b := range p.Blocks {
		lists = append(lists, b.Ac)
	}
	return lists
}

func TestPicturesAreLeftAlone(t *testing.T) {
	countRoom := append(counts(1, 1, 1, 1), 71, 72)
	symRoom := append([]int{0, 1, 2, 3}, 73, 74)
	acRoom := append(blockWith(4, 0, 3, 1, -2).Ac, 75, 76)
	blockRoom := []impl.Block{{Dc: 1, Ac: acRoom[:63]}, {Dc: 2, Ac: acRoom[:63]}, {Dc: 77}, {Dc: 78}}
	codes := impl.Codes{Counts: countRoom[:16], Syms: symRoom[:4]}
	p := impl.Pic{W: 2, H: 1, Tables: impl.Tables{Dc: codes, Ac: codes}, Note: "kept", Blocks: blockRoom[:2]}
	wrong := p
	wrong.W = 3
	rooms := [][]int{countRoom, symRoom, acRoom}
	kept := [][]int{}
	for _, room := range rooms {
		kept = append(kept, slices.Clone(room))
	}
	if !impl.PicOk(p) || impl.PutCodes(codes) == "" || impl.PicCost(p) < 0 {
		t.Fatal("the picture is refused")
	}
	for _, x := range []impl.Pic{p, wrong} {
		impl.PicOk(x)
		impl.PicWrite(x)
		impl.PicCost(x)
		for _, list := range listsOfPic(impl.PicPlain(x)) {
			spoil(list)
		}
	}
	for i, room := range rooms {
		if !slices.Equal(room, kept[i]) {
			t.Errorf("list %d, or the room behind it, was written into", i)
		}
	}
	for i, dc := range []int{1, 2, 77, 78} {
		if blockRoom[i].Dc != dc || i < 2 && &blockRoom[i].Ac[0] != &acRoom[0] || i > 1 && blockRoom[i].Ac != nil {
			t.Errorf("block %d was written into", i)
		}
	}
}

func TestAnswersOfPicturesAreNewMemory(t *testing.T) {
	p := threePic()
	shared := slices.Repeat([]int{1}, 63)
	p.Blocks[0].Ac, p.Blocks[2].Ac = shared, shared
	p.Tables = wideTables()
	refused := clonePic(p)
	refused.Blocks[1].Dc = 5000
	refused.Blocks[0].Ac, refused.Blocks[2].Ac = shared, shared
	same := impl.Codes{Counts: counts(1), Syms: []int{9}}
	refused.Tables = impl.Tables{Dc: same, Ac: same}
	kept, keptRefused := clonePic(p), clonePic(refused)
	s, _ := impl.PicWrite(p)
	codes := impl.PutCodes(stairCodes())
	for i, ask := range []func() impl.Pic{
		func() impl.Pic { back, _ := impl.PicRead(s); return back },
		func() impl.Pic { return impl.PicPlain(p) },
		func() impl.Pic { return impl.PicPlain(refused) },
		func() impl.Pic { c, _ := impl.GetCodes(codes, 0); return impl.Pic{Tables: impl.Tables{Dc: c}} },
	} {
		a, other, want := ask(), ask(), clonePic(ask())
		lists := listsOfPic(a)
		for k := range lists {
			spoil(lists[k])
			for m := k + 1; m < len(lists); m++ {
				if !slices.Equal(lists[m], listsOfPic(want)[m]) {
					t.Errorf("lists %d and %d of answer %d share memory", k, m, i)
				}
			}
		}
		for k := range a.Blocks {
			a.Blocks[k] = impl.Block{}
		}
		if !samePic(other, want) || !samePic(ask(), want) {
			t.Errorf("answer %d shares memory", i)
		}
	}
	if !samePic(p, kept) || !samePic(refused, keptRefused) {
		t.Error("an answer shares memory with an argument")
	}
}
