package tests

import (
	"fmt"
	"math"
	"slices"
	"testing"

	"loop.example/g00120/impl"
)

// wayOnSquare has the number of the way for each row and column.
var wayOnSquare = [8][8]int{
	{0, 1, 5, 6, 14, 15, 27, 28},
	{2, 4, 7, 13, 16, 26, 29, 42},
	{3, 8, 12, 17, 25, 30, 41, 43},
	{9, 11, 18, 24, 31, 40, 44, 53},
	{10, 19, 23, 32, 39, 45, 52, 54},
	{20, 22, 33, 38, 46, 51, 55, 60},
	{21, 34, 37, 47, 50, 56, 59, 61},
	{35, 36, 48, 49, 57, 58, 62, 63},
}

// offSquare has rows and columns that are none.
var offSquare = []int{-1, -2, -7, -8, 8, 9, 15, 16, 63, 64, 256, 1 << 32, 1<<32 + 1, -1 << 32, 1 << 61, 1 << 62, math.MinInt, math.MinInt + 1, math.MaxInt, math.MaxInt - 1}

// noCells has numbers that no cell has.
var noCells = []int{1024, -1024, 1025, -1025, 2047, -2047, 1 << 32, 1<<32 + 5, -1 << 32, math.MinInt, math.MinInt + 1, math.MaxInt, math.MaxInt - 1}

// plainCells lays a block out as rows.
func plainCells(b impl.Block) [8][8]int {
	cells := [8][8]int{}
	for r := range 8 {
		for c := range 8 {
			if k := wayOnSquare[r][c]; k > 0 {
				cells[r][c] = b.Ac[k-1]
			} else {
				cells[r][c] = b.Dc
			}
		}
	}
	return cells
}

func plainFromCells(cells [8][8]int) impl.Block {
	b := blockWith(cells[0][0])
	for r := range 8 {
		for c := range 8 {
			if k := wayOnSquare[r][c]; k > 0 {
				b.Ac[k-1] = cells[r][c]
			}
		}
	}
	return b
}

func plainMirror(b impl.Block) impl.Block {
	cells := plainCells(b)
	for r := range 8 {
		for _, c := range []int{1, 3, 5, 7} {
			cells[r][c] = 0 - cells[r][c]
		}
	}
	return plainFromCells(cells)
}

func plainTranspose(b impl.Block) impl.Block {
	cells, turned := plainCells(b), [8][8]int{}
	for r := range 8 {
		for c := range 8 {
			turned[c][r] = cells[r][c]
		}
	}
	return plainFromCells(turned)
}

func inOneList(cells [8][8]int) [64]int {
	list := [64]int{}
	for r := range 8 {
		copy(list[8*r:], cells[r][:])
	}
	return list
}

// grid is the blocks of a picture as rows.
type grid [][]impl.Block

func gridOf(p impl.Pic) grid {
	return slices.Collect(slices.Chunk(p.Blocks, p.W))
}

// emptyGrid has nothing at any place.
func emptyGrid(w int, h int) grid {
	g := make(grid, h)
	for r := range g {
		g[r] = make([]impl.Block, w)
	}
	return g
}

// plainOut is what comes out when a grid of right blocks is made a picture, if
// it is one.
func plainOut(g grid, note string) (impl.Pic, bool) {
	p := impl.Pic{W: len(g[0]), H: len(g), Note: note, Blocks: cloneBlocks(slices.Concat(g...))}
	if p.W > 40 || p.H > 40 || len(note) > 500 {
		return impl.Pic{}, false
	}
	dc, ac := plainFreqs(p.Blocks)
	dc[0]++
	ac[0]++
	if max(slices.Max(dc), slices.Max(ac)) > 100000 {
		return impl.Pic{}, false
	}
	p.Tables = plainTables(p.Blocks)
	if digits, ok := plainScan(p.Tables, p.Blocks); !ok || len(digits) > 480000 {
		return impl.Pic{}, false
	}
	return p, true
}

func plainMirrorPic(p impl.Pic) (impl.Pic, bool) {
	from, g := gridOf(p), emptyGrid(p.W, p.H)
	for r := range p.H {
		for c := range p.W {
			g[r][p.W-1-c] = plainMirror(from[r][c])
		}
	}
	return plainOut(g, p.Note)
}

func plainTurnPic(p impl.Pic) (impl.Pic, bool) {
	from, g := gridOf(p), emptyGrid(p.H, p.W)
	for r := range p.H {
		for c := range p.W {
			g[c][r] = plainTranspose(from[r][c])
		}
	}
	return plainOut(g, p.Note)
}

// plainCropPic takes the places one by one that are told, and knows of none
// outside.
func plainCropPic(p impl.Pic, x int, y int, w int, h int) (impl.Pic, bool) {
	if x < 0 || y < 0 || x >= p.W || y >= p.H || w < 1 || h < 1 || w > 40 || h > 40 || x+w > p.W || y+h > p.H {
		return impl.Pic{}, false
	}
	from, g := gridOf(p), emptyGrid(w, h)
	for r := range h {
		for c := range w {
			g[r][c] = from[y+r][x+c]
		}
	}
	return plainOut(g, p.Note)
}

func plainBesidePic(p impl.Pic, q impl.Pic) (impl.Pic, bool) {
	if p.H != q.H {
		return impl.Pic{}, false
	}
	left, right, g := gridOf(p), gridOf(q), grid{}
	for r := range p.H {
		g = append(g, slices.Concat(left[r], right[r]))
	}
	return plainOut(g, p.Note)
}

func plainThinPic(p impl.Pic, k int) (impl.Pic, bool) {
	if k < 0 || k > 63 {
		return impl.Pic{}, false
	}
	g := grid{}
	for _, row := range gridOf(p) {
		thin := []impl.Block{}
		for _, b := range row {
			kept := blockWith(b.Dc)
			for i := range k {
				kept.Ac[i] = b.Ac[i]
			}
			thin = append(thin, kept)
		}
		g = append(g, thin)
	}
	return plainOut(g, p.Note)
}

func plainThumb(p impl.Pic) []int {
	list := []int{}
	for _, b := range p.Blocks {
		list = append(list, b.Dc)
	}
	return list
}

// plainWhole is a picture itself, with the best tables.
func plainWhole(p impl.Pic) (impl.Pic, bool) {
	return plainOut(gridOf(p), p.Note)
}

// toldPic is a picture as short as can be.
func toldPic(p impl.Pic, ok bool) string {
	return fmt.Sprintf("%v, %d times %d, note %s, %d blocks, thumb %.60s, tables %.200s", ok, p.W, p.H, short(p.Note), len(p.Blocks), fmt.Sprint(plainThumb(p)), fmt.Sprint(p.Tables))
}

// pictured fails when a picture is not answered as the plain one is.
func pictured(t *testing.T, name string, got impl.Pic, ok bool, want impl.Pic, wantOk bool) {
	t.Helper()
	if ok != wantOk || !samePic(got, want) {
		t.Errorf("%s: %s, not %s", name, toldPic(got, ok), toldPic(want, wantOk))
	}
	if ok && !impl.PicOk(got) {
		t.Errorf("%s: is no picture", name)
	}
}

// refusedView fails when a picture is answered.
func refusedView(t *testing.T, name string, got impl.Pic, ok bool) {
	t.Helper()
	pictured(t, name, got, ok, impl.Pic{}, false)
}

// itself fails when a picture is not p with the best tables.
func itself(t *testing.T, name string, got impl.Pic, ok bool, p impl.Pic) {
	t.Helper()
	want, wantOk := plainWhole(p)
	pictured(t, name, got, ok, want, wantOk)
}

// thumbIs fails when the thumb is another.
func thumbIs(t *testing.T, name string, p impl.Pic, want []int) {
	t.Helper()
	if got, ok := impl.Thumb(p); !ok || !slices.Equal(got, want) {
		t.Errorf("%s: the thumb is %v, %v, not %v", name, got, ok, want)
	}
}

// numberedPic has at row r and column c a block with Dc 10 r + c, and one number
// of Ac, at the place 7 r + c.
func numberedPic(w int, h int) impl.Pic {
	list := []impl.Block{}
	for r := range h {
		for c := range w {
			list = append(list, blockWith(10*r+c, (7*r+c)%63, r*c-20*c+1))
		}
	}
	return impl.Pic{W: w, H: h, Tables: wideTables(), Note: fmt.Sprint(w, " times ", h), Blocks: list}
}

// manyPic has right blocks of many shapes, and tables that are not the best.
func manyPic(w int, h int) impl.Pic {
	return impl.Pic{W: w, H: h, Tables: wideTables(), Note: "many\x00\xff", Blocks: manyBlocks(w * h)}
}

// viewPics has right pictures of many kinds, few of them with the best tables.
func viewPics() []impl.Pic {
	return append(somePics(),
		numberedPic(1, 1), numberedPic(2, 1), numberedPic(1, 2), numberedPic(5, 3), numberedPic(3, 5), numberedPic(9, 9),
		manyPic(1, 40), manyPic(40, 1), manyPic(13, 11), manyPic(40, 40),
		bestPic(6, 2, someText(500), manyBlocks(12)),
	)
}

// smallPics has those of viewPics that are worked out quickly.
func smallPics() []impl.Pic {
	return slices.DeleteFunc(viewPics(), func(p impl.Pic) bool { return len(p.Blocks) > 150 })
}

// onesPic has no number of Ac but 1 and -1: of more than 1587 such blocks there
// are no best tables.
func onesPic(w int, h int) impl.Pic {
	list := []impl.Block{}
	for range w * h {
		list = append(list, onesBlock(0))
	}
	return impl.Pic{W: w, H: h, Tables: loneTables(0, 1), Note: "ones", Blocks: list}
}

// heavyPic has 1600 blocks of 29 numbers of Ac that are not 0, those of the
// first more blocks 30: without a gap on the way, but not when they are
// transposed. With its best tables that is 293 and 303 bits.
func heavyPic(more int) impl.Pic {
	list := []impl.Block{}
	for i := range 1600 {
		b := blockWith(0)
		for k := range 29 + bitOf(i < more) {
			b.Ac[k] = 500 - k
		}
		list = append(list, b)
	}
	return bestPic(40, 40, "heavy", list)
}

// steepPic can be written by its tables, but the best ones are of eight bits,
// and need too many.
func steepPic(t *testing.T) impl.Pic {
	t.Helper()
	list := steepBlocks()
	for len(list) < 1600 {
		list = append(list, onesBlock(0))
	}
	dc, ac := plainFreqs(list)
	for _, freq := range [][]int{dc, ac} {
		for sym := range freq {
			if freq[sym] > 0 {
				freq[sym] = 1 + freq[sym]/30
			}
		}
	}
	p := impl.Pic{W: 40, H: 40, Tables: impl.Tables{Dc: plainBest(dc), Ac: plainBest(ac)}, Note: "steep", Blocks: list}
	if !impl.PicOk(p) {
		t.Fatal("what is to be refused for its best tables is no picture")
	}
	return p
}

func TestCellsSpeltOut(t *testing.T) {
	b := blockWith(1000)
	for i := range b.Ac {
		b.Ac[i] = i + 1
	}
	for r := range 8 {
		for c := range 8 {
			want := wayOnSquare[r][c]
			if r+c == 0 {
				want = 1000
			}
			if got := impl.Cell(b, r, c); got != want {
				t.Errorf("cell %d, %d is %d, not %d", r, c, got, want)
			}
		}
	}
	for k, place := range [][2]int{{0, 0}, {0, 1}, {1, 0}, {2, 0}, {1, 1}, {0, 2}, {0, 3}, {1, 2}} {
		if got := impl.Cell(b, place[0], place[1]); k > 0 && got != b.Ac[k-1] {
			t.Errorf("cell %v is %d", place, got)
		}
	}
}

func TestCellsOfManyBlocks(t *testing.T) {
	for i, b := range someBlocks() {
		cells := plainCells(b)
		for r := range 8 {
			for c := range 8 {
				if got := impl.Cell(b, r, c); got != cells[r][c] {
					t.Errorf("block %d: cell %d, %d is %d, not %d", i, r, c, got, cells[r][c])
				}
			}
		}
		back, ok := impl.FromCells(inOneList(cells))
		if !ok || !sameBlock(back, b) {
			t.Errorf("block %d comes back as %v, %v", i, back, ok)
		}
	}
}

func TestCellsAgreeWithTheWay(t *testing.T) {
	for k := range 64 {
		b := blockWith(0)
		if k > 0 {
			b.Ac[k-1] = 9
		} else {
			b.Dc = 9
		}
		r, c := impl.Zigzag(k)
		for place := range 64 {
			want := 9 * bitOf(place == 8*r+c)
			if got := impl.Cell(b, place/8, place%8); got != want {
				t.Errorf("number %d of the way: cell %d is %d, not %d", k, place, got, want)
			}
		}
	}
}

func TestCellsBeyondTheSquare(t *testing.T) {
	b := blockWith(1000)
	for i := range b.Ac {
		b.Ac[i] = i + 1
	}
	for _, off := range offSquare {
		for on := range 8 {
			if got := impl.Cell(b, off, on); got != 0 {
				t.Errorf("row %d, column %d: %d", off, on, got)
			}
			if got := impl.Cell(b, on, off); got != 0 {
				t.Errorf("row %d, column %d: %d", on, off, got)
			}
		}
		for _, other := range offSquare {
			if got := impl.Cell(b, off, other); got != 0 {
				t.Errorf("row %d, column %d: %d", off, other, got)
			}
		}
	}
	for _, at := range [][2]int{{0, 0}, {0, 7}, {7, 0}, {7, 7}} {
		if impl.Cell(b, at[0], at[1]) == 0 {
			t.Errorf("cell %v at the edge is 0", at)
		}
	}
}

func TestCellsOfBlocksThatAreNotRight(t *testing.T) {
	for _, w := range someWrongBlocks() {
		for place := range 64 {
			if got := impl.Cell(w.block, place/8, place%8); got != 0 {
				t.Errorf("%s: cell %d is %d", w.name, place, got)
			}
		}
		if got := impl.Cell(w.block, -1, 8); got != 0 {
			t.Errorf("%s: beyond the square: %d", w.name, got)
		}
		for name, turn := range blockTurns() {
			if got := turn.made(w.block); !sameBlock(got, impl.Block{}) {
				t.Errorf("%s: %s is %v", w.name, name, got)
			}
		}
	}
	// All but one cell are as they should be.
	for k := range 63 {
		for _, x := range noCells {
			b := blockWith(7, k, x)
			b.Ac[(k+1)%63] = 5
			for place := range 64 {
				if got := impl.Cell(b, place/8, place%8); got != 0 {
					t.Errorf("%d at %d: cell %d is %d", x, k, place, got)
				}
			}
		}
	}
}

func TestLimitsOfCells(t *testing.T) {
	for place := range 64 {
		for _, x := range []int{1023, -1023, 1022, 1, -1, 0} {
			cells := [64]int{0: 4, 9: -3, 63: 2}
			cells[place] = x
			b, ok := impl.FromCells(cells)
			if !ok || !impl.BlockOk(b) || impl.Cell(b, place/8, place%8) != x {
				t.Errorf("%d at %d: %v, %v", x, place, b, ok)
			}
			for other := range 64 {
				if got := impl.Cell(b, other/8, other%8); got != cells[other] {
					t.Errorf("%d at %d: cell %d is %d, not %d", x, place, other, got, cells[other])
				}
			}
		}
		for _, x := range noCells {
			cells := [64]int{0: 4, 9: -3, 63: 2}
			cells[place] = x
			if b, ok := impl.FromCells(cells); ok || !sameBlock(b, impl.Block{}) {
				t.Errorf("%d at %d: %v, %v", x, place, b, ok)
			}
		}
	}
	all := [64]int{}
	for _, x := range append(slices.Clone(noCells), 1023, -1023) {
		for place := range all {
			all[place] = x
		}
		want := impl.Block{}
		if x == 1023 || x == -1023 {
			want = impl.Block{Dc: x, Ac: slices.Repeat([]int{x}, 63)}
		}
		if b, ok := impl.FromCells(all); ok != (len(want.Ac) == 63) || !sameBlock(b, want) {
			t.Errorf("%d at all: %v, %v", x, b, ok)
		}
	}
	if b, ok := impl.FromCells([64]int{}); !ok || !sameBlock(b, blockWith(0)) {
		t.Errorf("no number: %v, %v", b, ok)
	}
}

type blockTurn struct {
	made  func(impl.Block) impl.Block
	plain func(impl.Block) impl.Block
}

func blockTurns() map[string]blockTurn {
	return map[string]blockTurn{
		"mirror":    {impl.Mirror, plainMirror},
		"transpose": {impl.Transpose, plainTranspose},
	}
}

func TestTurnedBlocks(t *testing.T) {
	for name, turn := range blockTurns() {
		for i, b := range someBlocks() {
			got := turn.made(b)
			if !sameBlock(got, turn.plain(b)) || !impl.BlockOk(got) || got.Dc != b.Dc {
				t.Errorf("%s of block %d: %v", name, i, got)
			}
			if twice := turn.made(got); !sameBlock(twice, b) {
				t.Errorf("%s twice of block %d: %v", name, i, twice)
			}
		}
	}
	for i, b := range someBlocks() {
		for r := range 8 {
			for c := range 8 {
				x := impl.Cell(b, r, c)
				if impl.Cell(impl.Transpose(b), c, r) != x || impl.Cell(impl.Mirror(b), r, c) != x*(1-c%2*2) {
					t.Errorf("block %d: cell %d, %d of what was turned", i, r, c)
				}
				// Mirrored as the rows are, not the columns.
				other := impl.Transpose(impl.Mirror(impl.Transpose(b)))
				if impl.Cell(other, r, c) != x*(1-r%2*2) {
					t.Errorf("block %d: cell %d, %d of what was turned three times", i, r, c)
				}
			}
		}
	}
}

// One cell alone is not 0, by its number on the way.
func TestTurnedCells(t *testing.T) {
	for r := range 8 {
		for c := range 8 {
			for _, x := range []int{1, -1, 512, 1023, -1023} {
				cells, mirrored, transposed := [8][8]int{}, [8][8]int{}, [8][8]int{}
				cells[r][c], mirrored[r][c], transposed[c][r] = x, x, x
				if c == 1 || c == 3 || c == 5 || c == 7 {
					mirrored[r][c] = -x
				}
				b := plainFromCells(cells)
				if got := impl.Mirror(b); !sameBlock(got, plainFromCells(mirrored)) {
					t.Errorf("%d at %d, %d mirrored: %v", x, r, c, got)
				}
				if got := impl.Transpose(b); !sameBlock(got, plainFromCells(transposed)) {
					t.Errorf("%d at %d, %d transposed: %v", x, r, c, got)
				}
			}
		}
	}
}

func TestPicturesMirroredAndTurned(t *testing.T) {
	for i, p := range viewPics() {
		name := fmt.Sprint("picture ", i)
		want, wantOk := plainMirrorPic(p)
		mirrored, ok := impl.MirrorPic(p)
		pictured(t, name+" mirrored", mirrored, ok, want, wantOk)
		if ok {
			twice, again := impl.MirrorPic(mirrored)
			itself(t, name+" mirrored twice", twice, again, p)
		}
		want, wantOk = plainTurnPic(p)
		turned, ok := impl.TurnPic(p)
		pictured(t, name+" turned", turned, ok, want, wantOk)
		if ok {
			twice, again := impl.TurnPic(turned)
			itself(t, name+" turned twice", twice, again, p)
		}
	}
}

func TestPicturesMirroredAndTurnedSpeltOut(t *testing.T) {
	p := numberedPic(3, 2)
	p.Blocks[1] = blockWith(1, 0, 5, 1, 6, 4, 7)
	q, ok := impl.MirrorPic(p)
	if !ok || q.W != 3 || q.H != 2 || q.Note != p.Note || !slices.Equal(plainThumb(q), []int{2, 1, 0, 12, 11, 10}) {
		t.Errorf("mirrored: %s", toldPic(q, ok))
	}
	if !sameBlock(q.Blocks[1], blockWith(1, 0, -5, 1, 6, 4, 7)) {
		t.Errorf("a block mirrored: %v", q.Blocks[1])
	}
	q, ok = impl.TurnPic(p)
	if !ok || q.W != 2 || q.H != 3 || q.Note != p.Note || !slices.Equal(plainThumb(q), []int{0, 10, 1, 11, 2, 12}) {
		t.Errorf("turned: %s", toldPic(q, ok))
	}
	if !sameBlock(q.Blocks[2], blockWith(1, 0, 6, 1, 5, 2, 7)) {
		t.Errorf("a block turned: %v", q.Blocks[2])
	}
}

// Turned by a quarter is turned and mirrored: four of these are none.
func TestPicturesTurnedRoundAndRound(t *testing.T) {
	for i, p := range smallPics() {
		q, ok := p, true
		for range 4 {
			if ok {
				q, ok = impl.TurnPic(q)
			}
			if ok {
				q, ok = impl.MirrorPic(q)
			}
		}
		itself(t, fmt.Sprint("picture ", i), q, ok, p)
	}
}

func TestPicturesOfOneBlock(t *testing.T) {
	for i, b := range someBlocks() {
		p := impl.Pic{W: 1, H: 1, Tables: wideTables(), Blocks: []impl.Block{b}}
		mirrored, ok := impl.MirrorPic(p)
		turned, also := impl.TurnPic(p)
		if !ok || !also || !sameBlock(mirrored.Blocks[0], impl.Mirror(b)) || !sameBlock(turned.Blocks[0], impl.Transpose(b)) {
			t.Errorf("block %d: %v and %v", i, mirrored.Blocks, turned.Blocks)
		}
	}
}

func TestPicturesCutAtEveryPlace(t *testing.T) {
	for _, p := range []impl.Pic{numberedPic(5, 4), numberedPic(1, 1), numberedPic(1, 4), numberedPic(6, 1)} {
		cut := 0
		for x := -2; x <= p.W+1; x++ {
			for y := -2; y <= p.H+1; y++ {
				for w := -1; w <= p.W+2; w++ {
					for h := -1; h <= p.H+2; h++ {
						got, ok := impl.CropPic(p, x, y, w, h)
						want, wantOk := plainCropPic(p, x, y, w, h)
						pictured(t, fmt.Sprint(p.Note, " at ", x, y, ", ", w, " times ", h), got, ok, want, wantOk)
						cut += bitOf(ok)
					}
				}
			}
		}
		if cut != p.W*(p.W+1)/2*(p.H*(p.H+1)/2) {
			t.Errorf("%s: cut %d times", p.Note, cut)
		}
	}
	q, ok := impl.CropPic(numberedPic(5, 4), 1, 2, 3, 2)
	if !ok || q.W != 3 || q.H != 2 || q.Note != "5 times 4" || !slices.Equal(plainThumb(q), []int{21, 22, 23, 31, 32, 33}) {
		t.Errorf("cut: %s", toldPic(q, ok))
	}
}

func TestPicturesCutToTheirWhole(t *testing.T) {
	for i, p := range viewPics() {
		q, ok := impl.CropPic(p, 0, 0, p.W, p.H)
		itself(t, fmt.Sprint("picture ", i), q, ok, p)
		for _, k := range [][4]int{{1, 0, p.W, p.H}, {0, 1, p.W, p.H}, {-1, 0, p.W, p.H}, {0, -1, p.W, p.H}, {0, 0, p.W + 1, p.H}, {0, 0, p.W, p.H + 1}, {0, 0, p.H, p.W}} {
			got, ok := impl.CropPic(p, k[0], k[1], k[2], k[3])
			want, wantOk := plainCropPic(p, k[0], k[1], k[2], k[3])
			pictured(t, fmt.Sprint("picture ", i, " cut at ", k), got, ok, want, wantOk)
		}
	}
}

// The sums of these overflow, or their products do.
func TestPicturesCutFarBeyond(t *testing.T) {
	p := numberedPic(4, 3)
	far := []int{-1, -3, -4, 5, 41, 1 << 31, 1 << 32, 1<<32 + 1, -1 << 32, 1 << 61, 1 << 62, 1<<62 + 1, -1 << 62, math.MaxInt, math.MaxInt - 1, math.MaxInt - 3, math.MinInt, math.MinInt + 1, math.MinInt + 4}
	for _, a := range far {
		for k := range 4 {
			at := [4]int{1, 1, 2, 2}
			at[k] = a
			q, ok := impl.CropPic(p, at[0], at[1], at[2], at[3])
			refusedView(t, fmt.Sprint("at ", at), q, ok)
			for _, b := range far {
				at[(k+2)%4] = b
				q, ok := impl.CropPic(p, at[0], at[1], at[2], at[3])
				refusedView(t, fmt.Sprint("at ", at), q, ok)
			}
		}
	}
	for _, at := range [][4]int{
		{math.MaxInt, 0, 1, 1}, {1, 0, math.MaxInt, 1}, {4, 0, math.MaxInt - 3, 1}, {math.MinInt, 0, math.MinInt, 1}, {-4, 0, 8, 1}, {-1, 0, 1, 1},
		{0, math.MaxInt, 1, 1}, {0, 1, 1, math.MaxInt}, {0, 3, 1, math.MaxInt - 2}, {0, math.MinInt, 1, math.MinInt}, {0, -3, 1, 6}, {0, -1, 1, 1},
		{0, 0, 0, 0}, {0, 0, 0, 1}, {0, 0, 1, 0}, {4, 0, 0, 1}, {0, 3, 1, 0}, {4, 3, 0, 0}, {4, 3, 1, 1}, {2, 2, -1, -1}, {4, 3, -4, -3},
	} {
		q, ok := impl.CropPic(p, at[0], at[1], at[2], at[3])
		refusedView(t, fmt.Sprint("at ", at), q, ok)
	}
}

func TestPicturesComeApartAgain(t *testing.T) {
	for i, p := range append(smallPics(), numberedPic(40, 2), manyPic(40, 40)) {
		step := 1 + p.W*p.H/1600*12
		for c := 1; c < p.W; c += step {
			name := fmt.Sprint("picture ", i, " at column ", c)
			left, ok := impl.CropPic(p, 0, 0, c, p.H)
			right, also := impl.CropPic(p, c, 0, p.W-c, p.H)
			if !ok || !also || left.W != c || right.W != p.W-c {
				t.Fatalf("%s: %s and %s", name, toldPic(left, ok), toldPic(right, also))
			}
			both, ok := impl.BesidePic(left, right)
			itself(t, name, both, ok, p)
			again, ok := impl.CropPic(both, 0, 0, c, p.H)
			pictured(t, name+", the left", again, ok, left, true)
			again, ok = impl.CropPic(both, c, 0, p.W-c, p.H)
			pictured(t, name+", the right", again, ok, right, true)
		}
	}
}

func TestPicturesBesideEachOther(t *testing.T) {
	pics := smallPics()
	joined := 0
	for i, p := range pics {
		for k, q := range pics {
			if i > 30 && k > 30 {
				continue
			}
			name := fmt.Sprint("pictures ", i, " and ", k)
			got, ok := impl.BesidePic(p, q)
			want, wantOk := plainBesidePic(p, q)
			pictured(t, name, got, ok, want, wantOk)
			if !ok || k%5 != i%5 {
				continue
			}
			joined++
			left, ok := impl.CropPic(got, 0, 0, p.W, p.H)
			itself(t, name+", the left", left, ok, p)
			right, ok := impl.CropPic(got, p.W, 0, q.W, q.H)
			q.Note = p.Note
			itself(t, name+", the right", right, ok, q)
		}
	}
	if joined < 500 {
		t.Error("beside each other are", joined)
	}
}

func TestNotesOfPicturesBesideEachOther(t *testing.T) {
	for _, notes := range [][2]string{{"left", "right"}, {"", "right"}, {"left", ""}, {"\xff\x00", "n"}, {someText(500), "n"}, {"n", someText(500)}, {someText(499), someText(500)}} {
		p, q := numberedPic(2, 2), numberedPic(1, 2)
		p.Note, q.Note = notes[0], notes[1]
		both, ok := impl.BesidePic(p, q)
		if !ok || both.Note != notes[0] || !slices.Equal(plainThumb(both), []int{0, 1, 0, 10, 11, 10}) {
			t.Errorf("%s: %s", short(notes[0]), toldPic(both, ok))
		}
		for name, ask := range viewCalls() {
			if got, ok := ask(p); ok && name != "beside" && got.Note != notes[0] {
				t.Errorf("%s: the note of %s is %s", name, short(notes[0]), short(got.Note))
			}
		}
	}
}

func TestPicturesOfOtherHeights(t *testing.T) {
	for _, h := range []int{1, 2, 3, 39, 40} {
		for _, other := range []int{1, 2, 3, 39, 40} {
			p, q := numberedPic(2, h), numberedPic(3, other)
			both, ok := impl.BesidePic(p, q)
			want, wantOk := plainBesidePic(p, q)
			if wantOk != (h == other) {
				t.Fatal(h, other)
			}
			pictured(t, fmt.Sprint(h, " and ", other), both, ok, want, wantOk)
		}
	}
	// As many blocks, and sides that are those of the other the other way round.
	both, ok := impl.BesidePic(numberedPic(2, 3), numberedPic(3, 2))
	refusedView(t, "turned", both, ok)
}

func TestPicturesThatGetTooWide(t *testing.T) {
	for _, w := range [][2]int{{20, 20}, {1, 39}, {39, 1}, {40, 1}, {1, 40}, {21, 20}, {40, 40}, {30, 30}} {
		for _, h := range []int{1, 2, 40} {
			p, q := zeroPic(w[0], h), zeroPic(w[1], h)
			both, ok := impl.BesidePic(p, q)
			if ok != (w[0]+w[1] <= 40) {
				t.Errorf("%v of height %d: %v", w, h, ok)
			}
			want, wantOk := plainBesidePic(p, q)
			pictured(t, fmt.Sprint(w, " of height ", h), both, ok, want, wantOk)
		}
	}
}

func TestPicturesThinned(t *testing.T) {
	for i, p := range smallPics() {
		thumb := plainThumb(p)
		for _, k := range []int{0, 1, 2, 3, 15, 16, 17, 31, 48, 61, 62, 63} {
			name := fmt.Sprint("picture ", i, " thinned at ", k)
			got, ok := impl.ThinPic(p, k)
			want, wantOk := plainThinPic(p, k)
			pictured(t, name, got, ok, want, wantOk)
			thumbIs(t, name, got, thumb)
		}
		whole, ok := impl.ThinPic(p, 63)
		itself(t, fmt.Sprint("picture ", i), whole, ok, p)
	}
}

func TestPicturesThinnedAtEveryPlace(t *testing.T) {
	p := impl.Pic{W: 3, H: 2, Tables: wideTables(), Note: "thin", Blocks: []impl.Block{
		fullBlock(), onesBlock(7), blockWith(-1023, 62, 1023), blockWith(5, 0, 3, 17, -4, 34, 9, 61, -1), blockWith(0), fullBlock(),
	}}
	for k := -3; k <= 66; k++ {
		thin, ok := impl.ThinPic(p, k)
		want, wantOk := plainThinPic(p, k)
		if wantOk != (0 <= k && k <= 63) {
			t.Fatal(k)
		}
		pictured(t, fmt.Sprint("at ", k), thin, ok, want, wantOk)
		if !ok {
			continue
		}
		thumbIs(t, fmt.Sprint("at ", k), thin, plainThumb(p))
		for i, b := range thin.Blocks {
			whole := append(slices.Clone(p.Blocks[i].Ac[:k]), make([]int, 63-k)...)
			if steps := impl.Steps(b); !sameSteps(steps, plainSteps(whole)) {
				t.Errorf("block %d at %d has the steps %v", i, k, steps)
			}
			if n := impl.Length(b); n > k {
				t.Errorf("block %d at %d has the length %d", i, k, n)
			}
		}
		for _, again := range []int{0, 1, 20, 40, 63, k, max(k-1, 0), min(k+1, 63)} {
			least, _ := plainThinPic(p, min(k, again))
			got, ok := impl.ThinPic(thin, again)
			pictured(t, fmt.Sprint("at ", k, " and then at ", again), got, ok, least, true)
		}
	}
	for _, k := range []int{-1, -64, 64, 65, 127, 128, 256, 1 << 32, 1<<32 + 5, -1 << 32, math.MinInt, math.MinInt + 1, math.MaxInt, math.MaxInt - 1} {
		thin, ok := impl.ThinPic(p, k)
		refusedView(t, fmt.Sprint("at ", k), thin, ok)
	}
}

func TestThumbs(t *testing.T) {
	for i, p := range viewPics() {
		name := fmt.Sprint("picture ", i)
		thumbIs(t, name, p, plainThumb(p))
		mirrored, ok := impl.MirrorPic(p)
		turned, also := impl.TurnPic(p)
		if !ok || !also {
			continue
		}
		reversed, stood := []int{}, []int{}
		for row := range slices.Chunk(plainThumb(p), p.W) {
			slices.Reverse(row)
			reversed = append(reversed, row...)
		}
		for c := range p.W {
			for r := range p.H {
				stood = append(stood, p.Blocks[r*p.W+c].Dc)
			}
		}
		thumbIs(t, name+" mirrored", mirrored, reversed)
		thumbIs(t, name+" turned", turned, stood)
	}
	thumbIs(t, "of three", threePic(), []int{1023, 1016, 1016})
	thumbIs(t, "of six", numberedPic(3, 2), []int{0, 1, 2, 10, 11, 12})
}

// viewCalls has every function that makes a picture of one.
func viewCalls() map[string]func(impl.Pic) (impl.Pic, bool) {
	return map[string]func(impl.Pic) (impl.Pic, bool){
		"mirror": impl.MirrorPic,
		"turn":   impl.TurnPic,
		"crop":   func(p impl.Pic) (impl.Pic, bool) { return impl.CropPic(p, 0, 0, 1, 1) },
		"whole":  func(p impl.Pic) (impl.Pic, bool) { return impl.CropPic(p, 0, 0, p.W, p.H) },
		"beside": func(p impl.Pic) (impl.Pic, bool) { return impl.BesidePic(p, p) },
		"thin":   func(p impl.Pic) (impl.Pic, bool) { return impl.ThinPic(p, 5) },
		"thick":  func(p impl.Pic) (impl.Pic, bool) { return impl.ThinPic(p, 63) },
	}
}

func TestViewsOfWhatIsNoPicture(t *testing.T) {
	all, _ := someWrongPics()
	right := numberedPic(2, 1)
	for name, ask := range viewCalls() {
		if _, ok := ask(threePic()); !ok {
			t.Errorf("%s: what is changed is itself refused", name)
		}
	}
	for _, w := range all {
		if impl.PicOk(w.pic) {
			t.Fatal(w.name)
		}
		for name, ask := range viewCalls() {
			got, ok := ask(w.pic)
			refusedView(t, name+", "+w.name, got, ok)
		}
		other := right
		if w.pic.H != 1 && w.pic.H > 0 && w.pic.H <= 40 {
			other = numberedPic(2, w.pic.H)
		}
		got, ok := impl.BesidePic(w.pic, other)
		refusedView(t, "ahead of a picture, "+w.name, got, ok)
		got, ok = impl.BesidePic(other, w.pic)
		refusedView(t, "behind a picture, "+w.name, got, ok)
		if list, ok := impl.Thumb(w.pic); ok || len(list) != 0 {
			t.Errorf("thumb, %s: %v, %v", w.name, list, ok)
		}
	}
}

// Of 1600 such blocks there are no best tables, of 1587 there are.
func TestViewsWithoutBestTables(t *testing.T) {
	p := onesPic(40, 40)
	if !impl.PicOk(p) {
		t.Fatal("the ones are refused")
	}
	for _, name := range []string{"mirror", "turn", "whole", "thick", "beside"} {
		got, ok := viewCalls()[name](p)
		refusedView(t, name, got, ok)
	}
	thumbIs(t, "ones", p, make([]int, 1600))
	for _, h := range []int{1, 39, 40} {
		got, ok := impl.CropPic(p, 0, 40-h, 40, h)
		want, wantOk := plainCropPic(p, 0, 40-h, 40, h)
		if wantOk != (h < 40) {
			t.Fatal(h)
		}
		pictured(t, fmt.Sprint("cut to height ", h), got, ok, want, wantOk)
	}
	for _, k := range []int{0, 1, 61, 62, 63} {
		got, ok := impl.ThinPic(p, k)
		want, wantOk := plainThinPic(p, k)
		if wantOk != (k < 63) {
			t.Fatal(k)
		}
		pictured(t, fmt.Sprint("thinned at ", k), got, ok, want, wantOk)
	}
	left, right := onesPic(20, 40), onesPic(20, 40)
	for _, half := range []impl.Pic{left, right} {
		twice, ok := impl.CropPic(half, 0, 0, 20, 40)
		itself(t, "half", twice, ok, half)
	}
	both, ok := impl.BesidePic(left, right)
	refusedView(t, "two halves", both, ok)
	for i := range right.Blocks {
		right.Blocks[i].Ac[5] *= 3
	}
	right.Tables = wideTables()
	both, ok = impl.BesidePic(left, right)
	want, wantOk := plainBesidePic(left, right)
	if !wantOk {
		t.Fatal("other halves are refused")
	}
	pictured(t, "other halves", both, ok, want, wantOk)
}

func TestViewsOfEightBits(t *testing.T) {
	p := steepPic(t)
	for _, name := range []string{"mirror", "turn", "whole", "thick", "beside"} {
		got, ok := viewCalls()[name](p)
		refusedView(t, name, got, ok)
	}
	for _, name := range []string{"crop", "thin"} {
		if _, ok := viewCalls()[name](p); !ok {
			t.Errorf("%s is refused", name)
		}
	}
	thumbIs(t, "steep", p, make([]int, 1600))
}

// Transposed, they need more bits, and some too many.
func TestTurnedPicturesOfTooManyBits(t *testing.T) {
	for _, more := range []int{0, 700, 1000, 1120} {
		p := heavyPic(more)
		if n := impl.ScanCost(p.Tables, p.Blocks); n != 1600*293+10*more {
			t.Fatal(more, n)
		}
		got, ok := impl.TurnPic(p)
		want, wantOk := plainTurnPic(p)
		if wantOk != (more < 900) {
			t.Errorf("%d blocks: %v", more, wantOk)
		}
		pictured(t, fmt.Sprint("turned, ", more), got, ok, want, wantOk)
		if more == 1120 {
			mirrored, ok := impl.MirrorPic(p)
			want, wantOk = plainMirrorPic(p)
			pictured(t, "480000 bits mirrored", mirrored, ok, want, wantOk)
			if !ok {
				t.Error("480000 bits are refused")
			}
		}
	}
	got, ok := impl.CropPic(heavyPic(1121), 0, 0, 1, 1)
	refusedView(t, "480001 bits", got, ok)
}

// Each half is a picture, both beside each other have too many bits.
func TestHeavyHalves(t *testing.T) {
	half := impl.PicPlain(impl.Pic{W: 20, H: 40, Blocks: heavyPic(0).Blocks[:800]})
	for more := range 3 {
		for i := range half.Blocks {
			copy(half.Blocks[i].Ac[30:30+3*more], slices.Repeat([]int{300}, 3*more))
		}
		half = impl.PicPlain(half)
		both, ok := impl.BesidePic(half, half)
		want, wantOk := plainBesidePic(half, half)
		if !impl.PicOk(half) || wantOk != (more == 0) {
			t.Errorf("%d numbers more: %v, %v", 3*more, impl.PicOk(half), wantOk)
		}
		pictured(t, fmt.Sprint("halves with ", 3*more, " numbers more"), both, ok, want, wantOk)
	}
}

func TestViewsAreLeftAlone(t *testing.T) {
	countRoom := append(slices.Clone(wideTables().Ac.Counts), 71, 72)
	symRoom := append(slices.Clone(wideTables().Ac.Syms), 73, 74)
	acRoom := append(blockWith(4, 0, 3, 1, -2).Ac, 75, 76)
	n := len(symRoom) - 2
	codes := impl.Codes{Counts: countRoom[:16], Syms: symRoom[:n]}
	for _, size := range [][2]int{{2, 1}, {1, 2}, {2, 2}, {3, 1}} {
		blockRoom := []impl.Block{{Dc: 1, Ac: acRoom[:63]}, {Dc: 2, Ac: acRoom[:63]}, {Dc: 2, Ac: acRoom[:63]}, {Dc: 1, Ac: acRoom[:63]}, {Dc: 77}, {Dc: 78}}
		p := impl.Pic{W: size[0], H: size[1], Tables: impl.Tables{Dc: wideTables().Dc, Ac: codes}, Note: "kept", Blocks: blockRoom[:size[0]*size[1]]}
		wrong := p
		wrong.W = 40
		rooms := [][]int{countRoom, symRoom, acRoom}
		kept, keptBlocks := [][]int{}, slices.Clone(blockRoom)
		for _, room := range rooms {
			kept = append(kept, slices.Clone(room))
		}
		for _, x := range []impl.Pic{p, wrong} {
			for name, ask := range viewCalls() {
				got, ok := ask(x)
				if ok != (x.W != 40) {
					t.Errorf("%s of %v: %v", name, size, ok)
				}
				for _, list := range listsOfPic(got) {
					spoil(list)
				}
				clear(got.Blocks)
			}
			list, _ := impl.Thumb(x)
			spoil(list)
		}
		for _, b := range blockRoom {
			spoil(impl.Mirror(b).Ac)
			spoil(impl.Transpose(b).Ac)
			impl.Cell(b, 1, 1)
		}
		for i, room := range rooms {
			if !slices.Equal(room, kept[i]) {
				t.Errorf("list %d, or the room behind it, was written into", i)
			}
		}
		for i, b := range blockRoom {
			if b.Dc != keptBlocks[i].Dc || len(b.Ac) != len(keptBlocks[i].Ac) {
				t.Errorf("block %d was written into", i)
			}
		}
	}
}

func TestAnswersOfViewsAreNewMemory(t *testing.T) {
	p := numberedPic(4, 1)
	shared := blockWith(0, 0, 9, 5, -3).Ac
	p.Blocks[0].Ac, p.Blocks[2].Ac = shared, shared
	kept := clonePic(p)
	for name, ask := range viewCalls() {
		a, ok := ask(p)
		other, _ := ask(p)
		want := clonePic(other)
		if !ok || !samePic(a, want) {
			t.Fatalf("%s: %s", name, toldPic(a, ok))
		}
		lists := listsOfPic(a)
		for k := range lists {
			spoil(lists[k])
			for m := k + 1; m < len(lists); m++ {
				if !slices.Equal(lists[m], listsOfPic(want)[m]) {
					t.Errorf("lists %d and %d of %s share memory", k, m, name)
				}
			}
		}
		clear(a.Blocks)
		if again, _ := ask(p); !samePic(other, want) || !samePic(again, want) {
			t.Errorf("%s shares memory", name)
		}
	}
	thumb, _ := impl.Thumb(p)
	spoil(thumb)
	thumbIs(t, "spoilt", p, plainThumb(kept))
	cells := [64]int{5, 4, 3}
	b, _ := impl.FromCells(cells)
	spoil(b.Ac)
	if again, _ := impl.FromCells(cells); impl.Cell(again, 0, 1) != 4 || cells != [64]int{5, 4, 3} {
		t.Errorf("cells share memory: %v", again)
	}
	if !samePic(p, kept) {
		t.Error("an answer shares memory with an argument")
	}
}
