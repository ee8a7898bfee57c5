package tests

import (
	"fmt"
	"math"
	"slices"
	"strings"
	"testing"

	"loop.example/g00120/impl"
)

// blockWith gives a block whose numbers of Ac are 0 but for those that are told
// as pairs of place and number.
func blockWith(dc int, pairs ...int) impl.Block {
	ac := make([]int, 63)
	for i := 0; i < len(pairs); i += 2 {
		ac[pairs[i]] = pairs[i+1]
	}
	return impl.Block{Dc: dc, Ac: ac}
}

// fullBlock has no 0 among its numbers of Ac, and every size a coefficient has.
func fullBlock() impl.Block {
	b := blockWith(-1023)
	for i := range b.Ac {
		b.Ac[i] = (1<<(i%10+1) - 1) * (1 - 2*(i%2))
	}
	return b
}

// someBlocks has right blocks of many shapes.
func someBlocks() []impl.Block {
	list := []impl.Block{
		blockWith(0),
		blockWith(1023, 0, 1023, 62, -1023),
		blockWith(-1023, 0, -1023, 1, 1023),
		blockWith(7, 62, 1),
		blockWith(7, 61, 1),
		blockWith(-7, 0, 1),
		blockWith(5, 2, 3, 20, -4, 60, 9),
		fullBlock(),
	}
	for _, run := range []int{1, 14, 15, 16, 17, 30, 31, 32, 33, 47, 48, 49, 60, 61, 62} {
		list = append(list, blockWith(run, run, -run))
		if run < 62 {
			list = append(list, blockWith(-run, 0, 3, run+1, -run))
			list = append(list, blockWith(run, 61-run, 2, 62, 5))
		}
	}
	for i := range 100 {
		b := blockWith(i * 10)
		for k, bit := range someBits(63 * (i + 1))[63*i:] {
			if bit == 1 || i%3 == 0 && k%5 == 0 {
				b.Ac[k] = (k*k*31+i*977)%2047 - 1023
			}
			if i%4 != 0 && k%(i%4+5) != 0 {
				b.Ac[k] = 0
			}
		}
		list = append(list, b)
	}
	return list
}

type wrongBlock struct {
	name  string
	block impl.Block
}

func someWrongBlocks() []wrongBlock {
	list := []wrongBlock{
		{"nothing", impl.Block{}},
		{"62 numbers", impl.Block{Ac: make([]int, 62)}},
		{"64 numbers", impl.Block{Ac: make([]int, 64)}},
		{"62 numbers and room", impl.Block{Ac: make([]int, 62, 63)}},
		{"no numbers", impl.Block{Dc: 1, Ac: []int{}}},
	}
	for _, x := range []int{1024, -1024, 2047, math.MaxInt, math.MinInt} {
		list = append(list, wrongBlock{fmt.Sprint("Dc ", x), blockWith(x)})
		for _, k := range []int{0, 1, 31, 62} {
			list = append(list, wrongBlock{fmt.Sprint("Ac ", x, " at ", k), blockWith(0, k, x)})
		}
	}
	return list
}

// plainSize looks for the least n by the words of the document.
func plainSize(x int) int {
	for n := range 12 {
		if -(1<<n-1) <= x && x <= 1<<n-1 {
			return n
		}
	}
	return -1
}

// plainRest spells the bits out.
func plainRest(x int) []int {
	n := plainSize(x)
	if n < 1 {
		return []int{}
	}
	if x < 0 {
		x = x + 1<<n - 1
	}
	return bitsOf(fmt.Sprintf("%0*b", n, x))
}

// plainSteps writes zeros as a text and counts them there.
func plainSteps(ac []int) []impl.Step {
	steps := []impl.Step{}
	zeros := ""
	for _, x := range ac {
		if x == 0 {
			zeros += "0"
			continue
		}
		for strings.HasPrefix(zeros, "0000000000000000") {
			steps = append(steps, impl.Step{Run: 15})
			zeros = zeros[16:]
		}
		steps = append(steps, impl.Step{Run: len(zeros), Size: plainSize(x), Bits: plainRest(x)})
		zeros = ""
	}
	if zeros != "" {
		steps = append(steps, impl.Step{})
	}
	return steps
}

// plainFromSteps reads what it can, and takes it only if it is written so.
func plainFromSteps(list []impl.Step) ([]int, bool) {
	ac := []int{}
	for _, s := range list {
		if s.Run < 0 || s.Run > 15 || len(ac) > 63 {
			return nil, false
		}
		if s.Run != 0 || s.Size != 0 {
			ac = append(ac, make([]int, s.Run+1)...)
		}
		for x := -1023; x <= 1023; x++ {
			if x != 0 && plainSize(x) == s.Size && slices.Equal(plainRest(x), s.Bits) {
				ac[len(ac)-1] = x
			}
		}
	}
	if len(ac) > 63 {
		return nil, false
	}
	ac = append(ac, make([]int, 63-len(ac))...)
	return ac, sameSteps(plainSteps(ac), list)
}

func sameStep(a impl.Step, b impl.Step) bool {
	return a.Run == b.Run && a.Size == b.Size && slices.Equal(a.Bits, b.Bits)
}

func sameSteps(a []impl.Step, b []impl.Step) bool {
	return slices.EqualFunc(a, b, sameStep)
}

func sameBlock(a impl.Block, b impl.Block) bool {
	return a.Dc == b.Dc && slices.Equal(a.Ac, b.Ac)
}

func cloneSteps(list []impl.Step) []impl.Step {
	list = slices.Clone(list)
	for i := range list {
		list[i].Bits = slices.Clone(list[i].Bits)
	}
	return list
}

func TestBlockOk(t *testing.T) {
	for _, b := range someBlocks() {
		if !impl.BlockOk(b) {
			t.Errorf("not right: %v", b)
		}
	}
	for _, x := range []int{1023, -1023, 1022, 0} {
		for k := range 63 {
			if !impl.BlockOk(blockWith(x, k, x)) {
				t.Errorf("%d is refused at %d", x, k)
			}
		}
	}
	for k := range 63 {
		if impl.BlockOk(blockWith(0, k, 1024)) || impl.BlockOk(blockWith(0, k, -1024)) {
			t.Errorf("1024 is taken at %d", k)
		}
	}
	for _, w := range someWrongBlocks() {
		if impl.BlockOk(w.block) {
			t.Errorf("right: %s", w.name)
		}
	}
}

func TestZigzagGoesToAndFro(t *testing.T) {
	row, col := 0, 0
	up := true
	for k := range 64 {
		if r, c := impl.Zigzag(k); r != row || c != col {
			t.Fatalf("number %d is at %d, %d, not at %d, %d", k, r, c, row, col)
		}
		switch {
		case up && col == 7:
			row, up = row+1, false
		case up && row == 0:
			col, up = col+1, false
		case up:
			row, col = row-1, col+1
		case row == 7:
			col, up = col+1, true
		case col == 0:
			row, up = row+1, true
		default:
			row, col = row+1, col-1
		}
	}
}

func TestZigzagComesToEveryPlaceOnce(t *testing.T) {
	seen := map[[2]int]int{}
	for k := range 64 {
		row, col := impl.Zigzag(k)
		if row < 0 || row > 7 || col < 0 || col > 7 {
			t.Errorf("number %d is at %d, %d", k, row, col)
		}
		seen[[2]int{row, col}]++
		// The other half of the way mirrors the first one.
		if r, c := impl.Zigzag(63 - k); r != 7-row || c != 7-col {
			t.Errorf("number %d is at %d, %d", 63-k, r, c)
		}
	}
	if len(seen) != 64 {
		t.Errorf("the way comes to %d places", len(seen))
	}
	for _, k := range []int{-1, 64, 65, -64, math.MinInt, math.MaxInt} {
		if row, col := impl.Zigzag(k); row != -1 || col != -1 {
			t.Errorf("number %d is at %d, %d", k, row, col)
		}
	}
}

func TestSize(t *testing.T) {
	for _, w := range [][2]int{
		{0, 0}, {1, 1}, {-1, 1}, {2, 2}, {-2, 2}, {3, 2}, {-3, 2}, {4, 3}, {-4, 3},
		{1023, 10}, {-1023, 10}, {1024, 11}, {-1024, 11}, {2047, 11}, {-2047, 11},
		{2048, -1}, {-2048, -1}, {math.MaxInt, -1}, {math.MinInt, -1}, {math.MinInt + 1, -1},
	} {
		if got := impl.Size(w[0]); got != w[1] {
			t.Errorf("size of %d is %d", w[0], got)
		}
	}
	for x := -2100; x <= 2100; x++ {
		if got := impl.Size(x); got != plainSize(x) {
			t.Errorf("size of %d is %d", x, got)
		}
	}
}

func TestRest(t *testing.T) {
	for _, w := range []struct {
		x    int
		want string
	}{
		{0, ""}, {1, "1"}, {-1, "0"}, {2, "10"}, {-2, "01"}, {3, "11"}, {-3, "00"}, {5, "101"}, {-5, "010"},
		{1023, "1111111111"}, {-1023, "0000000000"}, {1024, "10000000000"}, {-1024, "01111111111"},
		{2047, "11111111111"}, {-2047, "00000000000"},
		{2048, ""}, {-2048, ""}, {math.MaxInt, ""}, {math.MinInt, ""},
	} {
		if got := spelt(impl.Rest(w.x)); got != w.want {
			t.Errorf("rest of %d is %q", w.x, got)
		}
	}
}

func TestNumbersComeBackFromSizeAndRest(t *testing.T) {
	for x := -2047; x <= 2047; x++ {
		n, rest := impl.Size(x), impl.Rest(x)
		if len(rest) != n || !slices.Equal(rest, plainRest(x)) {
			t.Fatalf("rest of %d is %v", x, rest)
		}
		if back, ok := impl.FromRest(n, rest); !ok || back != x {
			t.Fatalf("%d comes back as %d", x, back)
		}
		for _, other := range []int{-1, n - 1, n + 1, 2 * n, 12, math.MinInt, math.MaxInt} {
			if other == n {
				continue
			}
			if back, ok := impl.FromRest(other, rest); ok || back != 0 {
				t.Fatalf("%v of size %d are %d", rest, other, back)
			}
		}
	}
}

// Every n bits are the rest of one number of that size.
func TestFromRestOfAllBits(t *testing.T) {
	for n := range 12 {
		for x := range 1 << n {
			bits := impl.NumBits(x, n)
			back, ok := impl.FromRest(n, bits)
			if !ok || impl.Size(back) != n || !slices.Equal(impl.Rest(back), bits) {
				t.Fatalf("%v are %d", bits, back)
			}
		}
	}
}

func TestFromRestRefuses(t *testing.T) {
	for _, none := range [][]int{nil, {}} {
		if x, ok := impl.FromRest(0, none); !ok || x != 0 {
			t.Errorf("no bits are %d", x)
		}
	}
	for _, n := range []int{-1, 12, 13, 32, 33, 64, math.MinInt, math.MaxInt} {
		for _, bits := range [][]int{nil, {1}, make([]int, 12), make([]int, 13), make([]int, 32), make([]int, 33), make([]int, 64)} {
			if x, ok := impl.FromRest(n, bits); ok || x != 0 {
				t.Errorf("%d bits of size %d are %d", len(bits), n, x)
			}
		}
	}
	for n := range 12 {
		for _, count := range []int{n - 1, n + 1, n + 32, 2*n + 1} {
			if count < 0 {
				continue
			}
			if x, ok := impl.FromRest(n, slices.Repeat([]int{1}, count)); ok || x != 0 {
				t.Errorf("%d bits of size %d are %d", count, n, x)
			}
		}
		for at := range n {
			for _, x := range noBits {
				if got, ok := impl.FromRest(n, bitsWith(n, at, x)); ok || got != 0 {
					t.Errorf("%d at %d of %d bits", x, at, n)
				}
			}
		}
	}
}

// end and skip are the steps that have no number.
func end() impl.Step  { return impl.Step{} }
func skip() impl.Step { return impl.Step{Run: 15} }

func number(run int, x int) impl.Step {
	return impl.Step{Run: run, Size: plainSize(x), Bits: plainRest(x)}
}

func TestSteps(t *testing.T) {
	for i, w := range []struct {
		block impl.Block
		want  []impl.Step
	}{
		{blockWith(9), []impl.Step{end()}},
		{blockWith(9, 0, 1), []impl.Step{number(0, 1), end()}},
		{blockWith(9, 0, 1, 1, -1), []impl.Step{number(0, 1), number(0, -1), end()}},
		{blockWith(9, 14, 1023), []impl.Step{number(14, 1023), end()}},
		{blockWith(9, 15, -1023), []impl.Step{number(15, -1023), end()}},
		{blockWith(9, 16, 2), []impl.Step{skip(), number(0, 2), end()}},
		{blockWith(9, 17, 2), []impl.Step{skip(), number(1, 2), end()}},
		{blockWith(9, 31, 2), []impl.Step{skip(), number(15, 2), end()}},
		{blockWith(9, 32, 2), []impl.Step{skip(), skip(), number(0, 2), end()}},
		{blockWith(9, 48, 2), []impl.Step{skip(), skip(), skip(), number(0, 2), end()}},
		{blockWith(9, 61, 2), []impl.Step{skip(), skip(), skip(), number(13, 2), end()}},
		{blockWith(9, 62, 2), []impl.Step{skip(), skip(), skip(), number(14, 2)}},
		{blockWith(9, 0, 5, 16, 2), []impl.Step{number(0, 5), number(15, 2), end()}},
		{blockWith(9, 0, 5, 17, 2), []impl.Step{number(0, 5), skip(), number(0, 2), end()}},
		{blockWith(9, 0, 5, 18, 2), []impl.Step{number(0, 5), skip(), number(1, 2), end()}},
		{blockWith(9, 13, 5, 62, 2), []impl.Step{number(13, 5), skip(), skip(), skip(), number(0, 2)}},
	} {
		if got := impl.Steps(w.block); !sameSteps(got, w.want) {
			t.Errorf("block %d: %v", i, got)
		}
	}
	for _, w := range someWrongBlocks() {
		if got := impl.Steps(w.block); len(got) != 0 {
			t.Errorf("%s: %v", w.name, got)
		}
	}
}

func TestStepsOfAFullBlock(t *testing.T) {
	b := fullBlock()
	steps := impl.Steps(b)
	if len(steps) != 63 {
		t.Fatalf("63 numbers are %d steps", len(steps))
	}
	for i, s := range steps {
		if !sameStep(s, number(0, b.Ac[i])) {
			t.Errorf("step %d is %v", i, s)
		}
	}
}

func TestBlocksComeBackFromSteps(t *testing.T) {
	for _, b := range someBlocks() {
		steps := impl.Steps(b)
		if !sameSteps(steps, plainSteps(b.Ac)) {
			t.Fatalf("steps of %v are %v", b, steps)
		}
		if back, ok := impl.FromSteps(b.Dc, steps); !ok || !sameBlock(back, b) {
			t.Fatalf("%v comes back as %v", b, back)
		}
	}
	for run := range 63 {
		for from := range 63 - run {
			b := blockWith(run, from+run, 1)
			if from > 0 {
				b.Ac[from-1] = -1
			}
			if back, ok := impl.FromSteps(run, impl.Steps(b)); !ok || !sameBlock(back, b) {
				t.Fatalf("%d zeros behind %d: %v", run, from, back)
			}
		}
	}
}

func TestFromStepsDc(t *testing.T) {
	for _, dc := range []int{0, 1023, -1023} {
		if b, ok := impl.FromSteps(dc, []impl.Step{end()}); !ok || !sameBlock(b, blockWith(dc)) {
			t.Errorf("Dc %d: %v", dc, b)
		}
	}
	for _, dc := range []int{1024, -1024, math.MaxInt, math.MinInt} {
		if b, ok := impl.FromSteps(dc, []impl.Step{end()}); ok || b.Dc != 0 || b.Ac != nil {
			t.Errorf("Dc %d: %v", dc, b)
		}
	}
}

func TestStepsThatNoBlockHas(t *testing.T) {
	one := []int{1}
	full := impl.Steps(fullBlock())
	for i, list := range [][]impl.Step{
		nil,
		{},
		{number(0, 1)},
		{skip()},
		{skip(), end()},
		{skip(), skip(), skip()},
		{skip(), skip(), skip(), end()},
		{skip(), skip(), skip(), skip()},
		{skip(), skip(), skip(), skip(), number(0, 1)},
		{number(0, 1), skip(), end()},
		{skip(), number(0, 1), skip(), end()},
		{skip(), skip(), skip(), number(14, 1), end()},
		{skip(), skip(), skip(), number(15, 1)},
		{skip(), skip(), skip(), number(15, 1), end()},
		{skip(), skip(), skip(), number(13, 1)},
		{skip(), skip(), number(14, 1), skip()},
		{skip(), skip(), number(14, 1), skip(), end()},
		{end(), end()},
		{end(), number(0, 1)},
		{end(), skip()},
		{number(0, 1), end(), number(0, 1), end()},
		{number(16, 1), end()},
		{number(20, 1), end()},
		{{Run: 16}, number(0, 1), end()},
		{{Run: 15}, {Run: 0}},
		{{Run: 1}, end()},
		{{Run: 14}, number(0, 1), end()},
		{{Run: 5}},
		{{Run: 62}},
		{{Run: 63}},
		{{Run: -1}, end()},
		{{Run: -1, Size: 1, Bits: one}, end()},
		{number(0, 2), {Run: -1, Size: 1, Bits: one}, end()},
		{{Run: math.MinInt, Size: 1, Bits: one}, end()},
		{{Run: math.MaxInt, Size: 1, Bits: one}, end()},
		{{Run: math.MaxInt}, end()},
		{{Size: -1}, end()},
		{{Size: math.MinInt}, end()},
		{{Size: math.MaxInt}, end()},
		{{Size: 0, Bits: one}, end()},
		{{Run: 15, Bits: one}, number(0, 1), end()},
		{{Bits: one}},
		{number(0, 1), {Bits: []int{0}}},
		{{Size: 1}, end()},
		{{Size: 1, Bits: []int{1, 1}}, end()},
		{{Size: 2, Bits: one}, end()},
		{{Size: 1, Bits: []int{2}}, end()},
		{{Size: 1, Bits: []int{-1}}, end()},
		{{Size: 3, Bits: []int{1, 0, 7}}, end()},
		{number(0, 1024), end()},
		{number(0, -1024), end()},
		{number(0, 2047), end()},
		{{Size: 11, Bits: slices.Repeat(one, 10)}, end()},
		{{Size: 12, Bits: slices.Repeat(one, 12)}, end()},
		full[:62],
		slices.Concat(full, []impl.Step{end()}),
		slices.Concat(full, []impl.Step{number(0, 1)}),
		slices.Concat(full[:62], []impl.Step{number(1, 1)}),
		slices.Concat(full[:47], []impl.Step{skip()}),
		slices.Concat(full[:47], []impl.Step{skip(), end()}),
		slices.Concat(full[:46], []impl.Step{skip(), end()}),
		slices.Repeat([]impl.Step{number(0, 1)}, 5000),
		slices.Repeat([]impl.Step{skip()}, 5000),
		slices.Repeat([]impl.Step{end()}, 5000),
	} {
		if b, ok := impl.FromSteps(3, list); ok || b.Dc != 0 || b.Ac != nil {
			t.Errorf("list %d: %v is %v", i, list, b)
		}
	}
}

// changed gives lists that differ little from one that a block has.
func changed(list []impl.Step) [][]impl.Step {
	odd := []impl.Step{end(), skip(), number(0, 1), number(15, -3), number(3, 1023), number(0, 1024), {Run: 4}, {Run: 16}}
	lists := [][]impl.Step{}
	for i := range len(list) + 1 {
		for _, s := range odd {
			lists = append(lists, slices.Insert(cloneSteps(list), i, s))
		}
		if i == len(list) {
			break
		}
		lists = append(lists, slices.Delete(cloneSteps(list), i, i+1), list[:i])
		for _, change := range []func(*impl.Step){
			func(s *impl.Step) { s.Run++ },
			func(s *impl.Step) { s.Run-- },
			func(s *impl.Step) { s.Run = 15 },
			func(s *impl.Step) { s.Run = 0 },
			func(s *impl.Step) { s.Size++ },
			func(s *impl.Step) { s.Size-- },
			func(s *impl.Step) { s.Size, s.Bits = 0, nil },
			func(s *impl.Step) { s.Size, s.Bits = s.Size+1, append(s.Bits, 1) },
			func(s *impl.Step) { s.Bits = append(s.Bits, 0) },
			func(s *impl.Step) { s.Bits = s.Bits[:max(0, len(s.Bits)-1)] },
		} {
			next := cloneSteps(list)
			change(&next[i])
			lists = append(lists, next)
		}
	}
	return lists
}

func TestFromStepsOfChangedLists(t *testing.T) {
	taken, refused := 0, 0
	for _, b := range someBlocks()[:40] {
		if b.Ac[0] != 0 && b.Ac[1] != 0 && b.Ac[2] != 0 {
			continue
		}
		for _, list := range changed(impl.Steps(b)) {
			ac, want := plainFromSteps(list)
			got, ok := impl.FromSteps(-4, list)
			if ok != want || ok && !sameBlock(got, impl.Block{Dc: -4, Ac: ac}) || !ok && (got.Dc != 0 || got.Ac != nil) {
				t.Fatalf("%v is %v, %v", list, got, ok)
			}
			if ok {
				taken++
			} else {
				refused++
			}
		}
	}
	if taken < 100 || refused < 100 {
		t.Errorf("%d taken, %d refused", taken, refused)
	}
}

func TestShift(t *testing.T) {
	list := []impl.Block{blockWith(5), blockWith(3, 4, 1), blockWith(-1023), blockWith(1023), blockWith(1023), blockWith(-1023)}
	if got, ok := impl.Shift(list, true); !ok || !slices.Equal(got, []int{5, -2, -1026, 2046, 0, -2046}) {
		t.Errorf("with up: %v", got)
	}
	if got, ok := impl.Shift(list, false); !ok || !slices.Equal(got, []int{5, 3, -1023, 1023, 1023, -1023}) {
		t.Errorf("without: %v", got)
	}
	for _, up := range []bool{true, false} {
		for _, dc := range []int{0, 1, -1, 1023, -1023} {
			if got, ok := impl.Shift([]impl.Block{blockWith(dc)}, up); !ok || !slices.Equal(got, []int{dc}) {
				t.Errorf("one block: %v", got)
			}
		}
		for _, none := range [][]impl.Block{nil, {}} {
			if got, ok := impl.Shift(none, up); !ok || len(got) != 0 {
				t.Errorf("no block: %v, %v", got, ok)
			}
		}
	}
}

func TestDifferencesAddUp(t *testing.T) {
	list := someBlocks()
	plain, ok := impl.Shift(list, false)
	steps, also := impl.Shift(list, true)
	if !ok || !also || len(plain) != len(list) || len(steps) != len(list) {
		t.Fatalf("%d blocks give %d and %d numbers", len(list), len(plain), len(steps))
	}
	sum := 0
	for i, b := range list {
		sum += steps[i]
		if plain[i] != b.Dc || sum != b.Dc {
			t.Errorf("block %d has %d, %d, not %d", i, plain[i], sum, b.Dc)
		}
		if impl.Size(steps[i]) < 0 {
			t.Errorf("difference %d has no size", steps[i])
		}
	}
}

func TestShiftRefuses(t *testing.T) {
	many := slices.Repeat([]impl.Block{blockWith(3)}, 4001)
	for _, up := range []bool{true, false} {
		if got, ok := impl.Shift(many[:4000], up); !ok || len(got) != 4000 {
			t.Errorf("4000 blocks give %d numbers", len(got))
		}
		if got, ok := impl.Shift(many, up); ok || len(got) != 0 {
			t.Errorf("4001 blocks give %d numbers", len(got))
		}
		for _, w := range someWrongBlocks() {
			for at := range 3 {
				list := []impl.Block{blockWith(1), blockWith(2), blockWith(3)}
				list[at] = w.block
				if got, ok := impl.Shift(list, up); ok || len(got) != 0 {
					t.Errorf("%s: %v", w.name, got)
				}
			}
		}
	}
}

func TestBlocksAreLeftAlone(t *testing.T) {
	room := append(blockWith(4, 3, -9, 40, 1023).Ac, 71, 72)
	bitRoom := []int{1, 0, 1, 73, 74}
	stepRoom := []impl.Step{{Run: 2, Size: 3, Bits: bitRoom[:3]}, {}, {Run: 75}, {Run: 76}}
	blockRoom := []impl.Block{{Dc: 4, Ac: room[:63]}, {Dc: 5, Ac: room[:63]}, {Dc: 77}, {Dc: 78}}
	keptRoom, keptBits := slices.Clone(room), slices.Clone(bitRoom)
	keptSteps := cloneSteps(stepRoom)
	b := blockRoom[0]
	impl.BlockOk(b)
	impl.Steps(b)
	impl.FromRest(3, bitRoom[:3])
	if _, ok := impl.FromSteps(1, stepRoom[:2]); !ok {
		t.Error("the steps are refused")
	}
	impl.Shift(blockRoom[:2], true)
	impl.Shift(blockRoom[:2], false)
	if !slices.Equal(room, keptRoom) || !slices.Equal(bitRoom, keptBits) || !sameSteps(stepRoom, keptSteps) {
		t.Error("an argument, or the room behind it, was written into")
	}
	for i, dc := range []int{4, 5, 77, 78} {
		if blockRoom[i].Dc != dc || i < 2 && &blockRoom[i].Ac[0] != &room[0] || i > 1 && blockRoom[i].Ac != nil {
			t.Errorf("block %d was written into", i)
		}
	}
}

func TestAnswersOfBlocksAreNewMemory(t *testing.T) {
	b := blockWith(4, 3, -9, 40, 1023, 41, 5)
	steps := impl.Steps(b)
	for i, ask := range []func() [][]int{
		func() [][]int { return [][]int{impl.Rest(-77)} },
		func() [][]int {
			lists := [][]int{}
			for _, s := range impl.Steps(b) {
				lists = append(lists, s.Bits)
			}
			return lists
		},
		func() [][]int { back, _ := impl.FromSteps(4, steps); return [][]int{back.Ac} },
		func() [][]int { told, _ := impl.Shift([]impl.Block{b, b}, true); return [][]int{told} },
		func() [][]int { told, _ := impl.Shift([]impl.Block{b, b}, false); return [][]int{told} },
	} {
		a, c, kept := ask(), ask(), ask()
		for k := range a {
			spoil(a[k])
			if !slices.Equal(c[k], kept[k]) || !slices.Equal(ask()[k], kept[k]) {
				t.Errorf("answer %d shares memory", i)
			}
			if k+1 < len(a) && !slices.Equal(a[k+1], kept[k+1]) {
				t.Errorf("two lists of answer %d share memory", i)
			}
		}
	}
	if !sameBlock(b, blockWith(4, 3, -9, 40, 1023, 41, 5)) || !sameSteps(steps, plainSteps(b.Ac)) {
		t.Error("an answer shares memory with an argument")
	}
}
