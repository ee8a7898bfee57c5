package tests

import (
	"fmt"
	"math"
	"slices"
	"strconv"
	"strings"
	"testing"

	"loop.example/g00120/impl"
)

// edgeNums has the ends of every size, on both sides of 0.
func edgeNums() []int {
	list := []int{0}
	for n := 1; n <= 11; n++ {
		for _, x := range []int{1 << (n - 1), 1<<(n-1) + 1<<(n-1)/3, 1<<n - 1} {
			if !slices.Contains(list, x) {
				list = append(list, x, -x)
			}
		}
	}
	return list
}

// noNums are such that some look like numbers when their high parts are cut off.
var noNums = []int{2048, -2048, 2049, -2049, 4095, 4096, -4096, 65536, 1 << 32, 1<<32 + 1, -1 << 32, math.MinInt, math.MinInt + 1, math.MaxInt}

// plainPlan gives the decisions of a number as digits, and their slots.
func plainPlan(x int) (string, []int) {
	if x == 0 {
		return "1", []int{0}
	}
	amount, sign := strconv.FormatInt(int64(x), 2), "0"
	if x < 0 {
		amount, sign = amount[1:], "1"
	}
	digits, slots := "0"+sign, []int{0, 1}
	n := len(amount)
	for k := 1; k <= 10; k++ {
		slots = append(slots, 1+k)
		if n <= k {
			digits += "0"
			break
		}
		digits += "1"
	}
	for i := range n - 1 {
		slots = append(slots, 12+i)
	}
	return digits + amount[1:], slots
}

// plainRows has all rows of decisions: those that are a number's, and those that
// lack some, with the slot of the next one.
func plainRows() (map[string]int, map[string]int) {
	whole, open := map[string]int{}, map[string]int{}
	for x := -2047; x <= 2047; x++ {
		digits, slots := plainPlan(x)
		whole[digits] = x
		for i, slot := range slots {
			open[digits[:i]] = slot
		}
	}
	return whole, open
}

func plainLearn(p int, bit int) int {
	if bit == 1 {
		return p + (4096-p)/16
	}
	return p - p/16
}

func cloneModel(m impl.Model) impl.Model {
	return impl.Model{Chances: slices.Clone(m.Chances)}
}

func sameModel(a impl.Model, b impl.Model) bool {
	return slices.Equal(a.Chances, b.Chances)
}

func modelOf(n int, p int) impl.Model {
	return impl.Model{Chances: slices.Repeat([]int{p}, n)}
}

func plainModelOk(m impl.Model) bool {
	return len(m.Chances) <= 1200 && !slices.ContainsFunc(m.Chances, func(p int) bool { return p < 1 || p > 4095 })
}

func plainModelPut(c impl.Coder, m impl.Model, base int, x int) (impl.Coder, impl.Model, bool) {
	if !plainModelOk(m) || base < 0 || base > len(m.Chances)-24 || x < -2047 || x > 2047 || len(c.Out) > 59800 {
		return c, m, false
	}
	m = cloneModel(m)
	digits, slots := plainPlan(x)
	for i, slot := range slots {
		bit := int(digits[i] - '0')
		c = plainPut(c, bit, m.Chances[base+slot])
		m.Chances[base+slot] = plainLearn(m.Chances[base+slot], bit)
	}
	return c, m, true
}

// plainModelGet tells beside its answer how many decisions were read.
func plainModelGet(r impl.Reader, m impl.Model, base int, whole map[string]int, open map[string]int) (impl.Reader, impl.Model, int, bool, int) {
	if !plainModelOk(m) || base < 0 || base > len(m.Chances)-24 {
		return r, m, 0, false, 0
	}
	first, after, row := r, cloneModel(m), ""
	for {
		if x, ok := whole[row]; ok {
			return r, after, x, true, len(row)
		}
		at, bit := base+open[row], 0
		if r, bit = plainGet(r, after.Chances[at]); bit < 0 {
			return first, m, 0, false, len(row)
		}
		after.Chances[at] = plainLearn(after.Chances[at], bit)
		row += strconv.Itoa(bit)
	}
}

// putAs holds ModelPut against the plain one, with what was handed in left alone.
func putAs(t *testing.T, name string, c impl.Coder, m impl.Model, base int, x int) (impl.Coder, impl.Model, bool) {
	t.Helper()
	kept := cloneModel(m)
	got, after, ok := impl.ModelPut(c, m, base, x)
	want, wantAfter, wantOk := plainModelPut(c, m, base, x)
	if got != want || !sameModel(after, wantAfter) || ok != wantOk {
		t.Fatalf("%s: ModelPut of %d at %d: %x %x and %d bytes, %v", name, x, base, got.Low, got.High, len(got.Out), ok)
	}
	if !sameModel(m, kept) {
		t.Fatalf("%s: ModelPut of %d at %d changes its model", name, x, base)
	}
	return got, after, ok
}

func notPut(t *testing.T, name string, c impl.Coder, m impl.Model, base int, x int) {
	t.Helper()
	got, after, ok := putAs(t, name, c, m, base, x)
	if ok || got != c || !sameModel(after, m) {
		t.Errorf("%s: put", name)
	}
}

func notGot(t *testing.T, name string, r impl.Reader, m impl.Model, base int) {
	t.Helper()
	kept := cloneModel(m)
	got, after, x, ok := impl.ModelGet(r, m, base)
	if ok || x != 0 || got != r || !sameModel(after, kept) {
		t.Errorf("%s: ModelGet = %x, %d, %v", name, got, x, ok)
	}
	if !sameModel(m, kept) {
		t.Errorf("%s: the model is changed", name)
	}
}

func TestNumPlanSpeltOut(t *testing.T) {
	for _, c := range []struct {
		x    int
		want string
	}{
		{0, "1"},
		{1, "000"},
		{-1, "010"},
		{2, "00100"},
		{3, "00101"},
		{-2, "01100"},
		{-3, "01101"},
		{4, "0011000"},
		{-5, "0111001"},
		{7, "0011011"},
		{100, "00" + "1111110" + "100100"},
		{511, "00" + "111111110" + "11111111"},
		{512, "00" + "1111111110" + "000000000"},
		{1023, "00" + "1111111110" + "111111111"},
		{-1023, "01" + "1111111110" + "111111111"},
		{1024, "00" + "1111111111" + "0000000000"},
		{-1024, "01" + "1111111111" + "0000000000"},
		{1365, "00" + "1111111111" + "0101010101"},
		{2046, "00" + "1111111111" + "1111111110"},
		{2047, "00" + "1111111111" + "1111111111"},
		{-2047, "01" + "1111111111" + "1111111111"},
	} {
		if got := spelt(impl.NumPlan(c.x)); got != c.want {
			t.Errorf("NumPlan(%d) = %s, not %s", c.x, got, c.want)
		}
		if x, ok := impl.PlanNum(bitsOf(c.want)); !ok || x != c.x {
			t.Errorf("PlanNum(%s) = %d, %v", c.want, x, ok)
		}
	}
}

func TestNumPlanRefuses(t *testing.T) {
	for _, x := range noNums {
		if plan := impl.NumPlan(x); len(plan) != 0 {
			t.Errorf("NumPlan(%d) = %v", x, plan)
		}
	}
}

func TestNextSlotSpeltOut(t *testing.T) {
	for _, c := range []struct {
		row  string
		want int
	}{
		{"", 0},
		{"1", -1}, {"0", 1},
		{"00", 2}, {"01", 2}, {"10", -1}, {"11", -1},
		{"000", -1}, {"010", -1}, {"001", 3}, {"011", 3},
		{"0000", -1}, {"0001", -1}, {"0010", 12}, {"0011", 4},
		{"00100", -1}, {"00101", -1}, {"00110", 12},
		{"001100", 13}, {"0011000", -1}, {"00110000", -1},
		{"00111111111", 11}, {"0011111111", 10},
		{"001111111110", 12}, {"001111111111", 12},
		{"001111111110" + "11111111", 20}, {"001111111110" + "111111111", -1},
		{"001111111111" + "111111111", 21}, {"011111111111" + "000000000", 21},
		{"001111111111" + "1111111111", -1}, {"001111111111" + "11111111111", -1},
	} {
		if got := impl.NextSlot(bitsOf(c.row)); got != c.want {
			t.Errorf("NextSlot(%s) = %d, not %d", c.row, got, c.want)
		}
	}
	if impl.NextSlot(nil) != 0 {
		t.Error("nil")
	}
	if x, ok := impl.PlanNum(nil); ok || x != 0 {
		t.Error("nil is a number's")
	}
}

// rowAs holds a row of bits against those that the document names.
func rowAs(t *testing.T, row string, whole map[string]int, open map[string]int) {
	t.Helper()
	slot, isOpen := open[row]
	if !isOpen {
		slot = -1
	}
	if got := impl.NextSlot(bitsOf(row)); got != slot {
		t.Fatalf("NextSlot(%s) = %d, not %d", row, got, slot)
	}
	want, isWhole := whole[row]
	if x, ok := impl.PlanNum(bitsOf(row)); x != want || ok != isWhole {
		t.Fatalf("PlanNum(%s) = %d, %v", row, x, ok)
	}
}

func TestNumbersComeBackFromDecisions(t *testing.T) {
	whole, open := plainRows()
	if len(whole) != 4095 {
		t.Fatal("two numbers have the same plain plan")
	}
	for x := -2047; x <= 2047; x++ {
		plan := impl.NumPlan(x)
		digits, _ := plainPlan(x)
		if spelt(plan) != digits {
			t.Fatalf("NumPlan(%d) = %v, not %s", x, plan, digits)
		}
		if back, ok := impl.PlanNum(plan); !ok || back != x {
			t.Fatalf("%d comes back as %d, %v", x, back, ok)
		}
		for i := range digits {
			rowAs(t, digits[:i], whole, open)
		}
		for _, more := range []string{"", "0", "1", "00", "11", digits, strings.Repeat("1", 30)} {
			rowAs(t, digits+more, whole, open)
		}
	}
}

func TestEverySizeEndsInItsOwnWay(t *testing.T) {
	for n := 1; n <= 11; n++ {
		row := "00" + strings.Repeat("1", n-1)
		if n < 11 {
			if got := impl.NextSlot(bitsOf(row)); got != 1+n {
				t.Errorf("ahead of the end of size %d: slot %d", n, got)
			}
			row += "0"
		}
		for i := range n - 1 {
			if got := impl.NextSlot(bitsOf(row)); got != 12+i {
				t.Errorf("size %d, bit %d: slot %d", n, i, got)
			}
			row += "1"
		}
		if x, ok := impl.PlanNum(bitsOf(row)); !ok || x != 1<<n-1 || impl.NextSlot(bitsOf(row)) != -1 {
			t.Errorf("size %d: %d, %v", n, x, ok)
		}
		if x, ok := impl.PlanNum(bitsOf(row[:len(row)-1])); ok || x != 0 {
			t.Errorf("size %d, one short: %d, %v", n, x, ok)
		}
		if x, ok := impl.PlanNum(bitsOf(row + "0")); ok || x != 0 {
			t.Errorf("size %d, one longer: %d, %v", n, x, ok)
		}
	}
}

func TestRowsOfAnyBits(t *testing.T) {
	whole, open := plainRows()
	for n := range 15 {
		for _, row := range textsOf("01", n) {
			rowAs(t, row, whole, open)
		}
	}
	for _, x := range edgeNums() {
		digits, _ := plainPlan(x)
		for i := range digits {
			other := "0"
			if digits[i] == '0' {
				other = "1"
			}
			rowAs(t, digits[:i]+other+digits[i+1:], whole, open)
			rowAs(t, digits[:i]+digits[i+1:], whole, open)
			rowAs(t, digits[:i]+other+digits[i:], whole, open)
		}
	}
	long := slices.Repeat([]int{1}, impl.MaxBits+1)
	if x, ok := impl.PlanNum(long); ok || x != 0 || impl.NextSlot(long) != -1 {
		t.Error("a long row of 1")
	}
	clear(long)
	if x, ok := impl.PlanNum(long); ok || x != 0 || impl.NextSlot(long) != -1 {
		t.Error("a long row of 0")
	}
}

func TestDecisionsThatAreNoBits(t *testing.T) {
	for _, x := range edgeNums() {
		plan := impl.NumPlan(x)
		for i := range len(plan) + 1 {
			for _, wrong := range noBits {
				rows := [][]int{append(slices.Clone(plan[:i]), wrong)}
				if i < len(plan) {
					changed := slices.Clone(plan)
					changed[i] = wrong
					rows = append(rows, changed)
				}
				for _, row := range rows {
					if got := impl.NextSlot(row); got != -1 {
						t.Errorf("NextSlot(%v) = %d", row, got)
					}
					if got, ok := impl.PlanNum(row); ok || got != 0 {
						t.Errorf("PlanNum(%v) = %d, %v", row, got, ok)
					}
				}
			}
		}
	}
}

func TestModelOk(t *testing.T) {
	for _, n := range []int{0, 1, 23, 24, 25, 1199, 1200} {
		for _, p := range someChances {
			if !impl.ModelOk(modelOf(n, p)) {
				t.Errorf("%d chances of %d", n, p)
			}
		}
	}
	if !impl.ModelOk(impl.Model{}) || !impl.ModelOk(impl.Model{Chances: []int{}}) {
		t.Error("no chances")
	}
	for _, n := range []int{1201, 1202, 2400, 70000} {
		if impl.ModelOk(modelOf(n, 2048)) {
			t.Errorf("%d chances", n)
		}
	}
	for _, n := range []int{1, 2, 24, 1200} {
		for _, at := range []int{0, n / 2, n - 1} {
			for _, p := range noChances {
				m := modelOf(n, 2048)
				m.Chances[at] = p
				if impl.ModelOk(m) {
					t.Errorf("%d at %d of %d", p, at, n)
				}
			}
		}
	}
}

func TestModelStart(t *testing.T) {
	for _, n := range []int{0, 1, 23, 24, 384, 1199, 1200} {
		m, ok := impl.ModelStart(n)
		if !ok || !sameModel(m, modelOf(n, 2048)) || !impl.ModelOk(m) {
			t.Errorf("ModelStart(%d) = %d chances, %v", n, len(m.Chances), ok)
		}
	}
	for _, n := range []int{-1, -24, 1201, 2400, 1<<32 + 24, math.MinInt, math.MaxInt} {
		if m, ok := impl.ModelStart(n); ok || len(m.Chances) != 0 {
			t.Errorf("ModelStart(%d) = %d chances, %v", n, len(m.Chances), ok)
		}
	}
	a, _ := impl.ModelStart(24)
	spoil(a.Chances)
	if b, _ := impl.ModelStart(24); !sameModel(b, modelOf(24, 2048)) {
		t.Error("two models share memory")
	}
}

func TestModelPutSpeltOut(t *testing.T) {
	start := modelOf(24, 2048)
	c, m, ok := impl.ModelPut(impl.CoderStart("x"), start, 0, 0)
	want := modelOf(24, 2048)
	want.Chances[0] = 2176
	if !ok || c != (impl.Coder{High: 2147481600, Out: "x"}) || !sameModel(m, want) {
		t.Errorf("0: %v %v", c, m.Chances)
	}
	c, m, ok = impl.ModelPut(impl.CoderStart(""), start, 0, -5)
	for slot, p := range map[int]int{0: 1920, 1: 2176, 2: 2176, 3: 2176, 4: 1920, 12: 1920, 13: 2176} {
		want.Chances[slot] = p
	}
	if !ok || !sameModel(m, want) {
		t.Errorf("-5: %v", m.Chances)
	}
	by := impl.CoderStart("")
	for _, bit := range []int{0, 1, 1, 1, 0, 0, 1} {
		by = impl.CoderPut(by, bit, 2048)
	}
	if c != by {
		t.Errorf("-5: %x %x %q", c.Low, c.High, c.Out)
	}
	_, m, ok = impl.ModelPut(c, modelOf(24, 2048), 0, 2047)
	for slot := range 22 {
		want.Chances[slot] = 2176
	}
	want.Chances[0], want.Chances[1] = 1920, 1920
	if !ok || !sameModel(m, want) || m.Chances[22] != 2048 || m.Chances[23] != 2048 {
		t.Errorf("2047: %v", m.Chances)
	}
	_, m, ok = impl.ModelPut(c, modelOf(50, 2048), 26, -1)
	want = modelOf(50, 2048)
	want.Chances[26], want.Chances[27], want.Chances[28] = 1920, 2176, 1920
	if !ok || !sameModel(m, want) {
		t.Errorf("-1 at 26: %v", m.Chances)
	}
}

// someModels have so many chances that a number has its slots once or more.
func someModels() []impl.Model {
	list := []impl.Model{modelOf(24, 2048), modelOf(1200, 2048), modelOf(24, 1), modelOf(24, 4095), modelOf(48, 16)}
	for i, n := range []int{24, 25, 47, 384, 1199, 1200} {
		list = append(list, impl.Model{Chances: chancesFrom(uint64(i), n)})
	}
	ends := modelOf(72, 1)
	for i := range ends.Chances {
		if i%2 == 1 {
			ends.Chances[i] = 4095
		}
	}
	return append(list, ends)
}

// basesOf gives the first and the last base of a model and some between.
func basesOf(m impl.Model) []int {
	last := len(m.Chances) - impl.Slots
	return slices.Compact([]int{0, last / 2, last})
}

func TestNumbersToldAreRead(t *testing.T) {
	for i, m := range someModels() {
		bases := basesOf(m)
		nums := edgeNums()
		for _, x := range someNumbers(uint64(i), 300, 4095) {
			nums = append(nums, x-2047)
		}
		for _, x := range someNumbers(uint64(i)+9, 300, 7) {
			nums = append(nums, x-3)
		}
		c, first, ok := impl.CoderStart(""), m, false
		models := []impl.Model{}
		for k, x := range nums {
			c, m, ok = putAs(t, fmt.Sprint("model ", i), c, m, bases[k%len(bases)], x)
			if !ok || !impl.ModelOk(m) {
				t.Fatalf("model %d: %d is not put", i, x)
			}
			models = append(models, m)
		}
		r, x := impl.ReaderStart(impl.CoderEnd(c)), 0
		m = first
		for k, want := range nums {
			r, m, x, ok = impl.ModelGet(r, m, bases[k%len(bases)])
			if !ok || x != want || !sameModel(m, models[k]) {
				t.Fatalf("model %d: number %d comes back as %d, not %d, %v", i, k, x, want, ok)
			}
		}
	}
}

func TestEveryNumberIsReadByTheSameModel(t *testing.T) {
	for _, m := range []impl.Model{modelOf(24, 2048), {Chances: chancesFrom(5, 24)}, modelOf(24, 1), modelOf(24, 4095)} {
		for x := -2047; x <= 2047; x++ {
			c, after, ok := impl.ModelPut(impl.CoderStart(""), m, 0, x)
			_, learnt, back, got := impl.ModelGet(impl.ReaderStart(impl.CoderEnd(c)), m, 0)
			if !ok || !got || back != x || !sameModel(after, learnt) {
				t.Fatalf("%d comes back as %d, %v %v", x, back, ok, got)
			}
		}
	}
}

// A model that has seen a number often tells it in fewer bytes.
func TestAModelLearns(t *testing.T) {
	for _, x := range []int{0, 1, -1, 1024, -2047} {
		m, _ := impl.ModelStart(24)
		c := impl.CoderStart("")
		first := 0
		for i := range 400 {
			c, m, _ = impl.ModelPut(c, m, 0, x)
			if i == 199 {
				first = len(c.Out)
			}
		}
		if len(c.Out)-first > first {
			t.Errorf("%d: %d bytes, then %d", x, first, len(c.Out)-first)
		}
		for slot, p := range m.Chances {
			_, slots := plainPlan(x)
			if slices.Contains(slots, slot) == (p == 2048) {
				t.Errorf("%d: the chance of slot %d is %d", x, slot, p)
			}
		}
	}
}

func TestModelPutFromAnyBounds(t *testing.T) {
	models := someModels()
	for i, low := range someBounds {
		for k, high := range someBounds {
			m := models[(i+k)%len(models)]
			bases := basesOf(m)
			for n, x := range []int{0, 1, -1, 5, -100, 1023, -1024, 2047, -2047} {
				_, _, ok := putAs(t, "bounds", impl.Coder{Low: low, High: high, Out: "ab"}, m, bases[n%len(bases)], x)
				if !ok {
					t.Fatalf("%x %x: %d is not put", low, high, x)
				}
			}
		}
	}
}

// CoderPut leaves a coder alone whose bounds have crossed; the chances learn
// none the less.
func TestModelPutWithCrossedBounds(t *testing.T) {
	m := modelOf(24, 2048)
	want := modelOf(24, 2048)
	want.Chances[0], want.Chances[1], want.Chances[2] = 1920, 2176, 1920
	crossed := impl.Coder{Low: 6, High: 5, Out: "y"}
	if c, after, ok := impl.ModelPut(crossed, m, 0, -1); !ok || c != crossed || !sameModel(after, want) {
		t.Errorf("crossed ahead of it: %v %v %v", c, after, ok)
	}
	c, after, ok := impl.ModelPut(impl.Coder{Low: 0x12345678, High: 0x12345678, Out: "y"}, m, 0, -1)
	if !ok || c != (impl.Coder{Low: 0x79000000, High: 0x78ffffff, Out: "y\x12\x34\x56"}) || !sameModel(after, want) {
		t.Errorf("crossed by it: %v %v %v", c, after, ok)
	}
}

func TestModelPutRefuses(t *testing.T) {
	for _, c := range []impl.Coder{impl.CoderStart(""), impl.CoderStart("abc"), {Low: 7, High: 9, Out: "z"}, {Low: 9, High: 7}} {
		for _, x := range noNums {
			notPut(t, fmt.Sprint("the number ", x), c, modelOf(24, 2048), 0, x)
		}
		for _, x := range []int{0, -5, 2047} {
			for _, n := range []int{0, 1, 23} {
				for _, base := range []int{0, n - 24, -1, 1} {
					notPut(t, fmt.Sprint(n, " chances, base ", base), c, modelOf(n, 2048), base, x)
				}
			}
			notPut(t, "the zero value", c, impl.Model{}, 0, x)
			for _, n := range []int{24, 25, 48, 1199, 1200} {
				for _, base := range []int{-1, -24, n - 23, n - 22, n, n + 1, math.MinInt, math.MinInt + 23, math.MaxInt, math.MaxInt - 23, 1 << 32} {
					notPut(t, fmt.Sprint(n, " chances, base ", base), c, modelOf(n, 2048), base, x)
				}
			}
			for _, n := range []int{1201, 1224, 2400} {
				notPut(t, fmt.Sprint(n, " chances"), c, modelOf(n, 2048), 0, x)
				notPut(t, fmt.Sprint(n, " chances"), c, modelOf(n, 2048), n-24, x)
			}
			for _, p := range noChances {
				for _, at := range []int{0, 23, 24, 47} {
					m := modelOf(48, 2048)
					m.Chances[at] = p
					notPut(t, fmt.Sprint("the chance ", p), c, m, 0, x)
					notPut(t, fmt.Sprint("the chance ", p), c, m, 24, x)
				}
			}
		}
	}
}

func TestBasesAtTheEnd(t *testing.T) {
	for _, n := range []int{24, 25, 48, 1199, 1200} {
		for _, base := range []int{0, n - 24} {
			for _, x := range []int{0, 1, -1024, 2047, -2047} {
				m := modelOf(n, 2048)
				c, after, ok := putAs(t, "a base at the end", impl.CoderStart(""), m, base, x)
				if !ok {
					t.Fatalf("%d chances, base %d: not put", n, base)
				}
				for i, p := range after.Chances {
					if (i < base || i >= base+22) && p != 2048 {
						t.Errorf("%d chances, base %d: that of %d is %d", n, base, i, p)
					}
				}
				_, learnt, back, ok := impl.ModelGet(impl.ReaderStart(impl.CoderEnd(c)), m, base)
				if !ok || back != x || !sameModel(learnt, after) {
					t.Errorf("%d chances, base %d: %d comes back as %d", n, base, x, back)
				}
			}
		}
	}
}

func TestOutUpToRoomForANumber(t *testing.T) {
	text := someText(2 * impl.MaxBytes)
	rare := modelOf(24, 1)
	rare.Chances[0], rare.Chances[1] = 4095, 4095
	for _, n := range []int{impl.MaxBytes - 201, impl.MaxBytes - 200} {
		for _, m := range []impl.Model{modelOf(24, 2048), rare} {
			for _, x := range []int{0, 1, 2047, -2047} {
				for _, c := range []impl.Coder{impl.CoderStart(text[:n]), {Low: 0x12ffffff, High: 0x13000000, Out: text[:n]}} {
					if _, _, ok := putAs(t, "an Out that leaves room", c, m, 0, x); !ok {
						t.Errorf("an Out of %d bytes: not put", n)
					}
				}
			}
		}
	}
	c, _, _ := impl.ModelPut(impl.CoderStart(text[:impl.MaxBytes-200]), rare, 0, 2047)
	if len(c.Out) < impl.MaxBytes-180 {
		t.Errorf("rare decisions: %d bytes", len(c.Out))
	}
	for _, n := range []int{impl.MaxBytes - 199, impl.MaxBytes - 198, impl.MaxBytes - 1, impl.MaxBytes, impl.MaxBytes + 1, 2 * impl.MaxBytes} {
		for _, x := range []int{0, 1, -2047} {
			notPut(t, fmt.Sprint("an Out of ", n, " bytes"), impl.CoderStart(text[:n]), rare, 0, x)
			notPut(t, fmt.Sprint("an Out of ", n, " bytes"), impl.Coder{Low: 9, High: 7, Out: text[:n]}, modelOf(24, 2048), 0, x)
		}
	}
}

func TestChancesAtTheirEnds(t *testing.T) {
	for _, m := range []impl.Model{modelOf(24, 1), modelOf(24, 4095)} {
		nums := append(edgeNums(), edgeNums()...)
		c, after := impl.CoderStart(""), m
		for _, x := range nums {
			c, after, _ = putAs(t, "an end", c, after, 0, x)
			if !impl.ModelOk(after) {
				t.Fatalf("behind %d: %v", x, after.Chances)
			}
		}
		r, x, ok := impl.ReaderStart(impl.CoderEnd(c)), 0, false
		for _, want := range nums {
			if r, m, x, ok = impl.ModelGet(r, m, 0); !ok || x != want {
				t.Fatalf("%d comes back as %d, %v", want, x, ok)
			}
		}
		if !sameModel(m, after) {
			t.Error("the models are not the same")
		}
	}
}

func TestModelGetFromAnyReader(t *testing.T) {
	whole, open := plainRows()
	models := someModels()
	in := someText(40)
	late, told := 0, 0
	for i, low := range someBounds {
		for k, high := range someBounds {
			m := models[(i+k)%len(models)]
			kept := cloneModel(m)
			bases := basesOf(m)
			for n, code := range []uint32{low, high, low + 1, high + 1, low/2 + high/2, plainMid(low, high, 2048), 0, top} {
				for _, at := range []int{0, 4, 36, 41, impl.MaxBytes + 5, impl.MaxBytes + 8} {
					r := impl.Reader{Low: low, High: high, Code: code, In: in, At: at}
					base := bases[n%len(bases)]
					got, after, x, ok := impl.ModelGet(r, m, base)
					want, wantAfter, wantX, wantOk, read := plainModelGet(r, m, base, whole, open)
					if got != want || x != wantX || ok != wantOk || !sameModel(after, wantAfter) {
						t.Fatalf("%x: %x, %d, %v, not %x, %d, %v", r, got, x, ok, want, wantX, wantOk)
					}
					if !sameModel(m, kept) {
						t.Fatal("the model is changed")
					}
					if ok {
						told++
					} else if read > 1 {
						late++
					}
				}
			}
		}
	}
	if told == 0 || late == 0 {
		t.Error("no number that is told, or none that ends behind its second decision")
	}
}

func TestModelGetAt(t *testing.T) {
	brim := impl.MaxBytes + 8
	m := modelOf(24, 2048)
	for _, at := range []int{brim + 1, brim + 2, math.MaxInt, -1, -4, math.MinInt} {
		notGot(t, fmt.Sprint("At ", at), impl.Reader{High: top, At: at}, m, 0)
	}
	// A decision of 1 by this chance is so rare that a byte goes for it.
	rareZero := modelOf(24, 2048)
	rareZero.Chances[0] = 1
	_, after, x, ok := impl.ModelGet(impl.Reader{High: top, At: brim}, m, 0)
	if !ok || x != 0 || after.Chances[0] != 2176 {
		t.Errorf("the last place, and no byte goes: %d, %v", x, ok)
	}
	r, _, x, ok := impl.ModelGet(impl.Reader{High: top, At: brim}, rareZero, 0)
	if !ok || x != 0 || r.At != brim+1 {
		t.Errorf("the last place, and a byte goes with the last decision: %d, %d, %v", r.At, x, ok)
	}
	first := modelOf(24, 2048)
	first.Chances[0] = 4095
	notGot(t, "a byte goes with the first decision", impl.Reader{High: top, Code: top, At: brim}, first, 0)
	if r, _, x, ok := impl.ModelGet(impl.Reader{High: top, Code: top, At: brim - 20}, first, 0); !ok || x != 1 || r.At <= brim-20 {
		t.Errorf("places enough: %d, %d, %v", r.At, x, ok)
	}
}

// Of a number whose decisions are all rare, each place at the end leaves some.
func TestModelGetEndsAtALaterDecision(t *testing.T) {
	whole, open := plainRows()
	rare := modelOf(24, 1)
	rare.Chances[0], rare.Chances[1] = 4095, 4095
	c, _, _ := impl.ModelPut(impl.CoderStart(""), rare, 0, 2047)
	s := impl.CoderEnd(c)
	ends := map[int]bool{}
	yes, no := 0, 0
	for at := impl.MaxBytes - 60; at <= impl.MaxBytes+9; at++ {
		in := strings.Repeat("\x00", at-4) + s
		r := impl.Reader{High: top, Code: impl.GetWord(s, 0), In: in, At: at}
		got, after, x, ok := impl.ModelGet(r, rare, 0)
		want, wantAfter, wantX, wantOk, read := plainModelGet(r, rare, 0, whole, open)
		if got != want || x != wantX || ok != wantOk || !sameModel(after, wantAfter) {
			t.Fatalf("At %d: At %d, %d, %v", at, got.At, x, ok)
		}
		if ok {
			yes++
			if x != 2047 {
				t.Errorf("At %d: %d", at, x)
			}
			continue
		}
		no++
		ends[read] = true
		notGot(t, fmt.Sprint("At ", at), r, rare, 0)
	}
	if yes == 0 || no == 0 || !ends[0] || len(ends) < 10 {
		t.Errorf("%d are told, %d are not, ended behind %v", yes, no, ends)
	}
}

func TestModelGetWithCrossedBounds(t *testing.T) {
	m := modelOf(24, 2048)
	notGot(t, "crossed ahead of it", impl.Reader{Low: 6, High: 5, In: "abcdef", At: 4}, m, 0)
	notGot(t, "crossed by the first decision", impl.Reader{Low: 0x12345678, High: 0x12345678, Code: top, In: "abcdef", At: 4}, m, 0)
	r, _, x, ok := impl.ModelGet(impl.Reader{Low: 0x12345678, High: 0x12345678, Code: 9, In: "abcdef", At: 1}, m, 0)
	if !ok || x != 0 || r != (impl.Reader{High: top, Code: 0x62636465, In: "abcdef", At: 5}) {
		t.Errorf("equal bounds: %x, %d, %v", r, x, ok)
	}
}

func TestModelGetRefuses(t *testing.T) {
	for _, r := range []impl.Reader{impl.ReaderStart(""), impl.ReaderStart(someText(50)), {Low: 9, High: 7}} {
		for _, n := range []int{0, 1, 23} {
			for _, base := range []int{0, n - 24, -1, 1} {
				notGot(t, fmt.Sprint(n, " chances, base ", base), r, modelOf(n, 2048), base)
			}
		}
		notGot(t, "the zero value", r, impl.Model{}, 0)
		for _, n := range []int{24, 25, 48, 1199, 1200} {
			for _, base := range []int{-1, -24, n - 23, n - 22, n, n + 1, math.MinInt, math.MinInt + 23, math.MaxInt, math.MaxInt - 23, 1 << 32} {
				notGot(t, fmt.Sprint(n, " chances, base ", base), r, modelOf(n, 2048), base)
			}
		}
		for _, n := range []int{1201, 1224, 2400} {
			notGot(t, fmt.Sprint(n, " chances"), r, modelOf(n, 2048), 0)
			notGot(t, fmt.Sprint(n, " chances"), r, modelOf(n, 2048), n-24)
		}
		for _, p := range noChances {
			for _, at := range []int{0, 23, 24, 47} {
				m := modelOf(48, 2048)
				m.Chances[at] = p
				notGot(t, fmt.Sprint("the chance ", p), r, m, 0)
				notGot(t, fmt.Sprint("the chance ", p), r, m, 24)
			}
		}
	}
}

// Any text tells numbers, as long as there are places to read from.
func TestModelGetOfAnyText(t *testing.T) {
	for i, s := range []string{"", "a", someText(100), strings.Repeat("\xff", 500), strings.Repeat("\x00", 500), strings.Repeat("\x80", 500)} {
		m := impl.Model{Chances: chancesFrom(uint64(i), 72)}
		r, first, x, ok := impl.ReaderStart(s), m, 0, false
		nums := []int{}
		for k := range 300 {
			if r, m, x, ok = impl.ModelGet(r, m, k%3*24); !ok || x < -2047 || x > 2047 {
				t.Fatalf("text %d: %d, %v", i, x, ok)
			}
			nums = append(nums, x)
		}
		c := impl.CoderStart("")
		for k, x := range nums {
			c, first, _ = impl.ModelPut(c, first, k%3*24, x)
		}
		if !sameModel(first, m) || c.Low != r.Low || c.High != r.High {
			t.Errorf("text %d: the writer goes another way than the reader", i)
		}
	}
}

func TestModelsAndDecisionsAreLeftAlone(t *testing.T) {
	room := append(chancesFrom(3, 48), 71, 72, 73)
	kept := slices.Clone(room)
	m := impl.Model{Chances: room[:48]}
	c, _, ok := impl.ModelPut(impl.CoderStart("ab"), m, 24, -700)
	if !ok {
		t.Fatal("not put")
	}
	impl.ModelOk(m)
	impl.ModelPut(c, m, 25, 1)
	impl.ModelPut(c, m, 0, 4000)
	impl.ModelPut(c, impl.Model{Chances: append(room[:51:51], 0)}, 0, 1)
	impl.ModelGet(impl.ReaderStart(impl.CoderEnd(c)), m, 24)
	impl.ModelGet(impl.ReaderStart(""), m, 25)
	impl.ModelGet(impl.Reader{Low: 5, High: 5, Code: top}, m, 0)
	if !slices.Equal(room, kept) {
		t.Error("chances, or the room behind them, were written into")
	}
	rows := append(impl.NumPlan(-700), 81, 82)
	keptRows := slices.Clone(rows)
	for n := range rows {
		impl.NextSlot(rows[:n])
		impl.PlanNum(rows[:n])
	}
	if !slices.Equal(rows, keptRows) {
		t.Error("decisions were written into")
	}
}

func TestAnswersOfModelsAreNewMemory(t *testing.T) {
	m := impl.Model{Chances: chancesFrom(4, 48)}
	kept := cloneModel(m)
	long := modelOf(1300, 7)
	c, put, _ := impl.ModelPut(impl.CoderStart(""), m, 0, 9)
	r := impl.ReaderStart(impl.CoderEnd(c))
	_, got, _, _ := impl.ModelGet(r, m, 0)
	for _, p := range noNums {
		_, after, _ := impl.ModelPut(c, m, 0, p)
		spoil(after.Chances)
	}
	_, noBase, _ := impl.ModelPut(c, m, 25, 9)
	_, noRoom, _ := impl.ModelPut(impl.CoderStart(someText(impl.MaxBytes)), m, 0, 9)
	_, tooLong, _ := impl.ModelPut(c, long, 0, 9)
	_, noBaseGot, _, _ := impl.ModelGet(r, m, -1)
	_, noneGot, _, _ := impl.ModelGet(impl.Reader{High: top, At: -1}, m, 0)
	_, lateGot, _, _ := impl.ModelGet(impl.Reader{Low: 5, High: 5, Code: top}, m, 0)
	_, tooLongGot, _, _ := impl.ModelGet(r, long, 0)
	for _, after := range []impl.Model{put, got, noBase, noRoom, tooLong, noBaseGot, noneGot, lateGot, tooLongGot} {
		spoil(after.Chances)
	}
	if !sameModel(m, kept) || !sameModel(long, modelOf(1300, 7)) {
		t.Error("an answer shares memory with a model")
	}
	for _, x := range edgeNums() {
		spoil(impl.NumPlan(x))
		want, _ := plainPlan(x)
		if spelt(impl.NumPlan(x)) != want {
			t.Errorf("two plans of %d share memory", x)
		}
	}
}
