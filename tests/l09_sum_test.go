package tests

import (
	"crypto/sha256"
	"encoding/binary"
	"fmt"
	"math"
	"math/big"
	"slices"
	"strings"
	"testing"

	"loop.example/g00120/impl"
)

// noRounds are such that some look like the number of a constant when their high
// parts are cut off.
var noRounds = []int{64, -1, -2, -7, -8, -63, -64, 65, 255, 256, 1 << 32, 1<<32 + 1, -1 << 32, math.MinInt, math.MinInt + 1, math.MaxInt, math.MaxInt - 1}

// noBlockLens are how many bytes a block of a sum has not.
var noBlockLens = []int{0, 1, 4, 32, 56, 60, 63, 65, 68, 96, 127, 128, 192, impl.MaxBytes, impl.MaxBytes + 1}

// padEdges are lengths around those at which a text needs a block more.
var padEdges = []int{0, 1, 54, 55, 56, 57, 63, 64, 65, 118, 119, 120, 121, 127, 128, 129, 183, 184, 8191, 8192, impl.MaxBytes - 1, impl.MaxBytes}

func firstPrimes(n int) []int64 {
	primes := []int64{}
	for x := int64(2); len(primes) < n; x++ {
		if !slices.ContainsFunc(primes, func(p int64) bool { return x%p == 0 }) {
			primes = append(primes, x)
		}
	}
	return primes
}

// plainRoot gives the first 32 bits behind the point of the root of that degree:
// bit by bit the greatest number whose power is not too great.
func plainRoot(x int64, degree int64) uint32 {
	whole := new(big.Int).Lsh(big.NewInt(x), uint(32*degree))
	root := new(big.Int)
	for i := 63; i >= 0; i-- {
		root.SetBit(root, i, 1)
		if new(big.Int).Exp(root, big.NewInt(degree), nil).Cmp(whole) > 0 {
			root.SetBit(root, i, 0)
		}
	}
	return uint32(root.Uint64())
}

// plainRot reads a word that is written twice.
func plainRot(x uint32, n int) uint32 {
	twice := uint64(x)<<32 + uint64(x)
	return uint32(twice >> n)
}

func plainAdd(list ...uint32) uint32 {
	sum := uint64(0)
	for _, x := range list {
		sum += uint64(x)
	}
	return uint32(sum % (1 << 32))
}

// plainChoice and plainMost ask bit by bit.
func plainChoice(e uint32, f uint32, g uint32) uint32 {
	out := uint32(0)
	for i := range 32 {
		from := g
		if e>>i%2 == 1 {
			from = f
		}
		out += from >> i % 2 << i
	}
	return out
}

func plainMost(a uint32, b uint32, c uint32) uint32 {
	out := uint32(0)
	for i := range 32 {
		if a>>i%2+b>>i%2+c>>i%2 > 1 {
			out += 1 << i
		}
	}
	return out
}

func plainSumWords(block string) []uint32 {
	words := []uint32{}
	for i := range 16 {
		words = append(words, binary.BigEndian.Uint32([]byte(block[4*i:4*i+4])))
	}
	for i := 16; i < 64; i++ {
		x, y := words[i-15], words[i-2]
		s0 := plainRot(x, 7) ^ plainRot(x, 18) ^ x/8
		s1 := plainRot(y, 17) ^ plainRot(y, 19) ^ y/1024
		words = append(words, plainAdd(words[i-16], s0, words[i-7], s1))
	}
	return words
}

func plainSumBlock(state [8]uint32, block string, consts []uint32) [8]uint32 {
	row := state[:]
	for i, word := range plainSumWords(block) {
		a, e := row[0], row[4]
		s1 := plainRot(e, 6) ^ plainRot(e, 11) ^ plainRot(e, 25)
		s0 := plainRot(a, 2) ^ plainRot(a, 13) ^ plainRot(a, 22)
		t := plainAdd(row[7], s1, plainChoice(e, row[5], row[6]), consts[i], word)
		u := plainAdd(s0, plainMost(a, row[1], row[2]))
		next := append([]uint32{plainAdd(t, u)}, row[:7]...)
		next[4] = plainAdd(next[4], t)
		row = next
	}
	after := [8]uint32{}
	for i := range after {
		after[i] = plainAdd(state[i], row[i])
	}
	return after
}

func plainPad(s string) string {
	padded := s + "\x80"
	for len(padded)%64 != 56 {
		padded += "\x00"
	}
	return padded + string(binary.BigEndian.AppendUint64(nil, uint64(8*len(s))))
}

func plainConsts() []uint32 {
	consts := []uint32{}
	for _, p := range firstPrimes(64) {
		consts = append(consts, plainRoot(p, 3))
	}
	return consts
}

func startState() [8]uint32 {
	state := [8]uint32{}
	for i, p := range firstPrimes(8) {
		state[i] = plainRoot(p, 2)
	}
	return state
}

func stateOf(x uint32) [8]uint32 {
	return [8]uint32{x, x, x, x, x, x, x, x}
}

func stateFrom(seed uint64) [8]uint32 {
	state := [8]uint32{}
	for i, x := range someNumbers(seed, 8, 1<<32) {
		state[i] = uint32(x)
	}
	return state
}

// textFrom gives n bytes, any of them.
func textFrom(seed uint64, n int) string {
	out := []byte{}
	for _, x := range someNumbers(seed, n, 256) {
		out = append(out, byte(x))
	}
	return string(out)
}

// withBit gives 64 bytes of which all bits but one are alike.
func withBit(fill byte, i int) string {
	out := slices.Repeat([]byte{fill}, 64)
	out[i/8] ^= 128 >> (i % 8)
	return string(out)
}

func someSumBlocks() []string {
	list := []string{
		strings.Repeat("\x00", 64), strings.Repeat("\xff", 64), strings.Repeat("\x80", 64), strings.Repeat("\x7f", 64),
		someText(64), plainPad("abc"), plainPad(""), plainPad(someText(55)),
	}
	for seed := range uint64(40) {
		list = append(list, textFrom(seed, 64))
	}
	return list
}

func speltWords(words []uint32) string {
	list := []string{}
	for _, x := range words {
		list = append(list, fmt.Sprintf("%08x", x))
	}
	return strings.Join(list, " ")
}

func TestSumConstSpeltOut(t *testing.T) {
	for i, want := range []uint32{1116352408, 1899447441, 3049323471, 3921009573, 961987163, 1508970993, 2453635748, 2870763221} {
		if got := impl.SumConst(i); got != want {
			t.Errorf("SumConst(%d) = %d, not %d", i, got, want)
		}
	}
	if impl.SumConst(8) != 0xd807aa98 || impl.SumConst(31) != 0x14292967 || impl.SumConst(62) != 0xbef9a3f7 || impl.SumConst(63) != 0xc67178f2 {
		t.Error("a constant behind the first eight")
	}
}

func TestSumConstsAreCubeRoots(t *testing.T) {
	for i, want := range plainConsts() {
		if got := impl.SumConst(i); got != want {
			t.Errorf("SumConst(%d) = %d, not %d", i, got, want)
		}
	}
}

func TestSumStartSpeltOut(t *testing.T) {
	for i, want := range []uint32{1779033703, 3144134277, 1013904242, 2773480762, 1359893119, 2600822924, 528734635, 1541459225} {
		if got := impl.SumStart(i); got != want {
			t.Errorf("SumStart(%d) = %d, not %d", i, got, want)
		}
	}
}

func TestSumStartsAreSquareRoots(t *testing.T) {
	for i, want := range startState() {
		if got := impl.SumStart(i); got != want {
			t.Errorf("SumStart(%d) = %d, not %d", i, got, want)
		}
	}
}

func TestNoConstantOfASum(t *testing.T) {
	for _, i := range noRounds {
		if got := impl.SumConst(i); got != 0 {
			t.Errorf("SumConst(%d) = %d", i, got)
		}
	}
	for _, i := range append([]int{8, 9, 15, 16, 62, 63}, noRounds...) {
		if got := impl.SumStart(i); got != 0 {
			t.Errorf("SumStart(%d) = %d", i, got)
		}
	}
}

func TestSumWordsSpeltOut(t *testing.T) {
	words := impl.SumWords("abc\x80" + strings.Repeat("\x00", 59) + "\x18")
	if len(words) != 64 {
		t.Fatalf("%d words", len(words))
	}
	want := "61626380" + strings.Repeat(" 00000000", 14) + " 00000018" +
		" 61626380 000f0000 7da86405 600003c6 3e9d7b78 0183fc00 12dcbfdb e2e2c38e"
	if got := speltWords(words[:24]); got != want {
		t.Errorf("the words of abc begin with %s", got)
	}
	if got := speltWords(words[60:]); got != "a43fcf15 668b2ff8 eeaba2cc 12b1edeb" {
		t.Errorf("the words of abc end with %s", got)
	}
	if !slices.Equal(impl.SumWords(strings.Repeat("\x00", 64)), make([]uint32, 64)) {
		t.Error("64 bytes 0")
	}
}

func TestSumWordsAsThePlainOnes(t *testing.T) {
	blocks := someSumBlocks()
	for i := range 512 {
		blocks = append(blocks, withBit(0, i), withBit(255, i))
	}
	for _, block := range blocks {
		if got := impl.SumWords(block); !slices.Equal(got, plainSumWords(block)) {
			t.Fatalf("SumWords(%q) = %s", block, speltWords(got))
		}
	}
}

func TestSumWordsOfOtherLengths(t *testing.T) {
	for _, n := range noBlockLens {
		if got := impl.SumWords(textFrom(3, n)); len(got) != 0 {
			t.Errorf("SumWords of %d bytes has %d words", n, len(got))
		}
	}
}

func TestSumBlockSpeltOut(t *testing.T) {
	after := impl.SumBlock(startState(), plainPad("abc"))
	if got := speltWords(after[:]); got != "ba7816bf 8f01cfea 414140de 5dae2223 b00361a3 96177a9c b410ff61 f20015ad" {
		t.Errorf("the block of abc makes %s", got)
	}
	two := plainPad("abcdbcdecdefdefgefghfghighijhijkijkljklmklmnlmnomnopnopq")
	after = impl.SumBlock(startState(), two[:64])
	if got := speltWords(after[:]); got != "85e655d6 417a1795 3363376a 624cde5c 76e09589 cac5f811 cc4b32c1 f20e533a" {
		t.Errorf("the first of two blocks makes %s", got)
	}
	after = impl.SumBlock(after, two[64:])
	if got := speltWords(after[:]); got != "248d6a61 d20638b8 e5c02693 0c3e6039 a33ce459 64ff2167 f6ecedd4 19db06c1" {
		t.Errorf("the second of two blocks makes %s", got)
	}
}

func blockAsPlain(t *testing.T, state [8]uint32, block string, consts []uint32) {
	t.Helper()
	if got, want := impl.SumBlock(state, block), plainSumBlock(state, block, consts); got != want {
		t.Fatalf("SumBlock(%s, %q) = %s, not %s", speltWords(state[:]), block, speltWords(got[:]), speltWords(want[:]))
	}
}

func TestSumBlockOfAnyState(t *testing.T) {
	consts := plainConsts()
	states := [][8]uint32{{}, stateOf(math.MaxUint32), stateOf(math.MaxUint32 - 1), stateOf(1 << 31), stateOf(1), startState()}
	for seed := range uint64(20) {
		states = append(states, stateFrom(seed))
	}
	for _, state := range states {
		for _, block := range someSumBlocks() {
			blockAsPlain(t, state, block, consts)
		}
	}
}

func TestEveryBitOfStateAndBlock(t *testing.T) {
	consts := plainConsts()
	for i := range 256 {
		state := [8]uint32{}
		state[i/32] = 1 << (i % 32)
		blockAsPlain(t, state, strings.Repeat("\x00", 64), consts)
		for k := range state {
			state[k] ^= math.MaxUint32
		}
		blockAsPlain(t, state, strings.Repeat("\xff", 64), consts)
	}
	for i := range 512 {
		blockAsPlain(t, [8]uint32{}, withBit(0, i), consts)
		blockAsPlain(t, stateOf(math.MaxUint32), withBit(255, i), consts)
	}
}

func TestSumBlockOfOtherLengths(t *testing.T) {
	for _, n := range noBlockLens {
		for _, state := range [][8]uint32{{}, {1}, stateOf(math.MaxUint32), startState(), stateFrom(7)} {
			if got := impl.SumBlock(state, textFrom(5, n)); got != state {
				t.Errorf("SumBlock of %d bytes makes %s of %s", n, speltWords(got[:]), speltWords(state[:]))
			}
		}
	}
}

func TestSumPadSpeltOut(t *testing.T) {
	zeros := func(n int) string { return strings.Repeat("\x00", n) }
	long := someText(impl.MaxBytes)
	for _, c := range []struct {
		n      int
		behind string
	}{
		{0, "\x80" + zeros(63)},
		{1, "\x80" + zeros(61) + "\x08"},
		{3, "\x80" + zeros(59) + "\x18"},
		{54, "\x80" + zeros(1) + zeros(6) + "\x01\xb0"},
		{55, "\x80" + zeros(6) + "\x01\xb8"},
		{56, "\x80" + zeros(63) + zeros(6) + "\x01\xc0"},
		{57, "\x80" + zeros(62) + zeros(6) + "\x01\xc8"},
		{63, "\x80" + zeros(56) + zeros(6) + "\x01\xf8"},
		{64, "\x80" + zeros(55) + zeros(6) + "\x02\x00"},
		{65, "\x80" + zeros(54) + zeros(6) + "\x02\x08"},
		{119, "\x80" + zeros(6) + "\x03\xb8"},
		{120, "\x80" + zeros(63) + zeros(6) + "\x03\xc0"},
		{128, "\x80" + zeros(55) + zeros(6) + "\x04\x00"},
		{8192, "\x80" + zeros(55) + zeros(5) + "\x01\x00\x00"},
		{impl.MaxBytes, "\x80" + zeros(23) + zeros(5) + "\x07\x53\x00"},
	} {
		if got := impl.SumPad(long[:c.n]); got != long[:c.n]+c.behind {
			t.Errorf("SumPad of %d bytes has %d, and behind them %q", c.n, len(got), got[min(c.n, len(got)):])
		}
	}
}

// Texts that end as a padding begins show whether each is padded all the same.
func TestSumPadAsThePlainOne(t *testing.T) {
	lengths := slices.Clone(padEdges)
	for n := range 300 {
		lengths = append(lengths, n)
	}
	for _, n := range lengths {
		for _, s := range []string{textFrom(9, n), strings.Repeat("\x00", n), strings.Repeat("\x80", n), strings.Repeat("\xff", n)} {
			if got := impl.SumPad(s); got != plainPad(s) {
				t.Fatalf("SumPad of %d bytes has %d", n, len(got))
			}
		}
	}
}

func TestTextsThatAreTooLongForASum(t *testing.T) {
	for _, n := range []int{1, 2, 15, 16, 64, impl.MaxBytes, 5536, 10 * impl.MaxBytes} {
		s := strings.Repeat("a", impl.MaxBytes+n)
		if got := impl.SumPad(s); got != "" {
			t.Errorf("SumPad of %d bytes has %d", len(s), len(got))
		}
		if got := impl.Sum(s); got != "" {
			t.Errorf("Sum of %d bytes is %q", len(s), got)
		}
	}
}

func TestSumsThatAreKnown(t *testing.T) {
	for _, c := range [][2]string{
		{"", "e3b0c44298fc1c149afbf4c8996fb92427ae41e4649b934ca495991b7852b855"},
		{"a", "ca978112ca1bbdcafac231b39a23dc4da786eff8147c4e72b9807785afee48bb"},
		{"abc", "ba7816bf8f01cfea414140de5dae2223b00361a396177a9cb410ff61f20015ad"},
		{"message digest", "f7846f55cf23e14eebeab5b4e1550cad5b509e3348fbc4efa3a1413d393cb650"},
		{"The quick brown fox jumps over the lazy dog", "d7a8fbb307d7809469ca9abcb0082e4f8d5651e46d3cdb762d02d0bf37c9e592"},
		{"abcdbcdecdefdefgefghfghighijhijkijkljklmklmnlmnomnopnopq", "248d6a61d20638b8e5c026930c3e6039a33ce45964ff2167f6ecedd419db06c1"},
		{
			"abcdefghbcdefghicdefghijdefghijkefghijklfghijklmghijklmnhijklmnoijklmnopjklmnopqklmnopqrlmnopqrsmnopqrstnopqrstu",
			"cf5b16a778af8380036ce59e7b0492370b249b11e8f07a51afac45037afee9d1",
		},
		{strings.Repeat("1234567890", 8), "f371bc4a311f2b009eef952dd83ca80e2b60026c8e935592d0f9c308453c813e"},
	} {
		if got := fmt.Sprintf("%x", impl.Sum(c[0])); got != c[1] {
			t.Errorf("Sum(%q) = %s", c[0], got)
		}
	}
}

func TestSumsOfEveryLength(t *testing.T) {
	lengths := slices.Clone(padEdges)
	for n := range 300 {
		lengths = append(lengths, n)
	}
	for _, n := range lengths {
		for _, s := range []string{textFrom(11, n), strings.Repeat("\x00", n), strings.Repeat("\xff", n)} {
			want := sha256.Sum256([]byte(s))
			if got := impl.Sum(s); got != string(want[:]) {
				t.Fatalf("the sum of %d bytes is %x, not %x", n, got, want)
			}
		}
	}
}

func TestASumIsTheBlocksOfWhatIsPadded(t *testing.T) {
	for _, n := range append([]int{200, 1000, 4321}, padEdges...) {
		s := textFrom(13, n)
		state := [8]uint32{}
		for i := range state {
			state[i] = impl.SumStart(i)
		}
		padded := impl.SumPad(s)
		if len(padded) == 0 || len(padded)%64 != 0 {
			t.Fatalf("%d bytes are padded to %d", n, len(padded))
		}
		for block := range slices.Chunk([]byte(padded), 64) {
			state = impl.SumBlock(state, string(block))
		}
		want := ""
		for _, word := range state {
			want += impl.PutWord(word)
		}
		if got := impl.Sum(s); got != want {
			t.Errorf("the sum of %d bytes is %x, its blocks make %x", n, got, want)
		}
	}
}

func TestTextsAndStatesAreLeftAloneBySums(t *testing.T) {
	room := someText(impl.MaxBytes + 100)
	kept := []byte(room)
	for _, n := range append([]int{impl.MaxBytes + 1}, append(noBlockLens, padEdges...)...) {
		state, was := stateFrom(17), stateFrom(17)
		impl.SumWords(room[:n])
		impl.SumBlock(state, room[:n])
		impl.SumPad(room[:n])
		impl.Sum(room[:n])
		if state != was {
			t.Fatalf("the state of a block of %d bytes was written into", n)
		}
		if room != string(kept) {
			t.Fatalf("a text of %d bytes, or what stands behind it, was written into", n)
		}
	}
}

func TestAnswersOfSumsAreNewMemory(t *testing.T) {
	block := textFrom(19, 64)
	want := plainSumWords(block)
	a, b := impl.SumWords(block), impl.SumWords(block)
	for i := range a {
		a[i] = 9
	}
	if !slices.Equal(b, want) || !slices.Equal(impl.SumWords(block), want) {
		t.Error("two lists of words share memory")
	}
	if block != textFrom(19, 64) {
		t.Error("the words share memory with their block")
	}
	state := stateFrom(23)
	after := impl.SumBlock(state, block)
	same := impl.SumBlock(state, "")
	for i := range after {
		after[i], same[i] = 9, 9
	}
	if state != stateFrom(23) || impl.SumBlock(state, block) != plainSumBlock(state, block, plainConsts()) {
		t.Error("an answer shares memory with its state")
	}
}

// A call that kept anything would tell it in the next one.
func TestSumsHangOnNothingAhead(t *testing.T) {
	texts := []string{"", "abc", someText(64), someText(1000), strings.Repeat("a", impl.MaxBytes+1)}
	first := []string{}
	for _, s := range texts {
		first = append(first, impl.Sum(s))
	}
	for i := range texts {
		k := len(texts) - 1 - i
		if got := impl.Sum(texts[k]); got != first[k] {
			t.Errorf("the sum of %d bytes is %x, and was %x", len(texts[k]), got, first[k])
		}
	}
}
