package tests

import (
	"bytes"
	"encoding/binary"
	"fmt"
	"go/ast"
	"go/parser"
	"go/token"
	"hash/fnv"
	"math"
	"path/filepath"
	"reflect"
	"slices"
	"strings"
	"testing"
	"time"

	"loop.example/g00120/impl"
)

// face is an exported function, and arguments that it takes.
type face struct {
	name     string
	call     reflect.Value
	ordinary [][]reflect.Value
}

// spare is how much room stands behind each list that is handed in.
const spare = 3

// patience is what a call may need that ends at all.
const patience = 2 * time.Minute

func faceOf(name string, call any, lists ...[]any) face {
	f := face{name: name, call: reflect.ValueOf(call)}
	for _, list := range lists {
		args := []reflect.Value{}
		for _, arg := range list {
			args = append(args, reflect.ValueOf(arg))
		}
		f.ordinary = append(f.ordinary, args)
	}
	return f
}

// with is one row of arguments.
func with(args ...any) []any { return args }

// asNil is a list or a text of nothing, as a face would be handed in.
func asNil(kind reflect.Type) reflect.Value { return reflect.Zero(kind) }

// fill gives a value that stands nowhere else, so that it is seen where it comes to.
func fill(kind reflect.Type) reflect.Value {
	v := reflect.New(kind).Elem()
	switch kind.Kind() {
	case reflect.Int:
		v.SetInt(-7171)
	case reflect.Uint32:
		v.SetUint(7171)
	case reflect.Bool:
		v.SetBool(true)
	case reflect.String:
		v.SetString("filled")
	case reflect.Struct:
		for i := range v.NumField() {
			v.Field(i).Set(fill(kind.Field(i).Type))
		}
	case reflect.Slice:
		v.Set(reflect.Append(v, fill(kind.Elem())))
	}
	return v
}

// roomy copies a value so that it shares nothing, and has spare room behind each
// list.
func roomy(v reflect.Value) reflect.Value {
	out := reflect.New(v.Type()).Elem()
	switch v.Kind() {
	case reflect.Struct:
		for i := range v.NumField() {
			out.Field(i).Set(roomy(v.Field(i)))
		}
	case reflect.Slice:
		if v.IsNil() {
			return out
		}
		all := reflect.MakeSlice(v.Type(), v.Len()+spare, v.Len()+spare)
		reflect.Copy(all, v)
		if hasParts(v.Type().Elem()) {
			for i := range v.Len() {
				all.Index(i).Set(roomy(v.Index(i)))
			}
		}
		for i := range spare {
			all.Index(v.Len() + i).Set(fill(v.Type().Elem()))
		}
		out.Set(all.Slice(0, v.Len()))
	default:
		out.Set(v)
	}
	return out
}

func hasParts(kind reflect.Type) bool {
	return kind.Kind() == reflect.Struct || kind.Kind() == reflect.Slice
}

// behind is a list with all the room that stands behind it.
func behind(v reflect.Value) reflect.Value { return v.Slice(0, v.Cap()) }

// spelling spells values out, so that two are the same when their spellings are;
// nil and an empty list are.
type spelling struct {
	out  []byte
	room bool
}

func (s *spelling) number(x uint64) { s.out = binary.LittleEndian.AppendUint64(s.out, x) }

func (s *spelling) numbers(list []int) {
	for _, x := range list {
		s.number(uint64(x))
	}
}

func (s *spelling) value(v reflect.Value) {
	switch v.Kind() {
	case reflect.Int:
		s.number(uint64(v.Int()))
	case reflect.Uint32:
		s.number(v.Uint())
	case reflect.Bool:
		s.number(uint64(bitOf(v.Bool())))
	case reflect.String:
		s.number(uint64(v.Len()))
		s.out = append(s.out, v.String()...)
	case reflect.Struct:
		for i := range v.NumField() {
			s.value(v.Field(i))
		}
	case reflect.Slice:
		s.number(uint64(v.Len()))
		if s.room {
			v = behind(v)
		}
		if list, ok := v.Interface().([]int); ok {
			s.numbers(list)
			return
		}
		s.parts(v)
	case reflect.Array:
		s.parts(v)
	default:
		panic("no spelling of " + v.Type().String())
	}
}

func (s *spelling) parts(v reflect.Value) {
	for i := range v.Len() {
		s.value(v.Index(i))
	}
}

// spelled is what values say; with room, also what stands behind their lists.
func spelled(list []reflect.Value, room bool) []byte {
	s := spelling{room: room}
	for _, v := range list {
		s.value(v)
	}
	return s.out
}

// stretch is the memory of a list with all its room.
type stretch struct {
	from  uintptr
	to    uintptr
	given bool
}

func stretches(v reflect.Value, given bool) []stretch {
	all := []stretch{}
	switch v.Kind() {
	case reflect.Struct:
		for i := range v.NumField() {
			all = append(all, stretches(v.Field(i), given)...)
		}
	case reflect.Slice:
		if v.Cap() > 0 {
			all = append(all, stretch{v.Pointer(), v.Pointer() + uintptr(v.Cap())*v.Type().Elem().Size(), given})
		}
		if hasParts(v.Type().Elem()) {
			for i := range behind(v).Len() {
				all = append(all, stretches(behind(v).Index(i), given)...)
			}
		}
	}
	return all
}

// shares says whether a list of the answer has memory in common with another
// list, of the answer or of what was handed in.
func shares(given []reflect.Value, answer []reflect.Value) string {
	all := []stretch{}
	for _, v := range given {
		all = append(all, stretches(v, true)...)
	}
	for _, v := range answer {
		all = append(all, stretches(v, false)...)
	}
	slices.SortFunc(all, func(a, b stretch) int {
		switch {
		case a.from < b.from:
			return -1
		case a.from > b.from:
			return 1
		}
		return 0
	})
	for k := 1; k < len(all); k++ {
		one, next := all[k-1], all[k]
		switch {
		case one.to <= next.from || one.given && next.given:
			continue
		case one.given || next.given:
			return "an argument"
		}
		return "another list of it"
	}
	return ""
}

// overwrite spoils all memory of a value's lists, with the room behind them.
func overwrite(v reflect.Value) {
	switch v.Kind() {
	case reflect.Struct:
		for i := range v.NumField() {
			overwrite(v.Field(i))
		}
	case reflect.Slice:
		all := behind(v)
		if list, ok := all.Interface().([]int); ok {
			spoil(list)
			return
		}
		filled := fill(v.Type().Elem())
		for i := range all.Len() {
			overwrite(all.Index(i))
			all.Index(i).Set(filled)
		}
	}
}

// toldArgs is a call as it can be read in a failure.
func toldArgs(args []reflect.Value) string {
	told := []string{}
	for _, v := range args {
		told = append(told, fmt.Sprintf("%.120s", fmt.Sprintf("%#v", v.Interface())))
	}
	return strings.Join(told, ", ")
}

// answerOf fails when a call panics, and stops all when it does not end.
func answerOf(t *testing.T, f face, args []reflect.Value) (answer []reflect.Value, ok bool) {
	t.Helper()
	told := time.AfterFunc(patience, func() { panic(f.name + " does not end: " + toldArgs(args)) })
	defer told.Stop()
	defer func() {
		if cause := recover(); cause != nil {
			t.Errorf("%s panics: %v, at %s", f.name, cause, toldArgs(args))
		}
	}()
	return f.call.Call(args), true
}

// holdsTo calls twice, and spoils the first answer between.
func holdsTo(t *testing.T, f face, args []reflect.Value) {
	t.Helper()
	given := []reflect.Value{}
	for _, v := range args {
		given = append(given, roomy(v))
	}
	ahead := spelled(given, true)
	first, ok := answerOf(t, f, given)
	if !ok {
		return
	}
	if !bytes.Equal(spelled(given, true), ahead) {
		t.Errorf("%s writes into an argument, or behind it: %s", f.name, toldArgs(args))
		return
	}
	if what := shares(given, first); what != "" {
		t.Errorf("%s: its answer shares memory with %s: %s", f.name, what, toldArgs(args))
	}
	want := spelled(first, false)
	for _, v := range first {
		overwrite(v)
	}
	if !bytes.Equal(spelled(given, true), ahead) {
		t.Errorf("%s: what is done to its answer is done to an argument: %s", f.name, toldArgs(args))
	}
	second, ok := answerOf(t, f, given)
	if ok && !bytes.Equal(spelled(second, false), want) {
		t.Errorf("%s: another answer at the second time: %s", f.name, toldArgs(args))
	}
	if what := shares(first, second); what != "" {
		t.Errorf("%s: two answers share memory: %s", f.name, toldArgs(args))
	}
}

var edgesOfInts = []int{
	0, 1, -1, 2, 3, -2, 4, 7, 8, 9, 10, 11, 12, 15, 16, 17, 23, 24, 25, 31, 32, 33, 39, 40, 41, 62, 63, 64, 65, 100, 116, 127, 128, 240, 255, 256, 257,
	399, 400, 500, 501, 1023, -1023, 1024, -1024, 1200, 1201, 1499, 1500, 1501, 1600, 1601, 2047, -2047, 2048, -2048, 3000, 4000, 4001, 4095, 4096,
	60000, 60001, 60008, 60009, 480000, 480001, 1000000000, 1000000001, 1 << 31, 1<<31 - 1, 1 << 32, 1<<32 - 1, 1<<32 + 1, -1 << 32, 1 << 62, -1 << 62,
	math.MaxInt, math.MaxInt - 1, math.MaxInt - 63, math.MinInt, math.MinInt + 1, math.MinInt + 64,
}

var edgesOfWords = []uint32{0, 1, 2, 255, 256, 4095, 4096, 1<<24 - 1, 1 << 24, 1<<31 - 1, 1 << 31, 0x12345678, math.MaxUint32 - 4096, math.MaxUint32 - 1, math.MaxUint32}

func edgesOfTexts(t *testing.T) []string {
	t.Helper()
	file := plainFile(threePic())
	packed, _ := impl.Squeeze(file)
	all := []string{
		"", "a", "-", "A", ".", "\x00", "\xff", "\xff\x00", "\xff\xff", "\x80", "\x80\x80\x80\x80\x80", "ab", "0g", "00ff", "\xff\xd8", "\xff\xd8\xff\xd9", "ä\n",
		"abcd", "list", "list\n", "\n", "put a 00\nget a\npack a\nsync\n", "get a", "put a 0", "put a -", "crash 1", "crash -", "free", "pic a", "sum b",
		file, file[:len(file)-1], file + "\x00", packed, packed[:len(packed)-1], packed + "\x00", "PK", "PK\x01\x01", plainCodes(smallCodes()),
		putText("a", "x"), dropText("a"), packText("a", "z"),
	}
	for _, n := range []int{20, 21, 63, 64, 65, 116, 128, 129, 3000, 3001, 40000, 40001, impl.MaxBytes, impl.MaxBytes + 1, 2 * impl.MaxBytes, 300000} {
		all = append(all, strings.Repeat("a", n), someText(n))
	}
	return append(all, strings.Repeat("\n", 200), strings.Repeat("\n", 201), strings.Repeat("\xff\x00", impl.MaxBytes), strings.Repeat("\xff", impl.MaxBytes))
}

func edgesOfLists() [][]int {
	all := [][]int{
		nil, {}, {0}, {1}, {2}, {-1}, {0, 1}, {1, 0}, {0, 0, 0}, {0, 1, 0}, {1, 2}, {255}, {256}, {2048}, {math.MaxInt}, {math.MinInt}, {0, math.MaxInt, 1}, {math.MinInt, 1},
		someBits(31), someBits(32), someBits(33), someBits(1000), chancesFrom(3, 3), chancesFrom(4, 1000),
		freqWith(9, 7), freqWith(), slices.Repeat([]int{100000}, 256), slices.Repeat([]int{100001}, 256), fibonacci(25), slices.Repeat([]int{-1}, 256),
		slices.Repeat([]int{math.MaxInt}, 256), slices.Repeat([]int{math.MinInt}, 63), make([]int, 255), upTo(257), slices.Repeat([]int{4095}, 60100),
	}
	return append(all, make([]int, impl.MaxBits), make([]int, impl.MaxBits+1), slices.Repeat([]int{1}, impl.MaxBits), slices.Repeat([]int{1}, 1000000))
}

func edgesOfBlocks() []impl.Block {
	all := slices.Clone(someBlocks()[:12])
	for _, w := range someWrongBlocks() {
		all = append(all, w.block)
	}
	return append(all, impl.Block{Dc: math.MaxInt, Ac: slices.Repeat([]int{math.MinInt}, 63)}, impl.Block{Ac: make([]int, 100000)})
}

func edgesOfManyBlocks() [][]impl.Block {
	all := [][]impl.Block{nil, {}, someBlocks()[:9], manyBlocks(1600), manyBlocks(1601), slices.Repeat([]impl.Block{blockWith(3)}, 4000), slices.Repeat([]impl.Block{blockWith(3)}, 4001)}
	for _, b := range edgesOfBlocks() {
		all = append(all, []impl.Block{b}, []impl.Block{blockWith(1), b, blockWith(2)})
	}
	return append(all, make([]impl.Block, 100000), slices.Repeat([]impl.Block{onesBlock(0)}, 1600))
}

func edgesOfSteps() [][]impl.Step {
	all := [][]impl.Step{nil, {}, {{}}, {skip()}, {skip(), skip(), skip(), skip()}, make([]impl.Step, 100000), slices.Repeat([]impl.Step{skip()}, 5000)}
	for _, x := range []int{-1, 1, 10, 11, 15, 16, 63, math.MaxInt, math.MinInt} {
		all = append(all, []impl.Step{{Run: x}, end()}, []impl.Step{{Size: x}, end()}, []impl.Step{{Run: x, Size: x, Bits: []int{1}}}, []impl.Step{number(0, 5), {Size: 1, Bits: []int{x}}, end()})
	}
	for _, b := range someBlocks()[:12] {
		all = append(all, impl.Steps(b))
	}
	return all
}

func edgesOfCodes() []impl.Codes {
	all := slices.Clone(someRightCodes())
	for _, w := range someWrongCodes() {
		all = append(all, w.codes)
	}
	return append(all, impl.Codes{Counts: slices.Repeat([]int{math.MaxInt}, 16), Syms: upTo(255)}, impl.Codes{Counts: slices.Repeat([]int{math.MinInt}, 16)}, impl.Codes{Counts: []int{}, Syms: []int{}})
}

func edgesOfTables() []impl.Tables {
	all := []impl.Tables{{}, wideTables(), loneTables(0, endSym), loneTables(0, 1), brimTables()}
	for _, c := range edgesOfCodes() {
		all = append(all, impl.Tables{Dc: c, Ac: wideTables().Ac}, impl.Tables{Dc: wideTables().Dc, Ac: c})
	}
	return all
}

func edgesOfPics() []impl.Pic {
	all := append(slices.Clone(somePics()[:16]), numberedPic(2, 1), numberedPic(3, 4), manyPic(40, 40), onesPic(40, 40))
	wrong, _ := someWrongPics()
	for k, w := range wrong {
		if k%5 == 0 || len(w.name) < 16 {
			all = append(all, w.pic)
		}
	}
	return append(all, impl.Pic{Blocks: []impl.Block{}}, impl.Pic{W: math.MaxInt, H: math.MaxInt, Blocks: manyBlocks(1)}, impl.Pic{W: math.MinInt, H: math.MinInt, Note: strings.Repeat("n", 100000)})
}

func edgesOfCoders() []impl.Coder {
	all := []impl.Coder{{}, impl.CoderStart(""), impl.CoderStart("ahead")}
	for k, low := range edgesOfWords {
		high := edgesOfWords[(5*k+3)%len(edgesOfWords)]
		all = append(all, impl.Coder{Low: low, High: high}, impl.Coder{Low: low, High: low, Out: "out"}, impl.Coder{Low: high, High: low})
	}
	for _, n := range []int{impl.MaxBytes - 201, impl.MaxBytes - 200, impl.MaxBytes - 199, impl.MaxBytes - 1, impl.MaxBytes, impl.MaxBytes + 1, 300000} {
		all = append(all, impl.CoderStart(strings.Repeat("o", n)))
	}
	return all
}

func edgesOfReaders() []impl.Reader {
	all := []impl.Reader{{}, impl.ReaderStart(""), impl.ReaderStart("\x00"), impl.ReaderStart(someText(100)), impl.ReaderStart(strings.Repeat("\xff", 200000))}
	for k, low := range edgesOfWords {
		high := edgesOfWords[(5*k+3)%len(edgesOfWords)]
		all = append(all, impl.Reader{Low: low, High: high, Code: high, In: "in", At: 4}, impl.Reader{Low: low, High: low, Code: low}, impl.Reader{Low: high, High: low})
	}
	for _, at := range []int{-1, 0, 1, impl.MaxBytes + 7, impl.MaxBytes + 8, impl.MaxBytes + 9, math.MaxInt, math.MaxInt - 1, math.MinInt} {
		all = append(all, impl.Reader{High: math.MaxUint32, In: "in", At: at}, impl.Reader{Low: 7, High: 7, In: "in", At: at})
	}
	return all
}

func edgesOfModels() []impl.Model {
	all := append(someModels(), impl.Model{}, impl.Model{Chances: []int{}}, modelOf(23, 2048), modelOf(1201, 2048), modelOf(100000, 1))
	for _, p := range noChances {
		m := modelOf(48, 2048)
		m.Chances[30] = p
		all = append(all, modelOf(24, p), m)
	}
	return all
}

func edgesOfDisks() []impl.Disk {
	return slices.Concat(someDisks()[:20], logsToHandIn())
}

func edgesOfStates() [][8]uint32 {
	return [][8]uint32{{}, startState(), stateOf(math.MaxUint32), stateOf(1 << 31), stateFrom(5)}
}

func edgesOfCells() [][64]int {
	all := [][64]int{{}, {0: 5, 1: -7, 63: 1023}, {5: 1024}, {0: -1024}, {63: math.MaxInt}, {9: math.MinInt}}
	for _, x := range []int{1023, -1023, 1024, math.MaxInt, math.MinInt} {
		cells := [64]int{}
		for k := range cells {
			cells[k] = x
		}
		all = append(all, cells)
	}
	return all
}

// edgesByKind has for each kind of argument many values.
type edgesByKind map[reflect.Type][]reflect.Value

func addEdges[T any](all edgesByKind, list []T) {
	kind := reflect.TypeFor[T]()
	all[kind] = append(all[kind], asNil(kind))
	for _, x := range list {
		all[kind] = append(all[kind], reflect.ValueOf(x))
	}
}

func edgesOfAll(t *testing.T) edgesByKind {
	t.Helper()
	all := edgesByKind{}
	addEdges(all, edgesOfInts)
	addEdges(all, edgesOfWords)
	addEdges(all, []bool{true})
	addEdges(all, edgesOfTexts(t))
	addEdges(all, edgesOfLists())
	addEdges(all, [][]string{nil, {}, {""}, {putText("a", "x"), dropText("a")}, {putText("a", "x"), packText("a", "z")}, {"junk"}, make([]string, 5000), manyNames(61), {strings.Repeat("P", 300000)}})
	addEdges(all, edgesOfBlocks())
	addEdges(all, edgesOfManyBlocks())
	addEdges(all, edgesOfSteps())
	addEdges(all, edgesOfCodes())
	addEdges(all, edgesOfTables())
	addEdges(all, edgesOfPics())
	addEdges(all, edgesOfCoders())
	addEdges(all, edgesOfReaders())
	addEdges(all, edgesOfModels())
	addEdges(all, edgesOfDisks())
	addEdges(all, storesToHandIn(t))
	addEdges(all, edgesOfStates())
	addEdges(all, edgesOfCells())
	return all
}

// codingFaces are those of the chapters 1 to 5.
func codingFaces() []face {
	codes, tables, pic := smallCodes(), wideTables(), threePic()
	list := []impl.Block{blockWith(4, 3, -9, 40, 1023), blockWith(5, 1, 1), blockWith(5)}
	bits, _ := impl.ScanBits(tables, list)
	scan, _ := impl.ScanText(tables, list)
	syms, _ := impl.PutSyms(codes, codes.Syms)
	file := plainFile(pic)
	return []face{
		faceOf("PutBits", impl.PutBits, with([]int{1, 0, 1})),
		faceOf("GetBits", impl.GetBits, with("bits")),
		faceOf("NumBits", impl.NumBits, with(5, 3), with(1<<32-1, 32)),
		faceOf("BitsNum", impl.BitsNum, with([]int{1, 0, 1})),
		faceOf("Stuff", impl.Stuff, with("a\xffb")),
		faceOf("Unstuff", impl.Unstuff, with("a\xff\x00b")),
		faceOf("PutWord", impl.PutWord, with(uint32(7))),
		faceOf("GetWord", impl.GetWord, with("abcdef", 1)),
		faceOf("PutNum", impl.PutNum, with(300)),
		faceOf("GetNum", impl.GetNum, with("x\xac\x02", 1)),
		faceOf("DecText", impl.DecText, with(-5)),
		faceOf("HexText", impl.HexText, with("hex")),
		faceOf("HexBytes", impl.HexBytes, with("00ff")),
		faceOf("CodesOk", impl.CodesOk, with(codes)),
		faceOf("CodeOf", impl.CodeOf, with(codes, codes.Syms[0])),
		faceOf("SymAt", impl.SymAt, with(codes, syms, 0)),
		faceOf("PutSyms", impl.PutSyms, with(codes, codes.Syms)),
		faceOf("GetSyms", impl.GetSyms, with(codes, syms, len(codes.Syms))),
		faceOf("Spent", impl.Spent, with(codes, freqWith(codes.Syms[0], 5))),
		faceOf("BestCodes", impl.BestCodes, with(freqWith(1, 5, 2, 9, 3, 1))),
		faceOf("BlockOk", impl.BlockOk, with(fullBlock())),
		faceOf("Zigzag", impl.Zigzag, with(5)),
		faceOf("Size", impl.Size, with(-9)),
		faceOf("Rest", impl.Rest, with(-9)),
		faceOf("FromRest", impl.FromRest, with(2, []int{0, 1})),
		faceOf("Steps", impl.Steps, with(list[0])),
		faceOf("FromSteps", impl.FromSteps, with(4, impl.Steps(list[0]))),
		faceOf("Shift", impl.Shift, with(list, true)),
		faceOf("ScanBits", impl.ScanBits, with(tables, list)),
		faceOf("ScanBlocks", impl.ScanBlocks, with(tables, bits, 3)),
		faceOf("ScanFreqs", impl.ScanFreqs, with(list)),
		faceOf("ScanBest", impl.ScanBest, with(list)),
		faceOf("ScanCost", impl.ScanCost, with(tables, list)),
		faceOf("ScanText", impl.ScanText, with(tables, list)),
		faceOf("ScanRead", impl.ScanRead, with(tables, scan, 3)),
		faceOf("PicOk", impl.PicOk, with(pic)),
		faceOf("PutCodes", impl.PutCodes, with(codes)),
		faceOf("GetCodes", impl.GetCodes, with("x"+plainCodes(codes), 1)),
		faceOf("PicWrite", impl.PicWrite, with(pic)),
		faceOf("PicRead", impl.PicRead, with(file)),
		faceOf("PicCost", impl.PicCost, with(pic)),
		faceOf("PicPlain", impl.PicPlain, with(pic)),
	}
}

// packingFaces are those of the chapters 6 to 9.
func packingFaces() []face {
	pic := threePic()
	file := plainFile(pic)
	packed, _ := impl.Squeeze(file)
	blocks, _ := impl.PackBlocks(pic.Blocks)
	start, model := impl.CoderStart("ahead"), modelOf(48, 2048)
	coder, _, _ := impl.ModelPut(impl.CoderStart(""), model, 24, -5)
	reader := impl.ReaderStart(impl.CoderEnd(coder))
	coded, _ := impl.CodeAll([]int{0, 1, 1}, []int{100, 4000, 2048})
	return []face{
		faceOf("CoderStart", impl.CoderStart, with("ahead")),
		faceOf("CoderMid", impl.CoderMid, with(uint32(5), uint32(500000), 2048)),
		faceOf("CoderPut", impl.CoderPut, with(start, 1, 2048), with(start, 0, 4095)),
		faceOf("CoderEnd", impl.CoderEnd, with(start)),
		faceOf("ReaderStart", impl.ReaderStart, with("text to read")),
		faceOf("ReaderGet", impl.ReaderGet, with(reader, 2048)),
		faceOf("CodeAll", impl.CodeAll, with([]int{0, 1, 1}, []int{100, 4000, 2048})),
		faceOf("ReadAll", impl.ReadAll, with(coded, []int{100, 4000, 2048})),
		faceOf("Learn", impl.Learn, with(2048, 1)),
		faceOf("NumPlan", impl.NumPlan, with(-300)),
		faceOf("NextSlot", impl.NextSlot, with([]int{0, 1, 1})),
		faceOf("PlanNum", impl.PlanNum, with(impl.NumPlan(-300))),
		faceOf("ModelOk", impl.ModelOk, with(model)),
		faceOf("ModelStart", impl.ModelStart, with(24)),
		faceOf("ModelPut", impl.ModelPut, with(start, model, 24, -5)),
		faceOf("ModelGet", impl.ModelGet, with(reader, model, 24)),
		faceOf("Band", impl.Band, with(9)),
		faceOf("Length", impl.Length, with(pic.Blocks[0])),
		faceOf("PackBlocks", impl.PackBlocks, with(pic.Blocks)),
		faceOf("UnpackBlocks", impl.UnpackBlocks, with(blocks, 3)),
		faceOf("PackPic", impl.PackPic, with(pic)),
		faceOf("UnpackPic", impl.UnpackPic, with(packed)),
		faceOf("Squeeze", impl.Squeeze, with(file)),
		faceOf("Restore", impl.Restore, with(packed)),
		faceOf("Saved", impl.Saved, with(file)),
		faceOf("SumConst", impl.SumConst, with(5)),
		faceOf("SumStart", impl.SumStart, with(5)),
		faceOf("SumWords", impl.SumWords, with(someText(64))),
		faceOf("SumBlock", impl.SumBlock, with(startState(), someText(64))),
		faceOf("SumPad", impl.SumPad, with("abc")),
		faceOf("Sum", impl.Sum, with("abc")),
	}
}

// keepingFaces are those of the chapters 10 to 13.
func keepingFaces(t *testing.T) []face {
	t.Helper()
	disk := impl.Disk{Sectors: safeTexts(4), Late: lateAt(1, 2, 1)}
	log := impl.Disk{Sectors: slices.Concat(laid("one", someText(300)), []string{"junk", "", ""}), Late: lateAt(5)}
	s := done(t, rightStore(t), put("f", bigFile(t)))
	return []face{
		faceOf("DiskOk", impl.DiskOk, with(disk)),
		faceOf("DiskStart", impl.DiskStart, with(9)),
		faceOf("DiskRead", impl.DiskRead, with(disk, 1)),
		faceOf("DiskWrite", impl.DiskWrite, with(disk, 3, "new")),
		faceOf("DiskSync", impl.DiskSync, with(disk)),
		faceOf("DiskCrash", impl.DiskCrash, with(disk, []int{1, 0, 5})),
		faceOf("DiskLike", impl.DiskLike, with(disk, disk)),
		faceOf("LogParts", impl.LogParts, with(3, someText(300))),
		faceOf("LogRead", impl.LogRead, with(log)),
		faceOf("LogAppend", impl.LogAppend, with(log, 4, 3, "three")),
		faceOf("LogOpen", impl.LogOpen, with(log)),
		faceOf("LogFree", impl.LogFree, with(log)),
		faceOf("Replay", impl.Replay, with([]string{putText("b", "x"), putText("a", "y"), packText("b", "z")})),
		faceOf("StoreOpen", impl.StoreOpen, with(s.Disk)),
		faceOf("StoreOk", impl.StoreOk, with(s)),
		faceOf("StorePut", impl.StorePut, with(s, "a", "xyz"), with(s, "new", "")),
		faceOf("StoreDrop", impl.StoreDrop, with(s, "a")),
		faceOf("StorePack", impl.StorePack, with(s, "f"), with(s, "b")),
		faceOf("StoreGet", impl.StoreGet, with(s, "a"), with(s, "b")),
		faceOf("StoreSync", impl.StoreSync, with(s)),
		faceOf("StoreCrash", impl.StoreCrash, with(s, []int{1, 0, 1})),
		faceOf("StoreBytes", impl.StoreBytes, with(s)),
		faceOf("DeskLine", impl.DeskLine, with(s, "put a 00"), with(s, "list"), with(s, "pack f"), with(s, "what")),
		faceOf("Desk", impl.Desk, with("put a 6162\nget a\nlist\n")),
	}
}

// viewFaces are those of chapter 14.
func viewFaces() []face {
	b, p := fullBlock(), numberedPic(4, 3)
	return []face{
		faceOf("Cell", impl.Cell, with(b, 7, 0)),
		faceOf("FromCells", impl.FromCells, with([64]int{3, 2, 1})),
		faceOf("Mirror", impl.Mirror, with(b)),
		faceOf("Transpose", impl.Transpose, with(b)),
		faceOf("MirrorPic", impl.MirrorPic, with(p)),
		faceOf("TurnPic", impl.TurnPic, with(p)),
		faceOf("CropPic", impl.CropPic, with(p, 1, 1, 2, 2), with(p, 0, 0, 4, 3)),
		faceOf("BesidePic", impl.BesidePic, with(p, p), with(p, numberedPic(1, 3))),
		faceOf("ThinPic", impl.ThinPic, with(p, 5)),
		faceOf("Thumb", impl.Thumb, with(p)),
	}
}

func allFaces(t *testing.T) []face {
	t.Helper()
	return slices.Concat(codingFaces(), packingFaces(), keepingFaces(t), viewFaces())
}

// exportedNames reads the program itself.
func exportedNames(t *testing.T) []string {
	t.Helper()
	names := []string{}
	files, _ := filepath.Glob("../impl/*.go")
	for _, name := range files {
		file, err := parser.ParseFile(token.NewFileSet(), name, nil, parser.SkipObjectResolution)
		if err != nil {
			t.Fatal(err)
		}
		for _, d := range file.Decls {
			if f, ok := d.(*ast.FuncDecl); ok && f.Recv == nil && f.Name.IsExported() {
				names = append(names, f.Name.Name)
			}
		}
	}
	return names
}

func TestNoFunctionIsLeftOut(t *testing.T) {
	names, called := exportedNames(t), []string{}
	for _, f := range allFaces(t) {
		called = append(called, f.name)
	}
	slices.Sort(names)
	slices.Sort(called)
	if !slices.Equal(names, called) || len(names) < 100 {
		t.Errorf("called are %v, not %v", called, names)
	}
}

// changedArgs has the ordinary arguments with each one in turn at all edges of
// its kind.
func changedArgs(f face, edges edgesByKind, tell func([]reflect.Value)) {
	for _, ordinary := range f.ordinary {
		tell(ordinary)
		for i := range ordinary {
			for _, edge := range edges[ordinary[i].Type()] {
				args := slices.Clone(ordinary)
				args[i] = edge
				tell(args)
			}
		}
	}
}

// mixedArgs has all arguments at edges.
func mixedArgs(f face, edges edgesByKind, tell func([]reflect.Value)) {
	n := f.call.Type().NumIn()
	if n < 2 {
		return
	}
	seed := fnv.New64a()
	seed.Write([]byte(f.name))
	picks := someNumbers(seed.Sum64(), 40*n, 1<<30)
	for k := range 40 {
		args := []reflect.Value{}
		for i := range n {
			list := edges[f.call.Type().In(i)]
			args = append(args, list[picks[k*n+i]%len(list)])
		}
		tell(args)
	}
}

// farArgs has all whole numbers at their ends, beside ordinary arguments and
// beside none at all.
func farArgs(f face, tell func([]reflect.Value)) {
	far := []int{math.MinInt, -1, 1, math.MaxInt}
	none := []reflect.Value{}
	for i := range f.call.Type().NumIn() {
		none = append(none, asNil(f.call.Type().In(i)))
	}
	for _, ordinary := range append(slices.Clone(f.ordinary), none) {
		at := []int{}
		for i, v := range ordinary {
			if v.Kind() == reflect.Int {
				at = append(at, i)
			}
		}
		for pick := range 1 << (2 * len(at)) {
			args := slices.Clone(ordinary)
			for k, i := range at {
				args[i] = reflect.ValueOf(far[pick>>(2*k)%4])
			}
			tell(args)
		}
	}
}

// Every function answers at any arguments, and writes into none.
func TestEveryFunctionAnswersAndWritesIntoNothing(t *testing.T) {
	edges := edgesOfAll(t)
	for _, f := range allFaces(t) {
		t.Run(f.name, func(t *testing.T) {
			t.Parallel()
			calls := 0
			tell := func(args []reflect.Value) {
				calls++
				holdsTo(t, f, args)
			}
			changedArgs(f, edges, tell)
			mixedArgs(f, edges, tell)
			farArgs(f, tell)
			if calls < 4 {
				t.Error("called", calls, "times")
			}
		})
	}
}

// Arguments that are refused would show little of what a function does.
func TestOrdinaryArgumentsAreTaken(t *testing.T) {
	for _, f := range allFaces(t) {
		for _, args := range f.ordinary {
			answer, _ := answerOf(t, f, args)
			for _, v := range answer {
				if v.Kind() == reflect.Bool && !v.Bool() {
					t.Errorf("%s refuses %s", f.name, toldArgs(args))
				}
			}
		}
	}
}

// What is looked for is found where it is.
func TestWhatIsSharedIsSeen(t *testing.T) {
	list := make([]int, 4, 9)
	pic := numberedPic(2, 1)
	one, other := []reflect.Value{reflect.ValueOf(list[:2])}, []reflect.Value{reflect.ValueOf(list[3:])}
	if shares(one, other) == "" || shares(nil, append(one, other...)) == "" || shares(one, []reflect.Value{reflect.ValueOf(list[:0])}) == "" {
		t.Error("a piece of a list is not seen")
	}
	if shares([]reflect.Value{reflect.ValueOf(pic)}, []reflect.Value{reflect.ValueOf(pic.Blocks[1])}) == "" {
		t.Error("a list of a block is not seen")
	}
	if what := shares([]reflect.Value{reflect.ValueOf(pic)}, []reflect.Value{roomy(reflect.ValueOf(pic))}); what != "" {
		t.Error("a copy shares memory with", what)
	}
	ahead := spelled(one, true)
	list[:9][8] = 5
	if bytes.Equal(spelled(one, true), ahead) || !bytes.Equal(spelled(one, false), spelled([]reflect.Value{reflect.ValueOf([]int{0, 0})}, false)) {
		t.Error("the room behind a list is not seen, or is part of it")
	}
	if !bytes.Equal(spelled([]reflect.Value{reflect.ValueOf([]int{})}, false), spelled([]reflect.Value{asNil(reflect.TypeFor[[]int]())}, false)) {
		t.Error("an empty list and nil are not the same")
	}
}
