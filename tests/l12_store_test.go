package tests

import (
	"fmt"
	"maps"
	"math"
	"regexp"
	"slices"
	"sort"
	"strings"
	"sync"
	"testing"

	"loop.example/g00120/impl"
)

// nameShape is what a name is, as one rule.
var nameShape = regexp.MustCompile(`\A[a-z0-9.\-]{1,20}\z`)

// rightNames has names of the least and the greatest length, and of each kind
// of sign.
var rightNames = []string{
	"a", "z", "m", "0", "9", "5", "-", ".", "..", "--", "a-b.c0", "x.sp", "0a", "a0", "-a", ".a",
	"abcdefghijklmnopqrst", "uvwxyz0123456789-.-.", strings.Repeat("-", impl.MaxName), strings.Repeat("a", impl.MaxName-1),
}

// noNames has texts that are no names, some by the sign just ahead of one that
// may stand there or just behind it, some whose length looks right in a byte.
var noNames = []string{
	"", "A", "Z", "`", "{", "/", ":", ",", "_", " ", "\x00", "\n", "\x7f", "\x80", "\xff", "ä", "ａ", "a b", "a\n", "\na", " a", "a ", "a/b",
	"aA", "Aa", "a\x00", "\x00a", "aä", "a_", "*", "+", "@", "[", "a\xe1", "\xe1", "\xb0",
	strings.Repeat("a", impl.MaxName+1), strings.Repeat("a", impl.MaxName+2), strings.Repeat("9", 127), strings.Repeat("9", 128),
	strings.Repeat("z", 255), strings.Repeat("z", 256), strings.Repeat("z", 257), strings.Repeat("z", 256+impl.MaxName), strings.Repeat("z", 1<<16+1),
	strings.Repeat("ä", impl.MaxName/2), strings.Repeat("a", impl.MaxName) + "\x00", strings.Repeat("a", impl.MaxFile+1),
}

func recordText(kind string, name string, data string) string {
	return kind + string([]byte{byte(len(name))}) + name + data
}

func putText(name string, data string) string  { return recordText("P", name, data) }
func dropText(name string) string              { return recordText("D", name, "") }
func packText(name string, data string) string { return recordText("K", name, data) }

// plainReplay keeps the items as they come, and orders them at the end.
func plainReplay(list []string) ([]impl.Item, bool) {
	items := []impl.Item{}
	for _, s := range list {
		if len(s) < 2 || len(s)-2 < int(s[1]) {
			return nil, false
		}
		name, data := s[2:2+int(s[1])], s[2+int(s[1]):]
		if !nameShape.MatchString(name) || len(data) > 3000 {
			return nil, false
		}
		at := itemAt(items, name)
		switch {
		case s[0] == 'P' && at < 0:
			items = append(items, impl.Item{Name: name, Data: data})
		case s[0] == 'P':
			items[at] = impl.Item{Name: name, Data: data}
		case s[0] == 'D' && at >= 0 && data == "":
			items = slices.Delete(items, at, at+1)
		case s[0] == 'K' && at >= 0 && !items[at].Packed:
			items[at] = impl.Item{Name: name, Packed: true, Data: data}
		default:
			return nil, false
		}
		if len(items) > 60 {
			return nil, false
		}
	}
	sort.Slice(items, func(i, k int) bool { return items[i].Name < items[k].Name })
	return items, true
}

func itemAt(items []impl.Item, name string) int {
	return slices.IndexFunc(items, func(i impl.Item) bool { return i.Name == name })
}

func plainOpen(d impl.Disk) (impl.Store, bool) {
	if !impl.DiskOk(d) {
		return impl.Store{}, false
	}
	now := nowOn(d)
	texts, end := plainLogOf(now)
	room := impl.MaxLate - len(d.Late)
	for _, s := range now[end:] {
		if s != "" {
			room--
		}
	}
	items, ok := plainReplay(texts)
	if !ok || room < 0 {
		return impl.Store{}, false
	}
	return impl.Store{Disk: impl.Disk{Sectors: slices.Concat(now[:end], emptySectors(len(now)-end))}, At: end, Items: items}, true
}

func plainOk(s impl.Store) bool {
	if !impl.DiskOk(s.Disk) {
		return false
	}
	texts, end := plainLogOf(nowOn(s.Disk))
	items, ok := plainReplay(texts)
	return ok && end == s.At && slices.Equal(items, s.Items)
}

// storeOp is one call that answers a store.
type storeOp struct {
	kind string
	name string
	data string
	keep []int
}

func put(name string, data string) storeOp { return storeOp{kind: "put", name: name, data: data} }
func drop(name string) storeOp             { return storeOp{kind: "drop", name: name} }
func pack(name string) storeOp             { return storeOp{kind: "pack", name: name} }
func syncAll() storeOp                     { return storeOp{kind: "sync"} }
func crash(keep ...int) storeOp            { return storeOp{kind: "crash", keep: keep} }

func (o storeOp) String() string {
	name := o.name
	if len(name) > 30 {
		name = fmt.Sprint(len(name), " bytes")
	}
	return fmt.Sprintf("%s %q (%d bytes, keeping %v)", o.kind, name, len(o.data), o.keep)
}

func doOp(s impl.Store, o storeOp) (impl.Store, int) {
	switch o.kind {
	case "put":
		return impl.StorePut(s, o.name, o.data)
	case "drop":
		return impl.StoreDrop(s, o.name)
	case "pack":
		return impl.StorePack(s, o.name)
	case "sync":
		return impl.StoreSync(s)
	}
	return impl.StoreCrash(s, o.keep)
}

// plainRecordOf is the record of an op, or the code of its refusal.
func plainRecordOf(s impl.Store, o storeOp) (string, int) {
	at := itemAt(s.Items, o.name)
	if o.kind == "put" {
		switch {
		case !nameShape.MatchString(o.name):
			return "", impl.StoreName
		case len(o.data) > 3000:
			return "", impl.StoreLong
		case at < 0 && len(s.Items) == 60:
			return "", impl.StoreFull
		}
		return putText(o.name, o.data), impl.StoreDone
	}
	if at < 0 {
		return "", impl.StoreNone
	}
	if o.kind == "drop" {
		return dropText(o.name), impl.StoreDone
	}
	small, ok := impl.Squeeze(s.Items[at].Data)
	if s.Items[at].Packed || !ok || len(small) >= len(s.Items[at].Data) {
		return "", impl.StoreKept
	}
	return packText(o.name, small), impl.StoreDone
}

func plainOp(s impl.Store, o storeOp) (impl.Store, int) {
	switch {
	case !plainOk(s):
		return s, impl.StoreBad
	case o.kind == "sync":
		all := plainCrash(s.Disk, slices.Repeat([]int{1}, len(s.Disk.Late)))
		return impl.Store{Disk: all, At: s.At, Items: s.Items}, impl.StoreDone
	case o.kind == "crash":
		after, ok := plainOpen(plainCrash(s.Disk, o.keep))
		if !ok {
			return s, impl.StoreBad
		}
		return after, impl.StoreDone
	}
	text, code := plainRecordOf(s, o)
	if code != impl.StoreDone {
		return s, code
	}
	texts, end := plainLogOf(nowOn(s.Disk))
	after := impl.Store{Disk: cloneDisk(s.Disk), At: end}
	for _, part := range plainParts(len(texts)+1, text) {
		after.Disk.Late = append(after.Disk.Late, impl.Write{At: after.At, Data: part})
		after.At++
	}
	if after.At > len(s.Disk.Sectors) || len(after.Disk.Late) > 3000 {
		return s, impl.StoreFull
	}
	after.Items, _ = plainReplay(append(texts, text))
	return after, impl.StoreDone
}

func plainFileOf(s impl.Store, name string) (string, int) {
	if !plainOk(s) {
		return "", impl.StoreBad
	}
	at := itemAt(s.Items, name)
	if at < 0 {
		return "", impl.StoreNone
	}
	if !s.Items[at].Packed {
		return s.Items[at].Data, impl.StoreDone
	}
	file, ok := impl.Restore(s.Items[at].Data)
	if !ok {
		return "", impl.StoreBad
	}
	return file, impl.StoreDone
}

func sameStore(a impl.Store, b impl.Store) bool {
	return a.At == b.At && sameDisk(a.Disk, b.Disk) && slices.Equal(a.Items, b.Items)
}

func cloneStore(s impl.Store) impl.Store {
	return impl.Store{Disk: cloneDisk(s.Disk), At: s.At, Items: slices.Clone(s.Items)}
}

// toldStore is short enough to be read in a failure.
func toldStore(s impl.Store) string {
	told := fmt.Sprintf("%d sectors, %d late, at %d:", len(s.Disk.Sectors), len(s.Disk.Late), s.At)
	for _, i := range s.Items[:min(len(s.Items), 5)] {
		told += fmt.Sprintf(" %.20q %v %d", i.Name, i.Packed, len(i.Data))
	}
	return told
}

// storeIs fails when what is told of a store is not as the plain one has it.
func storeIs(t *testing.T, name string, s impl.Store) {
	t.Helper()
	ok, bytes := plainOk(s), -1
	if got := impl.StoreOk(s); got != ok {
		t.Fatalf("%s: right is %v, of %s", name, got, toldStore(s))
	}
	names := []string{"", "a", "nobody", "A"}
	if ok {
		bytes = 0
	}
	for _, i := range s.Items {
		names = append(names, i.Name)
		if ok {
			bytes += len(i.Data)
		}
	}
	if got := impl.StoreBytes(s); got != bytes {
		t.Fatalf("%s: %d bytes, not %d, in %s", name, got, bytes, toldStore(s))
	}
	for _, n := range names {
		want, code := plainFileOf(s, n)
		if got, said := impl.StoreGet(s, n); said != code || got != want {
			t.Fatalf("%s: got of %.30q are %d bytes and %d, not %d and %d", name, n, len(got), said, len(want), code)
		}
	}
}

// goes does an op and fails when it is not as the plain one has it.
func goes(t *testing.T, name string, s impl.Store, o storeOp) (impl.Store, int) {
	t.Helper()
	want, code := plainOp(s, o)
	got, said := doOp(s, o)
	if said != code || !sameStore(got, want) {
		t.Fatalf("%s: %v: %d and %s, not %d and %s", name, o, said, toldStore(got), code, toldStore(want))
	}
	return got, said
}

// done does ops that must go, one behind the other.
func done(t *testing.T, s impl.Store, ops ...storeOp) impl.Store {
	t.Helper()
	for k, o := range ops {
		after, said := goes(t, fmt.Sprint("op ", k), s, o)
		if said != impl.StoreDone {
			t.Fatalf("op %d: %v: %d, of %s", k, o, said, toldStore(s))
		}
		s = after
	}
	return s
}

// refused fails when an op has another code, or does not leave the store alone.
func refused(t *testing.T, name string, s impl.Store, o storeOp, code int) {
	t.Helper()
	if got, said := doOp(s, o); said != code || !sameStore(got, s) {
		t.Errorf("%s: %v: %d and %s, not %d and %s", name, o, said, toldStore(got), code, toldStore(s))
	}
}

func newStore(t *testing.T, sectors int) impl.Store {
	t.Helper()
	d, _ := impl.DiskStart(sectors)
	s, ok := impl.StoreOpen(d)
	if !ok || !sameStore(s, impl.Store{Disk: d}) {
		t.Fatalf("a new store of %d sectors: %v, %s", sectors, ok, toldStore(s))
	}
	return s
}

// storeOf has the records laid on a disk of so many sectors, all of them safe.
func storeOf(t *testing.T, sectors int, texts ...string) impl.Store {
	t.Helper()
	list := laid(texts...)
	items, ok := plainReplay(texts)
	s := impl.Store{Disk: impl.Disk{Sectors: slices.Concat(list, emptySectors(sectors-len(list)))}, At: len(list), Items: items}
	if !ok || !impl.StoreOk(s) {
		t.Fatalf("%d records make %s: %v", len(texts), toldStore(s), ok)
	}
	return s
}

// withLate has so many late writes that change nothing that is read.
func withLate(s impl.Store, late int) impl.Store {
	s = cloneStore(s)
	last := len(s.Disk.Sectors) - 1
	for len(s.Disk.Late) < late {
		s.Disk.Late = append(s.Disk.Late, impl.Write{At: last, Data: s.Disk.Sectors[last]})
	}
	return s
}

// zeroFile is the file of a picture that gets a little smaller the more blocks
// it has; of one block it gets longer.
func zeroFile(t *testing.T, blocks int) string {
	t.Helper()
	file, ok := impl.PicWrite(zeroPic(blocks, 1))
	if !ok {
		t.Fatal("no file of", blocks, "blocks")
	}
	return file
}

// fileSaving is the file of a picture from which packing takes just n bytes.
func fileSaving(t *testing.T, n int) string {
	t.Helper()
	for blocks := 1; blocks <= impl.MaxSide; blocks++ {
		if file := zeroFile(t, blocks); impl.Saved(file) == n {
			return file
		}
	}
	t.Fatal("no file gets smaller by", n)
	return ""
}

// bigFile is the file of a picture that gets much smaller.
func bigFile(t *testing.T) string {
	t.Helper()
	file, ok := impl.PicWrite(zeroPic(40, 40))
	if !ok || impl.Saved(file) < 300 {
		t.Fatal("the big file has", len(file), "bytes, and gets smaller by", impl.Saved(file))
	}
	return file
}

// fileOfLength is the file of a picture that has just n bytes, and gets smaller.
func fileOfLength(t *testing.T, n int) string {
	t.Helper()
	for rows := 1; rows <= impl.MaxSide; rows++ {
		list := []impl.Block{}
		for i := range rows * impl.MaxSide {
			list = append(list, blockWith(20+i%2, 0, 3, 1, -1, 2, i%3, 5, i%5))
		}
		for _, note := range []int{n - impl.PicCost(bestPic(impl.MaxSide, rows, "", list)), n - impl.PicCost(bestPic(impl.MaxSide, rows, "", list)) - 1} {
			if note < 0 || note > impl.MaxNote {
				continue
			}
			if file, ok := impl.PicWrite(bestPic(impl.MaxSide, rows, someText(note), list)); ok && len(file) == n && impl.Saved(file) > 0 {
				return file
			}
		}
	}
	t.Fatal("no file of a picture has", n, "bytes")
	return ""
}

func TestStoreConstants(t *testing.T) {
	got := []int{
		impl.MaxName, impl.MaxFile, impl.MaxItems, impl.PutKind, impl.DropKind, impl.PackKind,
		impl.StoreDone, impl.StoreName, impl.StoreLong, impl.StoreNone, impl.StoreFull, impl.StoreKept, impl.StoreBad,
	}
	if want := []int{20, 3000, 60, 'P', 'D', 'K', 0, 1, 2, 3, 4, 5, 6}; !slices.Equal(got, want) {
		t.Error("they are", got)
	}
}

func TestStoreSpeltOut(t *testing.T) {
	file := bigFile(t)
	small, _ := impl.Squeeze(file)
	s := newStore(t, 12)
	s, a := impl.StorePut(s, "b", file)
	s, b := impl.StorePut(s, "a.0-", "xyz")
	s, c := impl.StorePack(s, "b")
	s, d := impl.StoreDrop(s, "a.0-")
	if a != 0 || b != 0 || c != 0 || d != 0 || s.At != 7 || len(s.Disk.Late) != 7 || len(s.Items) != 1 {
		t.Fatal("codes", a, b, c, d, toldStore(s))
	}
	if s.Items[0] != (impl.Item{Name: "b", Packed: true, Data: small}) || impl.StoreBytes(s) != len(small) {
		t.Error("the item is", s.Items[0])
	}
	for k, want := range []string{
		"\x00\x00\x00\x01\x00\x00\x00\x00\x00\x00\x00\x04P\x01b" + file[:113],
		"\x00\x00\x00\x01\x00\x00\x00\x01\x00\x00\x00\x04" + file[113:229],
		"\x00\x00\x00\x01\x00\x00\x00\x02\x00\x00\x00\x04" + file[229:345],
		"\x00\x00\x00\x01\x00\x00\x00\x03\x00\x00\x00\x04" + file[345:],
		"\x00\x00\x00\x02\x00\x00\x00\x00\x00\x00\x00\x01P\x04a.0-xyz",
		"\x00\x00\x00\x03\x00\x00\x00\x00\x00\x00\x00\x01K\x01b" + small,
		"\x00\x00\x00\x04\x00\x00\x00\x00\x00\x00\x00\x01D\x04a.0-",
	} {
		if s.Disk.Late[k] != (impl.Write{At: k, Data: want}) {
			t.Errorf("write %d is %d, %q", k, s.Disk.Late[k].At, s.Disk.Late[k].Data)
		}
	}
	if !slices.Equal(s.Disk.Sectors, emptySectors(12)) {
		t.Error("something is safe")
	}
	if got, said := impl.StoreGet(s, "b"); got != file || said != impl.StoreDone {
		t.Error("got are", len(got), "bytes,", said)
	}
	if got, said := impl.StoreGet(s, "a.0-"); got != "" || said != impl.StoreNone {
		t.Error("dropped, but got are", len(got), "bytes,", said)
	}
}

func replaysAs(t *testing.T, name string, list []string, want []impl.Item, wantOk bool) {
	t.Helper()
	got, ok := impl.Replay(list)
	if ok != wantOk || !slices.Equal(got, want) || !ok && len(got) != 0 {
		t.Fatalf("%s: %d records make %d items, %v, not %d, %v", name, len(list), len(got), ok, len(want), wantOk)
	}
}

func TestReplaySpeltOut(t *testing.T) {
	for name, c := range map[string]struct {
		list []string
		want []impl.Item
	}{
		"none":                {nil, nil},
		"one":                 {[]string{"P\x01axyz"}, []impl.Item{{Name: "a", Data: "xyz"}}},
		"of no data":          {[]string{"P\x01a"}, []impl.Item{{Name: "a"}}},
		"put again":           {[]string{"P\x01axyz", "P\x01aq"}, []impl.Item{{Name: "a", Data: "q"}}},
		"dropped":             {[]string{"P\x01axyz", "D\x01a"}, nil},
		"dropped, put again":  {[]string{"P\x01axyz", "D\x01a", "P\x01a\x00"}, []impl.Item{{Name: "a", Data: "\x00"}}},
		"packed":              {[]string{"P\x01axyz", "K\x01aq"}, []impl.Item{{Name: "a", Packed: true, Data: "q"}}},
		"packed to none":      {[]string{"P\x01axyz", "K\x01a"}, []impl.Item{{Name: "a", Packed: true}}},
		"packed to more":      {[]string{"P\x01ax", "K\x01axyz"}, []impl.Item{{Name: "a", Packed: true, Data: "xyz"}}},
		"packed, put again":   {[]string{"P\x01axyz", "K\x01aq", "P\x01ar"}, []impl.Item{{Name: "a", Data: "r"}}},
		"packed twice":        {[]string{"P\x01ax", "K\x01aq", "P\x01ax", "K\x01aq"}, []impl.Item{{Name: "a", Packed: true, Data: "q"}}},
		"packed, dropped":     {[]string{"P\x01axyz", "K\x01aq", "D\x01a"}, nil},
		"data like a name":    {[]string{"P\x01aaaa", "P\x02aaaa"}, []impl.Item{{Name: "a", Data: "aaa"}, {Name: "aa", Data: "aa"}}},
		"by the bytes":        {[]string{"P\x01b", "P\x010", "P\x01a", "P\x01-", "P\x01.", "P\x02-z", "P\x02a-"}, []impl.Item{{Name: "-"}, {Name: "-z"}, {Name: "."}, {Name: "0"}, {Name: "a"}, {Name: "a-"}, {Name: "b"}}},
		"a name of 20 bytes":  {[]string{"P\x14abcdefghij0123456789abc"}, []impl.Item{{Name: "abcdefghij0123456789", Data: "abc"}}},
		"only one is dropped": {[]string{"P\x01a1", "P\x01b2", "P\x01c3", "D\x01b"}, []impl.Item{{Name: "a", Data: "1"}, {Name: "c", Data: "3"}}},
	} {
		replaysAs(t, name, c.list, c.want, true)
	}
}

// wrongRecords has records that are refused where items a (raw) and b (packed)
// are there.
func wrongRecords() map[string]string {
	all := map[string]string{
		"no byte":                     "",
		"only a kind":                 "P",
		"only the kind of a drop":     "D",
		"only the kind of a pack":     "K",
		"no name":                     "P\x00",
		"no name, but data":           "P\x00a",
		"a drop of no name":           "D\x00",
		"a pack of no name":           "K\x00x",
		"a name longer than all":      "P\x02a",
		"a name longer by many":       "P\xffa",
		"a drop of a longer name":     "D\x02a",
		"a pack of a longer name":     "K\x02a",
		"a drop with data":            "D\x01ax",
		"a drop with a byte 0":        "D\x01a\x00",
		"a drop with its name again":  "D\x01aa",
		"a drop of nobody":            "D\x01n",
		"a drop by a beginning":       "D\x02ab",
		"a pack of nobody":            "K\x01nx",
		"a pack of what is packed":    "K\x01bx",
		"data that is too long":       putText("a", someText(impl.MaxFile+1)),
		"new data that is too long":   putText("n", someText(impl.MaxFile+1)),
		"packed data that is long":    packText("a", someText(impl.MaxFile+1)),
		"data that is much too long":  putText("a", someText(impl.MaxBytes)),
		"a capital":                   "P\x01A",
		"a capital, dropped":          "D\x01A",
		"a name of 21 bytes":          putText(strings.Repeat("a", 21), ""),
		"a name of 255 bytes":         putText(strings.Repeat("a", 255), ""),
		"a drop of 21 bytes":          dropText(strings.Repeat("a", 21)),
		"a pack of 21 bytes":          packText(strings.Repeat("a", 21), ""),
		"digits for the name's bytes": "P1a",
	}
	for kind := range 256 {
		if kind != 'P' && kind != 'D' && kind != 'K' {
			all[fmt.Sprint("kind ", kind)] = string([]byte{byte(kind)}) + "\x01a"
		}
	}
	for _, name := range noNames {
		if len(name) < 256 {
			all[fmt.Sprintf("put of the name %.30q", name)] = putText(name, "x")
			all[fmt.Sprintf("drop of the name %.30q", name)] = dropText(name)
			all[fmt.Sprintf("pack of the name %.30q", name)] = packText(name, "x")
		}
	}
	return all
}

// A wrong record refuses all, wherever it stands; behind it stands nothing that
// would be refused by itself.
func TestReplayRefusesAWrongRecordAtEveryPlace(t *testing.T) {
	ahead := []string{"P\x01axyz", "P\x01bxyz", "K\x01bq"}
	more := []string{"P\x01cx", "P\x01dx"}
	items, ok := plainReplay(slices.Concat(ahead, more))
	if !ok {
		t.Fatal("the right records are wrong")
	}
	replaysAs(t, "no wrong record", slices.Concat(ahead, more), items, true)
	for name, wrong := range wrongRecords() {
		if _, ok := plainReplay(append(slices.Clone(ahead), wrong)); ok {
			t.Fatal("not wrong:", name)
		}
		replaysAs(t, name+", amid", slices.Concat(ahead, []string{wrong}, more), nil, false)
		replaysAs(t, name+", last", slices.Concat(ahead, more, []string{wrong}), nil, false)
		replaysAs(t, name+", first", slices.Concat([]string{wrong}, ahead, more), nil, false)
		replaysAs(t, name+", alone", []string{wrong}, nil, false)
		replaysAs(t, name+", twice", []string{wrong, wrong}, nil, false)
	}
}

// Every list of at most four of some records.
func TestEveryListOfSomeRecords(t *testing.T) {
	some := []string{
		"P\x01a1", "P\x01a", "D\x01a", "K\x01a2", "P\x01b3", "D\x01b", "K\x01b", "P\x02ab4", "K\x02ab", "D\x02ab", "D\x01ab", "P\x01A", "",
	}
	rights := 0
	lists := [][]string{nil}
	for from, round := 0, 0; round < 4; round++ {
		end := len(lists)
		for _, list := range lists[from:end] {
			for _, s := range some {
				lists = append(lists, append(slices.Clone(list), s))
			}
		}
		from = end
	}
	for _, list := range lists {
		want, ok := plainReplay(list)
		got, said := impl.Replay(list)
		if said != ok || !slices.Equal(got, want) {
			t.Fatalf("%q: %v, %v, not %v, %v", list, got, said, want, ok)
		}
		if ok {
			rights++
		}
	}
	if rights < 1000 || rights > len(lists)/2 {
		t.Error("of", len(lists), "lists are right", rights)
	}
}

// Every short text as the only record, and behind a and aa.
func TestEveryShortRecord(t *testing.T) {
	rights := 0
	for _, s := range textsOf("PDK\x00\x01\x02\x03aA", 5) {
		for _, ahead := range [][]string{nil, {"P\x01a1", "P\x02aa2"}} {
			list := append(slices.Clone(ahead), s)
			want, ok := plainReplay(list)
			if got, said := impl.Replay(list); said != ok || !slices.Equal(got, want) {
				t.Fatalf("%q: %v, %v, not %v, %v", list, got, said, want, ok)
			}
			if ok {
				rights++
			}
		}
	}
	if rights < 100 {
		t.Error("right are", rights)
	}
}

func TestEverySignOfAName(t *testing.T) {
	s := newStore(t, 3)
	rights := 0
	for c := range 256 {
		sign := string([]byte{byte(c)})
		right := c >= 'a' && c <= 'z' || c >= '0' && c <= '9' || c == '-' || c == '.'
		for _, name := range []string{sign, sign + "a", "a" + sign, "a" + sign + "a", strings.Repeat("a", 19) + sign, sign + strings.Repeat("9", 19), strings.Repeat(sign, 20)} {
			if _, said := goes(t, "a sign", s, put(name, "x")); (said == impl.StoreDone) != right || !right && said != impl.StoreName {
				t.Errorf("put of %q: %d", name, said)
			}
			if _, ok := impl.Replay([]string{putText(name, "x")}); ok != right {
				t.Errorf("replay of %q: %v", name, ok)
			}
			rights += bitOf(right)
		}
	}
	if rights != 7*38 {
		t.Error("right names are", rights)
	}
}

func TestNamesOfAllLengths(t *testing.T) {
	s := newStore(t, 30)
	for n := range 300 {
		name := strings.Repeat("a", n)
		_, said := goes(t, "a length", s, put(name, "x"))
		if want := bitOf(n < 1 || n > 20); said != want {
			t.Errorf("a name of %d bytes: %d", n, said)
		}
	}
	for _, name := range rightNames {
		after := done(t, s, put(name, "its data"))
		if got, said := impl.StoreGet(after, name); got != "its data" || said != impl.StoreDone {
			t.Errorf("of %q are got %q, %d", name, got, said)
		}
		storeIs(t, name, done(t, after, drop(name)))
	}
	full := done(t, s, put("a", ""), put("z", ""), put(strings.Repeat("z", 20), ""))
	for _, name := range noNames {
		for _, at := range []impl.Store{s, full} {
			refused(t, "no name", at, put(name, "x"), impl.StoreName)
			refused(t, "no name", at, drop(name), impl.StoreNone)
			refused(t, "no name", at, pack(name), impl.StoreNone)
			if got, said := impl.StoreGet(at, name); got != "" || said != impl.StoreNone {
				t.Errorf("got of %.30q: %d bytes, %d", name, len(got), said)
			}
		}
	}
}

func TestDataOfAllLengths(t *testing.T) {
	s := newStore(t, 60)
	for _, n := range []int{0, 1, 2, 112, 113, 114, 115, 116, 117, 229, 230, 1000, impl.MaxFile - 1, impl.MaxFile} {
		data := textFrom(uint64(n), n)
		after := done(t, s, put("a", data))
		if got, said := impl.StoreGet(after, "a"); got != data || said != impl.StoreDone || impl.StoreBytes(after) != n {
			t.Errorf("of %d bytes are got %d, %d", n, len(got), said)
		}
		storeIs(t, fmt.Sprint(n, " bytes"), done(t, after, syncAll(), put("a", data), put("b", ""), drop("a")))
		for _, list := range [][]string{{putText("a", data)}, {putText("a", ""), packText("a", data)}} {
			if items, ok := impl.Replay(list); !ok || len(items) != 1 || items[0].Data != data {
				t.Errorf("records of %d bytes: %v", n, ok)
			}
		}
	}
	for _, n := range []int{impl.MaxFile + 1, impl.MaxFile + 2, 2 * impl.MaxFile, impl.MaxBytes, impl.MaxBytes + 1, 1 << 18} {
		refused(t, "too long", s, put("a", someText(n)), impl.StoreLong)
		full := done(t, s, put("a", "elder"))
		refused(t, "too long, put again", full, put("a", someText(n)), impl.StoreLong)
		storeIs(t, "still the elder", full)
	}
}

// manyNames has n names that come neither ascending nor descending.
func manyNames(n int) []string {
	list := []string{}
	for k := range n {
		list = append(list, fmt.Sprintf("i%d.%d", k*7%n, k))
	}
	return list
}

func TestMaxItems(t *testing.T) {
	names := manyNames(impl.MaxItems)
	texts := []string{}
	s := newStore(t, 200)
	for k, name := range names {
		s = done(t, s, put(name, fmt.Sprint("data ", k)))
		texts = append(texts, putText(name, fmt.Sprint("data ", k)))
		if len(s.Items) != k+1 || !sort.SliceIsSorted(s.Items, func(i, k int) bool { return s.Items[i].Name < s.Items[k].Name }) {
			t.Fatalf("behind %d: %s", k+1, toldStore(s))
		}
	}
	storeIs(t, "full", s)
	replaysAs(t, "full", texts, s.Items, true)
	refused(t, "one more", s, put("one-more", ""), impl.StoreFull)
	refused(t, "one more, longer", s, put(names[0]+"x", "x"), impl.StoreFull)
	for _, list := range [][]string{{putText("one-more", "")}, {putText("one-more", ""), dropText("one-more")}, {putText("one-more", ""), dropText(names[0])}} {
		replaysAs(t, "one more", slices.Concat(texts, list), nil, false)
	}
	again := done(t, s, put(names[0], "anew"), put(names[59], fileSaving(t, 2)), put(names[30], ""), pack(names[59]))
	storeIs(t, "put again", again)
	refused(t, "one more behind that", again, put("one-more", ""), impl.StoreFull)
	other := done(t, again, drop(names[17]), put("one-more", "its data"))
	storeIs(t, "another one", other)
	refused(t, "and no one else", other, put(names[17], ""), impl.StoreFull)
	storeIs(t, "put again, safe", done(t, other, syncAll(), crash()))
	behind := done(t, s, crash(slices.Repeat([]int{1}, 60)...))
	storeIs(t, "behind a crash", behind)
	refused(t, "behind a crash", behind, put("one-more", ""), impl.StoreFull)
	less := done(t, s, crash(append(slices.Repeat([]int{1}, 59), 0)...))
	storeIs(t, "behind a crash that lost the last", done(t, less, put("one-more", "")))
}

func TestPutGotPackedGotDropped(t *testing.T) {
	big, longest := bigFile(t), fileOfLength(t, impl.MaxFile)
	s := newStore(t, 400)
	for k, file := range []string{
		"", "x", "a text that is no picture", someText(500), textFrom(4, impl.MaxFile), "\xff\xd8", big, big[:len(big)-1], big + "x", "x" + big,
		fileSaving(t, 1), fileSaving(t, 5), longest, longest[:2999], plainFile(threePic()), "PK", strings.Repeat("PK", 400),
	} {
		small, ok := impl.Squeeze(file)
		smaller := ok && len(small) < len(file)
		after := done(t, s, put("other", "o"), put("file", file), put("z", file))
		packed, said := goes(t, "pack", after, pack("file"))
		if want := impl.StoreDone; !smaller {
			want = impl.StoreKept
			if said != want {
				t.Errorf("file %d: packed with %d, not %d", k, said, want)
			}
		} else if said != want || impl.StoreBytes(packed) != 1+len(small)+len(file) {
			t.Errorf("file %d: packed with %d into %d bytes", k, said, impl.StoreBytes(packed))
		}
		for name, at := range map[string]impl.Store{
			"put": after, "packed": packed, "safe": done(t, packed, syncAll()), "crashed": done(t, packed, syncAll(), crash()),
			"other dropped": done(t, packed, drop("other")),
		} {
			for _, n := range []string{"file", "z"} {
				if got, said := impl.StoreGet(at, n); got != file || said != impl.StoreDone {
					t.Errorf("file %d, %s: of %s are got %d bytes, %d", k, name, n, len(got), said)
				}
			}
			storeIs(t, name, at)
			refused(t, name, done(t, at, drop("file")), pack("file"), impl.StoreNone)
		}
		refused(t, "packed already", packed, pack("file"), impl.StoreKept)
		again := done(t, packed, put("file", "anew"))
		if got, said := impl.StoreGet(again, "file"); got != "anew" || said != impl.StoreDone || again.Items[0].Packed {
			t.Errorf("file %d, put again: %q, %d", k, got, said)
		}
	}
}

// What does not get smaller stays as it is, be it by one byte or because it is
// no picture.
func TestFilesThatDoNotGetSmaller(t *testing.T) {
	lasting := fileSaving(t, 0)
	longer := fileSaving(t, -1)
	if small, ok := impl.Squeeze(lasting); !ok || len(small) != len(lasting) {
		t.Fatal("one that is as long has", len(small), ok)
	}
	big := bigFile(t)
	small, _ := impl.Squeeze(big)
	for name, file := range map[string]string{
		"as long": lasting, "longer by one": longer, "longer by many": plainFile(bestPic(4, 5, "the best", manyBlocks(20))),
		"no byte": "", "a text": "a text", "what is packed": small, "a head alone": "\xff\xd8", "cut": big[:len(big)-1], "with a byte more": big + "\x00",
		"another head": "\xff\xd9" + big[2:], "all of it any": textFrom(5, impl.MaxFile),
	} {
		for _, ahead := range [][]storeOp{{put("f", file)}, {put("f", file), syncAll()}, {put("f", big), pack("f"), put("f", file)}, {put("a", big), put("f", "x"), put("f", file), put("z", "x")}} {
			s := done(t, newStore(t, 80), ahead...)
			refused(t, name, s, pack("f"), impl.StoreKept)
			if got, said := impl.StoreGet(s, "f"); got != file || said != impl.StoreDone {
				t.Errorf("%s: got are %d bytes, %d", name, len(got), said)
			}
			storeIs(t, name, s)
		}
	}
	for _, n := range []int{1, 2, 3, 4, 5} {
		s := done(t, newStore(t, 5), put("f", fileSaving(t, n)), pack("f"))
		if got, said := impl.StoreGet(s, "f"); got != fileSaving(t, n) || said != impl.StoreDone || impl.StoreBytes(s) != len(got)-n {
			t.Errorf("smaller by %d: %s", n, toldStore(s))
		}
		refused(t, "packed", s, pack("f"), impl.StoreKept)
	}
}

// Replay does not ask what packed data are; StoreGet does.
func TestPackedDataThatRestoreRefuses(t *testing.T) {
	big := bigFile(t)
	small, _ := impl.Squeeze(big)
	for name, data := range map[string]string{
		"no byte": "", "a text": "junk", "the file itself": big, "cut": small[:len(small)-1], "with a byte more": small + "\x00",
		"a bit changed": small[:len(small)-1] + string([]byte{small[len(small)-1] ^ 1}), "any bytes": textFrom(6, impl.MaxFile),
	} {
		if _, ok := impl.Restore(data); ok {
			t.Fatal(name, "is restored")
		}
		s := storeOf(t, 60, putText("a", "xyz"), putText("f", big), packText("f", data), putText("z", "q"))
		if got, said := impl.StoreGet(s, "f"); got != "" || said != impl.StoreBad {
			t.Errorf("%s: got are %d bytes, %d", name, len(got), said)
		}
		if got, said := impl.StoreGet(s, "a"); got != "xyz" || said != impl.StoreDone {
			t.Errorf("%s: got of another are %q, %d", name, got, said)
		}
		storeIs(t, name, s)
		refused(t, name, s, pack("f"), impl.StoreKept)
		storeIs(t, name, done(t, s, drop("f")))
		again := done(t, s, syncAll(), crash(), put("f", big), pack("f"))
		if got, said := impl.StoreGet(again, "f"); got != big || said != impl.StoreDone {
			t.Errorf("%s, put again: got are %d bytes, %d", name, len(got), said)
		}
	}
}

// A packed record is what it says, whatever was put ahead of it; what comes of
// it may be longer than a file that is put.
func TestPackedDataOfAnotherFile(t *testing.T) {
	list := []impl.Block{}
	for i := range 1600 {
		list = append(list, blockWith(200*(i%2), 0, 9, 1, -9, 2, 9*(i%2)))
	}
	file, ok := impl.PicWrite(bestPic(40, 40, "", list))
	small, okToo := impl.Squeeze(file)
	if !ok || !okToo || len(file) <= impl.MaxFile || len(small) > impl.MaxFile {
		t.Fatal("the file has", len(file), "bytes, packed", len(small), ok, okToo)
	}
	s := storeOf(t, 60, putText("f", "x"), packText("f", small))
	if got, said := impl.StoreGet(s, "f"); got != file || said != impl.StoreDone || impl.StoreBytes(s) != len(small) {
		t.Error("got are", len(got), "bytes,", said)
	}
	refused(t, "packed already", s, pack("f"), impl.StoreKept)
	refused(t, "too long", s, put("f", file), impl.StoreLong)
}

// Every session of four of some ops on a disk that they fill.
func TestEveryShortSession(t *testing.T) {
	file := fileSaving(t, 2)
	ops := []storeOp{
		put("a", file), put("a", "x"), put("b", someText(impl.PartLen)), pack("a"), drop("a"), pack("b"), drop("b"), syncAll(),
		crash(), crash(1), crash(1, 1), crash(0, 1, 1), put("B", file),
	}
	codes := map[int]int{}
	var walk func(s impl.Store, name string, rounds int)
	walk = func(s impl.Store, name string, rounds int) {
		if rounds == 0 {
			return
		}
		for k, o := range ops {
			here := fmt.Sprint(name, " ", k)
			after, said := goes(t, here, s, o)
			codes[said]++
			if said == impl.StoreDone {
				if !impl.StoreOk(after) {
					t.Fatal(here, "is not right")
				}
				walk(after, here, rounds-1)
			}
		}
		storeIs(t, name, s)
	}
	walk(newStore(t, 4), "session", 4)
	for _, code := range []int{impl.StoreDone, impl.StoreName, impl.StoreNone, impl.StoreFull, impl.StoreKept} {
		if codes[code] == 0 {
			t.Error("no op had the code", code)
		}
	}
}

// Long sessions on disks that get full, with all kinds of ops and crashes: what
// is got is what was so at one moment since all was safe.
func TestFilesAreWhatTheyWereAtOneMoment(t *testing.T) {
	names := []string{"a", "b.sp", "c", "-", "long-name-of-20-bytes"[:20]}
	files := []string{"", "x", someText(200), bigFile(t), fileSaving(t, 1), fileSaving(t, 0), textFrom(7, 600), fileSaving(t, 5)}
	crashes, packs, lost := 0, 0, 0
	for seed := range uint64(40) {
		s := newStore(t, 20+int(seed)*3)
		now := map[string]string{}
		moments := []map[string]string{{}}
		some := someNumbers(seed+100, 400, 1<<20)
		for k := range 60 {
			x := some[5*k : 5*k+5]
			name, file := names[x[1]%len(names)], files[x[2]%len(files)]
			o := []storeOp{put(name, file), put(name, file), put(name, file), pack(name), pack(name), drop(name), syncAll(), {kind: "crash"}}[x[0]%8]
			if o.kind == "crash" {
				o.keep = someNumbers(seed*100+uint64(k), len(s.Disk.Late), 2+x[3]%9)
			}
			after, said := goes(t, fmt.Sprint("seed ", seed, ", op ", k), s, o)
			s = after
			if said != impl.StoreDone {
				continue
			}
			switch o.kind {
			case "put":
				now[name] = file
			case "drop":
				delete(now, name)
			case "pack":
				packs++
			case "sync":
				moments = nil
			case "crash":
				crashes++
				lost += bitOf(!maps.Equal(now, filesOf(t, s)))
				now = filesOf(t, s)
				if !slices.ContainsFunc(moments, func(m map[string]string) bool { return maps.Equal(m, now) }) {
					t.Fatalf("seed %d, op %d: behind the crash it is as at no moment: %s", seed, k, toldStore(s))
				}
				moments = nil
			}
			if !maps.Equal(now, filesOf(t, s)) {
				t.Fatalf("seed %d, op %d: %v: other files are got: %s", seed, k, o, toldStore(s))
			}
			moments = append(moments, maps.Clone(now))
		}
		storeIs(t, fmt.Sprint("seed ", seed), s)
	}
	if crashes < 50 || packs < 50 || lost < 20 {
		t.Error("there were", crashes, "crashes,", packs, "packs,", lost, "that lost something")
	}
}

// filesOf has every file of a store by its name.
func filesOf(t *testing.T, s impl.Store) map[string]string {
	t.Helper()
	files := map[string]string{}
	for _, i := range s.Items {
		file, said := impl.StoreGet(s, i.Name)
		if said != impl.StoreDone {
			t.Fatalf("of %q are got %d bytes, %d", i.Name, len(file), said)
		}
		files[i.Name] = file
	}
	return files
}

// Behind every crash of some late records the files are what they were ahead of
// the first record of which a part is lost; then the store goes on.
func TestEveryCrashOfAStore(t *testing.T) {
	file, other := fileSaving(t, 2), fileSaving(t, 5)
	safe := done(t, newStore(t, 14), put("a", file), put("b", "text"), put("c", other), pack("c"), syncAll())
	ops := []storeOp{put("a", someText(2*impl.PartLen)), drop("b"), put("d", other), pack("d"), put("b", "anew"), drop("c")}
	s, moments, ends := safe, []impl.Store{safe}, []int{0}
	for _, o := range ops {
		s = done(t, s, o)
		moments, ends = append(moments, s), append(ends, len(s.Disk.Late))
	}
	n := len(s.Disk.Late)
	if n != 8 {
		t.Fatal("late are", n)
	}
	seen := map[int]int{}
	for choice := range 1 << n {
		keep := choiceOf(choice, n)
		lost := slices.Index(append(keep, 0), 0)
		moment := 0
		for moment+1 < len(ends) && ends[moment+1] <= lost {
			moment++
		}
		seen[moment]++
		after, said := goes(t, fmt.Sprint("keeping ", keep), s, crash(keep...))
		want := moments[moment]
		if said != impl.StoreDone || after.At != want.At || !slices.Equal(after.Items, want.Items) || len(after.Disk.Late) != 0 {
			t.Fatalf("keeping %v: %d, %s, not %s", keep, said, toldStore(after), toldStore(want))
		}
		if !maps.Equal(filesOf(t, after), filesOf(t, want)) {
			t.Fatalf("keeping %v: other files", keep)
		}
		storeIs(t, "behind the crash", after)
		on := done(t, after, put("a", "gone on"), put("e", file))
		storeIs(t, "gone on", on)
		back := done(t, on, crash(0, 1))
		if !maps.Equal(filesOf(t, back), filesOf(t, want)) {
			t.Fatalf("keeping %v, and crashed again: other files", keep)
		}
		storeIs(t, "gone on, safe", done(t, on, syncAll(), crash()))
	}
	if len(seen) != len(moments) {
		t.Error("moments that a crash went back to are", seen)
	}
}

// What keeps a write is any number but 0; those that there are too few of lose
// it, those that there are too many of keep nothing.
func TestKeepsOfAStore(t *testing.T) {
	s := done(t, newStore(t, 5), put("a", "1"), put("b", "2"), put("c", "3"))
	for _, c := range []struct {
		keep []int
		want int
	}{
		{nil, 0}, {[]int{}, 0}, {[]int{0}, 0}, {[]int{1}, 1}, {[]int{1, 1}, 2}, {[]int{1, 1, 1}, 3}, {[]int{1, 1, 1, 1, 1}, 3}, {[]int{0, 1, 1, 1}, 0},
		{[]int{1, 0, 1, 1}, 1}, {[]int{1, 1, 0, 1}, 2}, {slices.Repeat([]int{1}, impl.MaxLate+1), 3}, {append([]int{1, 1}, make([]int, 9000)...), 2},
	} {
		if after := done(t, s, crash(c.keep...)); len(after.Items) != c.want || after.At != c.want {
			t.Errorf("keeping %d: %s", len(c.keep), toldStore(after))
		}
	}
	for _, x := range keptNums {
		if after := done(t, s, crash(x, x)); len(after.Items) != 2 {
			t.Errorf("keeping by %d: %s", x, toldStore(after))
		}
	}
}

// A store with nothing late loses nothing.
func TestWhatIsSafeIsNotLost(t *testing.T) {
	s := done(t, newStore(t, 60), put("a", bigFile(t)), put("b", "x"), pack("a"), syncAll())
	for _, keep := range [][]int{nil, {0, 0, 0}, {1, 1, 1}, slices.Repeat([]int{1}, 4000)} {
		if after := done(t, s, crash(keep...)); !sameStore(after, s) {
			t.Errorf("keeping %d: %s", len(keep), toldStore(after))
		}
	}
	if after := done(t, s, syncAll()); !sameStore(after, s) {
		t.Error("made safe twice:", toldStore(after))
	}
}

// Where what is safe is no store, a crash that loses what stands over it is
// refused.
func TestACrashBehindWhichThereIsNoStore(t *testing.T) {
	for name, texts := range map[string][]string{
		"a drop of nobody": {dropText("a")}, "no record": {""}, "wrong amid": {putText("a", "x"), "junk", putText("b", "y")},
		"wrong last": {putText("a", "x"), putText("b", "x"), packText("c", "y")},
	} {
		s := impl.Store{Disk: impl.Disk{Sectors: append(laid(texts...), "", "")}}
		for i := range texts {
			s.Disk.Late = append(s.Disk.Late, impl.Write{At: i})
		}
		storeIs(t, name, s)
		refused(t, name, s, crash(), impl.StoreBad)
		refused(t, name, s, crash(slices.Repeat([]int{0}, 9)...), impl.StoreBad)
		storeIs(t, name, done(t, s, crash(slices.Repeat([]int{1}, 9)...)))
		storeIs(t, name, done(t, s, syncAll(), crash()))
		s = done(t, s, put("z", "over it"))
		goes(t, name, s, crash(append(slices.Repeat([]int{0}, len(texts)), 1)...))
		storeIs(t, name, done(t, s, crash(slices.Repeat([]int{1}, 9)...)))
	}
	s := impl.Store{Disk: impl.Disk{Sectors: laid(putText("a", "x"), dropText("b")), Late: []impl.Write{{At: 1}}}, At: 1, Items: []impl.Item{{Name: "a", Data: "x"}}}
	storeIs(t, "an item ahead", s)
	refused(t, "an item ahead", s, crash(), impl.StoreBad)
	storeIs(t, "an item ahead", done(t, s, crash(1)))
}

// A disk with just sectors enough for the record of an op, and one too few.
func TestSectorsJustEnough(t *testing.T) {
	for _, c := range []struct {
		name  string
		bytes int
		parts int
	}{
		{"a", 0, 1}, {"a", 113, 1}, {"a", 114, 2}, {"a", 229, 2}, {"a", 230, 3}, {rightNames[16], 94, 1}, {rightNames[16], 95, 2},
		{"a", impl.MaxFile, 26}, {"abcdefghijklmn", impl.MaxFile, 26}, {"abcdefghijklmno", impl.MaxFile, 27}, {rightNames[16], impl.MaxFile, 27},
	} {
		o := put(c.name, textFrom(8, c.bytes))
		just := done(t, newStore(t, c.parts), o)
		if just.At != c.parts {
			t.Errorf("%v needs %d sectors, not %d", o, just.At, c.parts)
		}
		storeIs(t, "just enough", just)
		refused(t, "no sector left", just, o, impl.StoreFull)
		refused(t, "no sector left", just, drop(c.name), impl.StoreFull)
		refused(t, "no sector left", just, put("b", ""), impl.StoreFull)
		storeIs(t, "just enough, safe", done(t, just, syncAll()))
		refused(t, "made safe, and no sector left", done(t, just, syncAll()), drop(c.name), impl.StoreFull)
		if c.parts > 1 {
			refused(t, "one too few", newStore(t, c.parts-1), o, impl.StoreFull)
			refused(t, "one too few behind another", done(t, newStore(t, c.parts), put("z", "")), o, impl.StoreFull)
		}
	}
	big := bigFile(t)
	for sectors, packs := range map[int]bool{4: false, 5: true, 6: true} {
		s := done(t, newStore(t, sectors), put("f", big))
		if packs {
			storeIs(t, "packed", done(t, s, pack("f")))
			storeIs(t, "dropped", done(t, s, drop("f")))
			continue
		}
		refused(t, "no sector for what is packed", s, pack("f"), impl.StoreFull)
		refused(t, "no sector for the drop", s, drop("f"), impl.StoreFull)
	}
	for _, o := range []storeOp{put("a", ""), put("a", "x")} {
		none := impl.Store{}
		storeIs(t, "no sectors", none)
		refused(t, "no sectors", none, o, impl.StoreFull)
	}
}

// A disk of the most sectors, filled to the last one.
func TestTheGreatestStore(t *testing.T) {
	s := newStore(t, impl.MaxSectors)
	for k := range 55 {
		s = done(t, s, put(fmt.Sprintf("name-of-%012d", k), textFrom(uint64(k), impl.MaxFile)))
	}
	if s.At != 1485 {
		t.Fatal("at", s.At)
	}
	refused(t, "sectors for no more", s, put("x", someText(impl.MaxFile)), impl.StoreFull)
	s = done(t, s, put("x", someText(15*impl.PartLen-3)))
	if s.At != impl.MaxSectors || impl.LogFree(s.Disk) != 0 {
		t.Fatal("at", s.At)
	}
	refused(t, "not a sector left", s, drop("x"), impl.StoreFull)
	storeIs(t, "the greatest", s)
	storeIs(t, "the greatest, crashed", done(t, s, crash(slices.Repeat([]int{1}, 1400)...)))
}

// Late with just room enough for the record of an op, and one too little.
func TestLateJustEnough(t *testing.T) {
	big := bigFile(t)
	s := storeOf(t, 60, putText("a", "x"), putText("f", big))
	for _, c := range []struct {
		o     storeOp
		parts int
	}{
		{put("a", ""), 1}, {put("n", someText(impl.PartLen)), 2}, {put("n", someText(5*impl.PartLen-3)), 5}, {put("f", textFrom(9, impl.MaxFile)), 26}, {drop("a"), 1}, {drop("f"), 1}, {pack("f"), 1},
	} {
		for _, more := range []int{0, 1, 5} {
			just := withLate(s, impl.MaxLate-c.parts-more)
			after := done(t, just, c.o)
			if len(after.Disk.Late) != impl.MaxLate-more || !impl.StoreOk(after) {
				t.Errorf("%v: %s", c.o, toldStore(after))
			}
			if more == 0 {
				refused(t, "no room left", after, put("b", ""), impl.StoreFull)
				refused(t, "no room left", after, put("A", ""), impl.StoreName)
				storeIs(t, "no room left, made safe", done(t, after, syncAll(), put("b", "")))
				storeIs(t, "no room left, crashed", done(t, after, crash(), put("b", "")))
			}
		}
		refused(t, "one too little", withLate(s, impl.MaxLate-c.parts+1), c.o, impl.StoreFull)
		refused(t, "none at all", withLate(s, impl.MaxLate), c.o, impl.StoreFull)
	}
	storeIs(t, "all of Late", withLate(s, impl.MaxLate))
}

// Each pair of reasons that one call can have.
func TestWhatIsRefusedFirst(t *testing.T) {
	big, long := bigFile(t), someText(impl.MaxFile+1)
	texts := []string{putText("f", big), putText("t", "a text")}
	for len(texts) < impl.MaxItems {
		texts = append(texts, putText(fmt.Sprint("i", len(texts)), ""))
	}
	items := storeOf(t, 100, texts...)
	full := storeOf(t, len(laid(texts...)), texts...)
	late := withLate(items, impl.MaxLate)
	fewer := storeOf(t, 5, texts[:2]...)
	for name, s := range map[string]impl.Store{"all items": items, "no sectors too": full, "no Late too": late, "no sectors": fewer} {
		for _, no := range noNames {
			refused(t, name, s, put(no, ""), impl.StoreName)
			refused(t, name, s, put(no, long), impl.StoreName)
			refused(t, name, s, drop(no), impl.StoreNone)
			refused(t, name, s, pack(no), impl.StoreNone)
		}
		refused(t, name, s, put("new", long), impl.StoreLong)
		refused(t, name, s, put("f", long), impl.StoreLong)
		refused(t, name, s, put("new", ""), impl.StoreFull)
		refused(t, name, s, drop("new"), impl.StoreNone)
		refused(t, name, s, pack("new"), impl.StoreNone)
		refused(t, name, s, pack("t"), impl.StoreKept)
		if name != "all items" {
			refused(t, name, s, put("f", ""), impl.StoreFull)
			refused(t, name, s, drop("f"), impl.StoreFull)
			refused(t, name, s, pack("f"), impl.StoreFull)
		}
	}
	packed := storeOf(t, 6, texts[0], texts[1], packText("f", "junk"))
	refused(t, "packed already, and no sectors", packed, pack("f"), impl.StoreKept)
	refused(t, "packed already, and no Late", withLate(storeOf(t, 9, texts[0], texts[1], packText("f", "junk")), impl.MaxLate), pack("f"), impl.StoreKept)
}

type wrongStore struct {
	name  string
	store impl.Store
}

// rightStore has safe and late records, raw items and a packed one.
func rightStore(t *testing.T) impl.Store {
	t.Helper()
	return done(t, newStore(t, 30), put("b", bigFile(t)), put("a", "xyz"), pack("b"), syncAll(), put("d", someText(200)), put("c", ""), put("a", "anew"))
}

// wrongList has stores that are the right one but for one change.
type wrongList struct {
	right impl.Store
	all   []wrongStore
}

func (w *wrongList) add(name string, change func(*impl.Store)) {
	s := cloneStore(w.right)
	change(&s)
	w.all = append(w.all, wrongStore{name, s})
}

func wrongDisksOf(t *testing.T) []wrongStore {
	t.Helper()
	w := wrongList{right: rightStore(t)}
	for _, c := range someWrongDisks() {
		w.all = append(w.all, wrongStore{"a disk of " + c.name, impl.Store{Disk: c.disk}})
	}
	for _, text := range longTexts {
		w.add("a sector behind that is too long", func(s *impl.Store) { s.Disk.Sectors[29] = text })
		w.add("a late write that is too long", func(s *impl.Store) {
			s.Disk.Late = slices.Insert(s.Disk.Late, 0, impl.Write{At: 29, Data: text}, impl.Write{At: 29})
		})
	}
	for _, i := range append([]int{30, 31}, noSectors...) {
		w.add(fmt.Sprint("a late write at ", i), func(s *impl.Store) { s.Disk.Late = append(s.Disk.Late, impl.Write{At: i}) })
	}
	w.add("too many sectors", func(s *impl.Store) { s.Disk.Sectors = append(s.Disk.Sectors, emptySectors(impl.MaxSectors-29)...) })
	w.add("too many late writes", func(s *impl.Store) {
		s.Disk.Late = append(slices.Repeat([]impl.Write{{At: 29}}, impl.MaxLate), s.Disk.Late...)
	})
	w.add("no late writes", func(s *impl.Store) { s.Disk.Late = nil })
	w.add("the last late write lost", func(s *impl.Store) { s.Disk.Late = s.Disk.Late[:len(s.Disk.Late)-1] })
	w.add("the first late write lost", func(s *impl.Store) { s.Disk.Late = s.Disk.Late[1:] })
	w.add("the first record lost", func(s *impl.Store) { s.Disk.Sectors[0] = "" })
	w.add("no sectors", func(s *impl.Store) { s.Disk = impl.Disk{} })
	w.add("one record more", func(s *impl.Store) {
		s.Disk.Late = append(s.Disk.Late, impl.Write{At: s.At, Data: partOf(7, 0, 1, "P\x01ax")})
	})
	w.add("one record more that changes nothing", func(s *impl.Store) {
		s.Disk.Late = append(s.Disk.Late, impl.Write{At: s.At, Data: partOf(7, 0, 1, "P\x01aanew")})
	})
	w.add("one safe record more", func(s *impl.Store) { s.Disk.Sectors[s.At] = partOf(7, 0, 1, "P\x01aanew") })
	w.add("other data late", func(s *impl.Store) {
		s.Disk.Late = append(s.Disk.Late, impl.Write{At: s.At - 1, Data: partOf(6, 0, 1, "P\x01aanev")})
	})
	return w.all
}

func wrongItemsOf(t *testing.T) []wrongStore {
	t.Helper()
	w := wrongList{right: rightStore(t)}
	for k := range w.right.Items {
		name := fmt.Sprint(" of item ", k)
		w.add("another name"+name, func(s *impl.Store) { s.Items[k].Name += "x" })
		w.add("no name"+name, func(s *impl.Store) { s.Items[k].Name = "" })
		w.add("a capital name"+name, func(s *impl.Store) { s.Items[k].Name = strings.ToUpper(s.Items[k].Name) })
		w.add("another Packed"+name, func(s *impl.Store) { s.Items[k].Packed = !s.Items[k].Packed })
		w.add("more data"+name, func(s *impl.Store) { s.Items[k].Data += "\x00" })
		w.add("other data"+name, func(s *impl.Store) { s.Items[k].Data = "other" })
		w.add("data that is too long"+name, func(s *impl.Store) { s.Items[k].Data = someText(impl.MaxFile + 1) })
		w.add("nothing"+name, func(s *impl.Store) { s.Items[k] = impl.Item{} })
		w.add("one too few, less that"+name, func(s *impl.Store) { s.Items = slices.Delete(s.Items, k, k+1) })
		w.add("twice that"+name, func(s *impl.Store) { s.Items = slices.Insert(s.Items, k, s.Items[k]) })
		w.add("one too many ahead"+name, func(s *impl.Store) { s.Items = slices.Insert(s.Items, k, impl.Item{Name: s.Items[k].Name + "-"}) })
		if k > 0 {
			w.add("another order"+name, func(s *impl.Store) { s.Items[k], s.Items[k-1] = s.Items[k-1], s.Items[k] })
		}
	}
	w.add("other Data, packed", func(s *impl.Store) { s.Items[1].Data = bigFile(t) })
	w.add("unpacked", func(s *impl.Store) { s.Items[1] = impl.Item{Name: "b", Data: bigFile(t)} })
	w.add("elder data", func(s *impl.Store) { s.Items[0].Data = "xyz" })
	w.add("the other way round", func(s *impl.Store) { slices.Reverse(s.Items) })
	w.add("no items", func(s *impl.Store) { s.Items = nil })
	w.add("one too many, last", func(s *impl.Store) { s.Items = append(s.Items, impl.Item{Name: "e"}) })
	w.add("one too many, of nothing", func(s *impl.Store) { s.Items = append(s.Items, impl.Item{}) })
	w.add("many too many", func(s *impl.Store) { s.Items = append(s.Items, make([]impl.Item, 3*impl.MaxItems)...) })
	for _, at := range []int{0, 1, -1, 9, 11, 29, 30, 31, impl.MaxSectors, 1 << 32, 1<<32 + 10, -10, math.MinInt, math.MaxInt} {
		w.add(fmt.Sprint("at ", at), func(s *impl.Store) { s.At = at })
	}
	return w.all
}

// someWrongStores has one that is not StoreOk for each reason.
func someWrongStores(t *testing.T) []wrongStore {
	t.Helper()
	all := slices.Concat(wrongDisksOf(t), wrongItemsOf(t))
	all = append(all,
		wrongStore{"nothing but a place", impl.Store{At: 1}},
		wrongStore{"nothing but a place ahead", impl.Store{At: -1}},
		wrongStore{"nothing but an item", impl.Store{Items: []impl.Item{{Name: "a"}}}},
		wrongStore{"empty sectors and an item", impl.Store{Disk: impl.Disk{Sectors: emptySectors(9)}, Items: []impl.Item{{Name: "a"}}}},
	)
	for name, wrong := range wrongRecords() {
		if strings.HasPrefix(name, "kind ") && wrong[0]%16 != 3 || len(laid(wrong)) > 40 {
			continue
		}
		right := []string{putText("a", "x"), putText("b", "y"), packText("b", "z")}
		items, _ := plainReplay(right)
		for _, list := range [][]string{{wrong}, append(slices.Clone(right), wrong), append(slices.Clone(right), wrong, putText("a", "x"))} {
			disk := impl.Disk{Sectors: append(laid(list...), "", "")}
			all = append(all,
				wrongStore{name + ", and no items", impl.Store{Disk: disk, At: len(laid(list...))}},
				wrongStore{name + ", and the items ahead", impl.Store{Disk: disk, At: len(laid(list...)), Items: items}},
			)
		}
	}
	return all
}

func TestStoresThatAreNotRight(t *testing.T) {
	storeIs(t, "right", rightStore(t))
	if s := rightStore(t); s.At != 10 || len(s.Disk.Late) != 4 || len(s.Items) != 4 {
		t.Fatal("the right store is", toldStore(s))
	}
	long := someText(impl.MaxFile + 1)
	for _, c := range someWrongStores(t) {
		if plainOk(c.store) {
			t.Fatal("not wrong:", c.name)
		}
		storeIs(t, c.name, c.store)
		for _, o := range []storeOp{
			put("a", "x"), put("new", ""), put("A", "x"), put("", long), put("a", long), drop("a"), drop("b"), drop("nobody"), drop(""),
			pack("b"), pack("a"), pack("nobody"), syncAll(), crash(), crash(1, 1, 1, 1, 1, 1, 1, 1),
		} {
			refused(t, c.name, c.store, o, impl.StoreBad)
		}
		for _, name := range []string{"a", "b", "c", "nobody", "", "A", long} {
			if got, said := impl.StoreGet(c.store, name); got != "" || said != impl.StoreBad {
				t.Errorf("%s: got of %.20q are %d bytes, %d", c.name, name, len(got), said)
			}
		}
		if got := impl.StoreBytes(c.store); got != -1 {
			t.Errorf("%s: %d bytes", c.name, got)
		}
	}
}

func opensAs(t *testing.T, name string, d impl.Disk) bool {
	t.Helper()
	want, ok := plainOpen(d)
	got, said := impl.StoreOpen(d)
	if said != ok || !sameStore(got, want) {
		t.Fatalf("%s: opened is %v, %s, not %v, %s", name, said, toldStore(got), ok, toldStore(want))
	}
	if ok {
		storeIs(t, name, got)
	}
	return ok
}

func notOpened(t *testing.T, name string, d impl.Disk) {
	t.Helper()
	if s, ok := impl.StoreOpen(d); ok || !sameStore(s, impl.Store{}) {
		t.Errorf("%s: opened is %v, %s", name, ok, toldStore(s))
	}
}

func TestStoreOpen(t *testing.T) {
	for k, d := range someDisks() {
		opensAs(t, fmt.Sprint("disk ", k), d)
	}
	for k, d := range logsToHandIn() {
		opensAs(t, fmt.Sprint("log ", k), d)
	}
	for _, c := range someWrongDisks() {
		notOpened(t, c.name, c.disk)
	}
	for _, c := range wrongDisksOf(t) {
		opensAs(t, c.name, c.store.Disk)
		if !impl.DiskOk(c.store.Disk) {
			notOpened(t, c.name, c.store.Disk)
		}
	}
	texts := []string{putText("f", bigFile(t)), putText("a", "x"), dropText("a"), putText("b", "")}
	for _, c := range someSpoiltRecords() {
		for n := range texts {
			d := impl.Disk{Sectors: slices.Concat(laid(texts[:n]...), c.parts, []string{"", "junk", ""})}
			opensAs(t, c.name, d)
		}
	}
	right := impl.Disk{Sectors: slices.Concat(laid(texts...), []string{"junk", "", "junk"})}
	if !opensAs(t, "records and junk", right) {
		t.Error("records and junk are not opened")
	}
	for name, wrong := range wrongRecords() {
		if len(laid(wrong)) < 40 {
			notOpened(t, name, impl.Disk{Sectors: append(laid(wrong), "")})
			ahead := []string{putText("a", "x"), putText("b", "y"), packText("b", "z")}
			notOpened(t, name+", last", impl.Disk{Sectors: laid(append(ahead, wrong)...)})
			notOpened(t, name+", amid", impl.Disk{Sectors: laid(append(ahead, wrong, putText("c", ""))...)})
		}
	}
}

// A store that is opened takes Late to empty what stands behind the records:
// just room enough, and one too little.
func TestStoreOpenWhereLateHasNotRoom(t *testing.T) {
	for _, junk := range []int{1, 2, 7, 100} {
		sectors := slices.Concat(laid(putText("a", "x")), slices.Repeat([]string{"junk"}, junk), []string{""})
		for late := impl.MaxLate - junk - 1; late <= min(impl.MaxLate, impl.MaxLate-junk+2); late++ {
			d := impl.Disk{Sectors: sectors, Late: slices.Repeat([]impl.Write{{At: len(sectors) - 1}}, late)}
			if got, want := opensAs(t, "late", d), late <= impl.MaxLate-junk; got != want {
				t.Errorf("%d late, %d to empty: %v", late, junk, got)
			}
			if late > impl.MaxLate-junk {
				notOpened(t, "no room", d)
			}
		}
	}
	clean := impl.Disk{Sectors: append(laid(putText("a", "x")), ""), Late: slices.Repeat([]impl.Write{{At: 1}}, impl.MaxLate)}
	if !opensAs(t, "nothing to empty", clean) {
		t.Error("with nothing to empty, Late needs no room")
	}
}

// A store that is opened is right, wholly safe, and goes on.
func TestAStoreOpenedGoesOn(t *testing.T) {
	s := rightStore(t)
	opened, ok := impl.StoreOpen(s.Disk)
	if !ok || opened.At != s.At || !slices.Equal(opened.Items, s.Items) || !sameDisk(opened.Disk, impl.DiskSync(s.Disk)) {
		t.Fatal("opened is", toldStore(opened), ok)
	}
	storeIs(t, "gone on", done(t, opened, put("e", bigFile(t)), pack("e"), drop("a"), syncAll(), put("a", "last")))
}

// What stands behind the records, where the store was not opened, is let be.
func TestPutAheadOfWhatIsLeftBehind(t *testing.T) {
	s := storeOf(t, 6, putText("a", "x"))
	s.Disk.Sectors[1], s.Disk.Sectors[3], s.Disk.Sectors[5] = "junk", "more", "last"
	storeIs(t, "junk behind", s)
	after := done(t, s, put("b", "y"))
	storeIs(t, "put", after)
	if !slices.Equal(after.Disk.Sectors, s.Disk.Sectors) || len(after.Disk.Late) != 1 {
		t.Error("put ahead of junk:", toldStore(after))
	}
	storeIs(t, "opened", done(t, after, crash(1)))
}

// roomyStore has spare room behind its lists; shown is what stands there.
func roomyStore(s impl.Store) (impl.Store, func() string) {
	d, sectors, late := roomyDisk(s.Disk)
	items := append(slices.Clone(s.Items), impl.Item{Name: "spare"}, impl.Item{Name: "spare", Packed: true})
	shown := func() string { return fmt.Sprintf("%#v %#v %#v", sectors, late, items) }
	return impl.Store{Disk: d, At: s.At, Items: items[:len(s.Items)]}, shown
}

func spoilStore(s impl.Store) {
	spoilDisk(s.Disk)
	items := s.Items[:cap(s.Items)]
	for i := range items {
		items[i] = impl.Item{Name: "spoilt", Data: "spoilt"}
	}
}

// opsToHandIn has each kind of op, where it is done and where it is refused.
func opsToHandIn() []storeOp {
	return []storeOp{
		put("a", "x"), put("new", "x"), put("zz", "x"), put("A", "x"), put("a", someText(impl.MaxFile+1)), put("new", someText(impl.MaxFile)),
		drop("a"), drop("d"), drop("nobody"), pack("f"), pack("a"), pack("b"), pack("nobody"), syncAll(),
		crash(), crash(1), crash(1, 1, 1, 1, 1, 1, 1, 1, 1), crash(0, 1, 1),
	}
}

func storesToHandIn(t *testing.T) []impl.Store {
	t.Helper()
	right := rightStore(t)
	all := []impl.Store{
		{}, newStore(t, 5), right, done(t, right, syncAll()), done(t, right, put("f", bigFile(t))), withLate(done(t, right, syncAll()), impl.MaxLate),
		storeOf(t, 5, putText("f", bigFile(t)), putText("a", "")), storeOf(t, 9, putText("a", "x"), packText("a", "junk")),
		{Disk: impl.Disk{Sectors: laid(dropText("a")), Late: []impl.Write{{At: 0}}}},
	}
	wrong := someWrongStores(t)
	for k := 0; k < len(wrong); k += 9 {
		all = append(all, wrong[k].store)
	}
	return all
}

func TestWhatIsHandedInToAStoreIsLeftAlone(t *testing.T) {
	for k, was := range storesToHandIn(t) {
		for _, o := range opsToHandIn() {
			s, shown := roomyStore(was)
			keep := append(slices.Clone(o.keep), 7, 7)
			o.keep = keep[:len(o.keep)]
			ahead := shown() + fmt.Sprint(keep)
			after, _ := doOp(s, o)
			impl.StoreOk(s)
			impl.StoreBytes(s)
			impl.StoreGet(s, o.name)
			opened, _ := impl.StoreOpen(s.Disk)
			if shown()+fmt.Sprint(keep) != ahead {
				t.Fatalf("store %d, %v: an argument or what stands behind it was written into", k, o)
			}
			spoilStore(after)
			spoilStore(opened)
			if shown()+fmt.Sprint(keep) != ahead {
				t.Fatalf("store %d, %v: the answer shares memory with an argument", k, o)
			}
		}
	}
}

func TestAnswersOfAStoreStayAsTheyAre(t *testing.T) {
	for k, was := range storesToHandIn(t) {
		for _, o := range opsToHandIn() {
			s := cloneStore(was)
			after, _ := doOp(s, o)
			opened, _ := impl.StoreOpen(s.Disk)
			want, wantOpened := cloneStore(after), cloneStore(opened)
			spoilStore(s)
			if !sameStore(after, want) || !sameStore(opened, wantOpened) {
				t.Fatalf("store %d, %v: the answer changed with its argument", k, o)
			}
		}
	}
}

func TestWhatIsHandedInToReplayIsLeftAlone(t *testing.T) {
	texts := []string{putText("b", "x"), putText("a", "y"), packText("b", "z")}
	for _, list := range [][]string{texts, texts[:0], append(slices.Clone(texts), "wrong"), append(slices.Clone(texts), dropText("a"))} {
		room := append(slices.Clone(list), "spare", "spare")
		want := slices.Clone(room)
		one, ok := impl.Replay(room[:len(list)])
		other, _ := impl.Replay(room[:len(list)])
		kept := slices.Clone(other)
		for i := range one[:cap(one)] {
			one[:cap(one)][i] = impl.Item{Name: "spoilt"}
		}
		if !slices.Equal(room, want) {
			t.Error("the list was written into")
		}
		again, okToo := impl.Replay(room[:len(list)])
		if !slices.Equal(other, kept) || !slices.Equal(again, kept) || ok != okToo {
			t.Error("two answers share memory")
		}
	}
}

// Two ways to go on from one store know nothing of each other.
func TestTwoWaysToGoOnWithAStore(t *testing.T) {
	s := newStore(t, 50)
	for k := range 12 {
		s = done(t, s, put(fmt.Sprint("i", k), "before"))
		one := done(t, s, put("x", "one"), drop("i0"))
		other := done(t, s, put("x", "other"))
		for name, c := range map[string]struct {
			store impl.Store
			x     string
			first int
		}{"one": {one, "one", impl.StoreNone}, "other": {other, "other", impl.StoreDone}, "neither": {s, "", impl.StoreDone}} {
			if got, _ := impl.StoreGet(c.store, "x"); got != c.x {
				t.Fatalf("%s: x is %q", name, got)
			}
			if _, said := impl.StoreGet(c.store, "i0"); said != c.first {
				t.Fatalf("%s: the first is got with %d", name, said)
			}
			storeIs(t, name, c.store)
		}
	}
}

// A call that kept an item would tell it in the next one.
func TestStoresHangOnNothingAhead(t *testing.T) {
	plain := storeOf(t, 6, putText("its-own", "x"))
	for _, s := range storesToHandIn(t) {
		for _, o := range opsToHandIn() {
			doOp(s, o)
			impl.StoreOpen(s.Disk)
		}
		impl.Replay([]string{putText("kept", "?")})
		storeIs(t, "a store of its own", plain)
		if after := done(t, plain, put("next", "y")); len(after.Items) != 2 {
			t.Fatal("gone on:", toldStore(after))
		}
	}
}

// One store may be asked by many at a time, as nothing is written into it.
func TestAStoreAskedByManyAtATime(t *testing.T) {
	s := done(t, rightStore(t), put("f", bigFile(t)))
	ops := opsToHandIn()
	wants := []impl.Store{}
	for _, o := range ops {
		after, _ := plainOp(s, o)
		wants = append(wants, after)
	}
	wrong := make([]int, 8)
	all := sync.WaitGroup{}
	for w := range wrong {
		all.Go(func() {
			for k := range ops {
				at := (k + w) % len(ops)
				if after, _ := doOp(s, ops[at]); !sameStore(after, wants[at]) {
					wrong[w]++
				}
			}
		})
	}
	all.Wait()
	if slices.Max(wrong) != 0 {
		t.Error("other answers:", wrong)
	}
}
