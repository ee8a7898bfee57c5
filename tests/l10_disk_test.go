package tests

import (
	"fmt"
	"math"
	"slices"
	"strings"
	"testing"

	"loop.example/g00120/impl"
)

// noSectors are numbers that no disk has a sector for; some look like one when
// their high parts are cut off.
var noSectors = []int{
	-1, -2, -3, -128, impl.MaxSectors, impl.MaxSectors + 1, 1 << 16, 1 << 32, 1<<32 + 1, -1 << 32,
	math.MinInt, math.MinInt + 1, math.MaxInt, math.MaxInt - 1,
}

// keptNums keep a write: all that is not 0, though the low parts of some are.
var keptNums = []int{
	1, 2, 3, 9, -1, -2, 256, -256, 1 << 16, 1 << 32, -1 << 32, 1 << 62,
	math.MinInt, math.MinInt + 1, math.MaxInt,
}

// sectorTexts has texts that a sector can hold.
var sectorTexts = []string{
	"", "a", "b", "\x00", "\x00\x00", "\xff", "\xff\xfe\x80", "\n", "ä€", "aa",
	strings.Repeat("s", impl.SectorLen-1), strings.Repeat("s", impl.SectorLen), strings.Repeat("\xff", impl.SectorLen),
}

// longTexts has texts that no sector can hold.
var longTexts = []string{
	strings.Repeat("a", impl.SectorLen+1), strings.Repeat("\x00", impl.SectorLen+1), strings.Repeat("ä", impl.SectorLen/2) + "a",
	strings.Repeat("a", 256), strings.Repeat("a", 257), strings.Repeat("a", 1<<16), strings.Repeat("a", impl.MaxBytes+1),
}

func emptySectors(n int) []string {
	return make([]string, n)
}

// lateAt gives writes of different texts at these sectors, in order.
func lateAt(sectors ...int) []impl.Write {
	list := []impl.Write{}
	for k, i := range sectors {
		list = append(list, impl.Write{At: i, Data: fmt.Sprint("late ", k)})
	}
	return list
}

func safeTexts(n int) []string {
	list := []string{}
	for i := range n {
		list = append(list, fmt.Sprint("safe ", i))
	}
	return list
}

// diskFrom gives a disk whose texts, some of them alike, are in any order.
func diskFrom(seed uint64, sectors int, late int) impl.Disk {
	d := impl.Disk{}
	for _, x := range someNumbers(seed, sectors, len(sectorTexts)) {
		d.Sectors = append(d.Sectors, sectorTexts[x])
	}
	texts := someNumbers(seed+1000, late, len(sectorTexts))
	for k, i := range someNumbers(seed+2000, late, max(sectors, 1)) {
		d.Late = append(d.Late, impl.Write{At: i, Data: sectorTexts[texts[k]]})
	}
	return d
}

// someDisks has right disks of many shapes.
func someDisks() []impl.Disk {
	all := []impl.Disk{
		{},
		{Sectors: []string{}, Late: []impl.Write{}},
		{Sectors: emptySectors(1)},
		{Sectors: []string{"only"}, Late: []impl.Write{{}}},
		{Sectors: safeTexts(3), Late: lateAt(1, 2, 1)},
		{Sectors: safeTexts(4), Late: lateAt(3, 3, 0, 3, 0)},
		{Sectors: emptySectors(impl.MaxSectors)},
		{Sectors: slices.Repeat(longest(), impl.MaxSectors), Late: lateAt(0, impl.MaxSectors-1)},
		diskFrom(5, impl.MaxSectors, impl.MaxLate),
		diskFrom(6, 1, impl.MaxLate),
	}
	for seed := range uint64(60) {
		all = append(all, diskFrom(seed, 1+int(seed%7), int(seed%23)))
	}
	return all
}

// longest is a list of the one text that just fits.
func longest() []string {
	return []string{strings.Repeat("x", impl.SectorLen)}
}

type wrongDisk struct {
	name string
	disk impl.Disk
}

// someWrongDisks has one that is not DiskOk for each reason, at its edge and far
// from it, in the first place, the last one and amid others.
func someWrongDisks() []wrongDisk {
	all := []wrongDisk{
		{"one sector more", impl.Disk{Sectors: emptySectors(impl.MaxSectors + 1)}},
		{"many sectors more", impl.Disk{Sectors: safeTexts(3 * impl.MaxSectors), Late: lateAt(1, 1)}},
		{"one late write more", diskFrom(7, 5, impl.MaxLate+1)},
		{"many late writes more", diskFrom(8, impl.MaxSectors, 2*impl.MaxLate)},
		{"late writes of a disk of no sectors", impl.Disk{Late: lateAt(0)}},
	}
	for _, s := range longTexts {
		for _, at := range []int{0, 2, 4} {
			d := diskFrom(9, 5, 6)
			d.Sectors[at] = s
			all = append(all, wrongDisk{fmt.Sprintf("sector %d of %d bytes", at, len(s)), d})
			d = diskFrom(10, 5, 6)
			d.Late[at+1].Data = s
			all = append(all, wrongDisk{fmt.Sprintf("late write %d of %d bytes", at+1, len(s)), d})
		}
	}
	for _, i := range append([]int{5, 6}, noSectors...) {
		for _, at := range []int{0, 3, 5} {
			d := diskFrom(11, 5, 6)
			d.Late[at].At = i
			all = append(all, wrongDisk{fmt.Sprintf("late write %d at sector %d", at, i), d})
		}
	}
	return all
}

func cloneDisk(d impl.Disk) impl.Disk {
	return impl.Disk{Sectors: slices.Clone(d.Sectors), Late: slices.Clone(d.Late)}
}

func sameDisk(a impl.Disk, b impl.Disk) bool {
	return slices.Equal(a.Sectors, b.Sectors) && slices.Equal(a.Late, b.Late)
}

// plainDiskRead looks from the newest write back.
func plainDiskRead(d impl.Disk, i int) string {
	for k := len(d.Late) - 1; k >= 0; k-- {
		if d.Late[k].At == i {
			return d.Late[k].Data
		}
	}
	return d.Sectors[i]
}

// plainCrash takes the lost writes away ahead of all else.
func plainCrash(d impl.Disk, keep []int) impl.Disk {
	kept := impl.Disk{Sectors: d.Sectors}
	for k, w := range d.Late {
		if k < len(keep) && keep[k] != 0 {
			kept.Late = append(kept.Late, w)
		}
	}
	after := impl.Disk{}
	for i := range d.Sectors {
		after.Sectors = append(after.Sectors, plainDiskRead(kept, i))
	}
	return after
}

func crashesAsPlain(t *testing.T, name string, d impl.Disk, keep []int) {
	t.Helper()
	got, want := impl.DiskCrash(d, keep), plainCrash(d, keep)
	if len(got.Sectors) != len(want.Sectors) || len(got.Late) != 0 {
		t.Fatalf("%s: keeping %d of %d leaves %d sectors, %d late", name, len(keep), len(d.Late), len(got.Sectors), len(got.Late))
	}
	for i, s := range want.Sectors {
		if got.Sectors[i] != s {
			t.Fatalf("%s: keeping %v leaves %q in sector %d, not %q", name, keep, got.Sectors[i], i, s)
		}
	}
}

func readsAs(t *testing.T, name string, d impl.Disk, i int, want string) {
	t.Helper()
	if got, ok := impl.DiskRead(d, i); !ok || got != want {
		t.Fatalf("%s: sector %d reads %q, %v, not %q", name, i, got, ok, want)
	}
}

func notRead(t *testing.T, name string, d impl.Disk, i int) {
	t.Helper()
	if got, ok := impl.DiskRead(d, i); ok || got != "" {
		t.Errorf("%s: sector %d reads %q, %v", name, i, got, ok)
	}
}

// notWrittenTo fails when the disk does not come back as it was, with a false.
func notWrittenTo(t *testing.T, name string, d impl.Disk, i int, s string) {
	t.Helper()
	if got, ok := impl.DiskWrite(d, i, s); ok || !sameDisk(got, d) {
		t.Errorf("%s: %d bytes at sector %d: %v, %d sectors, %d late", name, len(s), i, ok, len(got.Sectors), len(got.Late))
	}
}

func TestDiskSpeltOut(t *testing.T) {
	d, ok := impl.DiskStart(3)
	if !ok || !sameDisk(d, impl.Disk{Sectors: []string{"", "", ""}}) || !impl.DiskOk(d) {
		t.Fatal("the start", d, ok)
	}
	for _, w := range []impl.Write{{At: 0, Data: "a"}, {At: 2, Data: "c"}, {At: 0, Data: "A"}} {
		d, ok = impl.DiskWrite(d, w.At, w.Data)
		if !ok {
			t.Fatal("a write", w)
		}
	}
	want := impl.Disk{Sectors: []string{"", "", ""}, Late: []impl.Write{{At: 0, Data: "a"}, {At: 2, Data: "c"}, {At: 0, Data: "A"}}}
	if !sameDisk(d, want) {
		t.Fatal("the writes", d)
	}
	for i, s := range []string{"A", "", "c"} {
		readsAs(t, "late", d, i, s)
	}
	if got := impl.DiskSync(d); !sameDisk(got, impl.Disk{Sectors: []string{"A", "", "c"}}) || !impl.DiskLike(d, got) {
		t.Error("all safe", got)
	}
	if got := impl.DiskCrash(d, []int{1, 0, 0}); !sameDisk(got, impl.Disk{Sectors: []string{"a", "", ""}}) || impl.DiskLike(d, got) {
		t.Error("a crash", got)
	}
}

func TestTwoLateWritesOfOneSector(t *testing.T) {
	d := impl.Disk{Sectors: []string{"x", "safe", "y"}, Late: []impl.Write{{At: 1, Data: "elder"}, {At: 1, Data: "newest"}}}
	readsAs(t, "two", d, 1, "newest")
	for _, c := range []struct {
		keep []int
		want string
	}{
		{nil, "safe"}, {[]int{0, 0}, "safe"}, {[]int{1, 0}, "elder"}, {[]int{1}, "elder"}, {[]int{0, 1}, "newest"}, {[]int{1, 1}, "newest"},
	} {
		if got := impl.DiskCrash(d, c.keep); !sameDisk(got, impl.Disk{Sectors: []string{"x", c.want, "y"}}) {
			t.Errorf("keeping %v leaves %v", c.keep, got)
		}
	}
	if got := impl.DiskSync(d); !sameDisk(got, impl.Disk{Sectors: []string{"x", "newest", "y"}}) {
		t.Error("all safe", got)
	}
}

// The writes of another sector stand between those of the one.
func TestThreeLateWritesOfOneSector(t *testing.T) {
	d := impl.Disk{
		Sectors: []string{"safe", "other"},
		Late:    []impl.Write{{At: 0, Data: "first"}, {At: 1, Data: "o"}, {At: 0, Data: "second"}, {At: 0, Data: "third"}, {At: 1, Data: "p"}},
	}
	readsAs(t, "three", d, 0, "third")
	readsAs(t, "three", d, 1, "p")
	for _, c := range []struct {
		keep       []int
		one, other string
	}{
		{[]int{0, 0, 0, 0, 0}, "safe", "other"},
		{[]int{1, 0, 0, 0, 0}, "first", "other"},
		{[]int{0, 0, 1, 0, 0}, "second", "other"},
		{[]int{0, 0, 0, 1, 0}, "third", "other"},
		{[]int{1, 0, 1, 0, 0}, "second", "other"},
		{[]int{1, 1, 0, 1, 0}, "third", "o"},
		{[]int{0, 0, 1, 1, 1}, "third", "p"},
		{[]int{0, 1, 0, 0, 0}, "safe", "o"},
		{[]int{1, 1, 0, 0, 1}, "first", "p"},
		{[]int{1, 1, 1, 1, 1}, "third", "p"},
	} {
		if got := impl.DiskCrash(d, c.keep); !sameDisk(got, impl.Disk{Sectors: []string{c.one, c.other}}) {
			t.Errorf("keeping %v leaves %v", c.keep, got)
		}
	}
}

// An empty text that is written is one that is read, over what was there.
func TestLateWritesOfNoBytes(t *testing.T) {
	for _, d := range []impl.Disk{
		{Sectors: []string{"full"}, Late: []impl.Write{{}}},
		{Sectors: []string{"full"}, Late: []impl.Write{{Data: "late"}, {}}},
		{Sectors: []string{""}, Late: []impl.Write{{Data: "late"}, {}}},
	} {
		readsAs(t, "emptied", d, 0, "")
		if got := impl.DiskSync(d); !sameDisk(got, impl.Disk{Sectors: []string{""}}) {
			t.Error("all safe", got)
		}
		keep := make([]int, len(d.Late))
		keep[len(keep)-1] = 1
		if got := impl.DiskCrash(d, keep); !sameDisk(got, impl.Disk{Sectors: []string{""}}) {
			t.Error("the emptying one alone kept", got)
		}
		if !impl.DiskLike(d, impl.Disk{Sectors: []string{""}}) || impl.DiskLike(d, impl.Disk{Sectors: []string{"full"}}) {
			t.Error("like", d)
		}
	}
}

func TestDiskStartAtItsEdges(t *testing.T) {
	for _, n := range []int{1, 2, 3, 255, 256, 400, impl.MaxSectors - 1, impl.MaxSectors} {
		d, ok := impl.DiskStart(n)
		if !ok || !sameDisk(d, impl.Disk{Sectors: emptySectors(n)}) || !impl.DiskOk(d) {
			t.Errorf("%d sectors: %v, %d of them, %d late", n, ok, len(d.Sectors), len(d.Late))
		}
	}
	for _, n := range []int{0, -1, -2, -impl.MaxSectors, impl.MaxSectors + 1, 2 * impl.MaxSectors, 1 << 32, 1<<32 + 1, -1<<32 + 1, math.MinInt, math.MinInt + 1, math.MaxInt} {
		if d, ok := impl.DiskStart(n); ok || !sameDisk(d, impl.Disk{}) {
			t.Errorf("%d sectors: %v, %d of them", n, ok, len(d.Sectors))
		}
	}
}

func TestLimitsOfADisk(t *testing.T) {
	for i, d := range someDisks() {
		if !impl.DiskOk(d) {
			t.Errorf("disk %d of %d sectors and %d late is not right", i, len(d.Sectors), len(d.Late))
		}
	}
	for _, s := range sectorTexts {
		for i := range 3 {
			d := impl.Disk{Sectors: emptySectors(3), Late: lateAt(0, 1, 2)}
			d.Sectors[i], d.Late[i].Data = s, s
			if !impl.DiskOk(d) {
				t.Errorf("a text of %d bytes at %d is not right", len(s), i)
			}
		}
	}
	full := impl.Disk{Sectors: slices.Repeat(longest(), impl.MaxSectors)}
	for k := range impl.MaxLate {
		full.Late = append(full.Late, impl.Write{At: k % impl.MaxSectors, Data: longest()[0]})
	}
	if !impl.DiskOk(full) {
		t.Error("all limits met")
	}
}

func TestDisksThatAreNotRight(t *testing.T) {
	right := impl.Disk{Sectors: emptySectors(5)}
	for _, c := range someWrongDisks() {
		if impl.DiskOk(c.disk) {
			t.Errorf("%s: is right", c.name)
		}
		for _, i := range append([]int{0, 1, 4}, noSectors...) {
			notRead(t, c.name, c.disk, i)
			notWrittenTo(t, c.name, c.disk, i, "new")
		}
		notWrittenTo(t, c.name, c.disk, 1, longTexts[0])
		if got := impl.DiskSync(c.disk); !sameDisk(got, c.disk) {
			t.Errorf("%s: DiskSync gives %d sectors, %d late", c.name, len(got.Sectors), len(got.Late))
		}
		for _, keep := range [][]int{nil, {0}, {1, 1, 1, 1, 1, 1}, slices.Repeat([]int{1}, 2*impl.MaxLate)} {
			if got := impl.DiskCrash(c.disk, keep); !sameDisk(got, c.disk) {
				t.Errorf("%s: DiskCrash gives %d sectors, %d late", c.name, len(got.Sectors), len(got.Late))
			}
		}
		if impl.DiskLike(c.disk, c.disk) || impl.DiskLike(c.disk, right) || impl.DiskLike(right, c.disk) || impl.DiskLike(impl.Disk{}, c.disk) {
			t.Errorf("%s: is like another", c.name)
		}
	}
}

// The sectors of both would read the same, were the one right.
func TestNoDiskIsLikeOneThatIsNotRight(t *testing.T) {
	right := impl.Disk{Sectors: safeTexts(3)}
	for _, wrong := range []impl.Disk{
		{Sectors: safeTexts(3), Late: []impl.Write{{At: 3, Data: "x"}}},
		{Sectors: safeTexts(3), Late: []impl.Write{{At: -1, Data: "x"}}},
		{Sectors: []string{"safe 0", longTexts[0], "safe 2"}, Late: []impl.Write{{At: 1, Data: "safe 1"}}},
		{Sectors: safeTexts(3), Late: []impl.Write{{At: 1, Data: longTexts[0]}, {At: 1, Data: "safe 1"}}},
		{Sectors: safeTexts(3), Late: slices.Repeat([]impl.Write{{At: 2, Data: "safe 2"}}, impl.MaxLate+1)},
	} {
		if impl.DiskLike(wrong, right) || impl.DiskLike(right, wrong) || impl.DiskLike(wrong, wrong) {
			t.Errorf("%d sectors and %d late are like %v", len(wrong.Sectors), len(wrong.Late), right)
		}
	}
}

func TestSectorsThatAreNotThere(t *testing.T) {
	for _, d := range []impl.Disk{{}, {Sectors: safeTexts(1)}, diskFrom(12, 5, 9), {Sectors: emptySectors(impl.MaxSectors)}} {
		n := len(d.Sectors)
		name := fmt.Sprintf("disk of %d sectors", n)
		for _, i := range append([]int{n, n + 1, n + 1<<32, -1 - n}, noSectors...) {
			notRead(t, name, d, i)
			for _, s := range []string{"", "new", longTexts[0]} {
				notWrittenTo(t, name, d, i, s)
			}
		}
		for _, i := range []int{0, n / 2, n - 1} {
			if n == 0 {
				break
			}
			readsAs(t, name, d, i, plainDiskRead(d, i))
			after, ok := impl.DiskWrite(d, i, "new")
			if !ok {
				t.Errorf("%s: no write at %d", name, i)
			}
			readsAs(t, name, after, i, "new")
		}
	}
}

func TestADiskOfNoSectors(t *testing.T) {
	for _, d := range []impl.Disk{{}, {Sectors: []string{}, Late: []impl.Write{}}} {
		if !impl.DiskOk(d) || !impl.DiskLike(d, d) || !impl.DiskLike(d, impl.Disk{}) || impl.DiskLike(d, impl.Disk{Sectors: emptySectors(1)}) {
			t.Error("right, and like itself alone")
		}
		if got := impl.DiskSync(d); !sameDisk(got, impl.Disk{}) {
			t.Error("all safe", got)
		}
		if got := impl.DiskCrash(d, []int{1, 0}); !sameDisk(got, impl.Disk{}) {
			t.Error("a crash", got)
		}
		notRead(t, "none", d, 0)
		notWrittenTo(t, "none", d, 0, "")
	}
}

func TestTextsThatAreTooLongForASector(t *testing.T) {
	for _, d := range []impl.Disk{{Sectors: emptySectors(2)}, diskFrom(13, 4, 10)} {
		for _, s := range longTexts {
			notWrittenTo(t, "long", d, 1, s)
		}
		for _, s := range sectorTexts {
			after, ok := impl.DiskWrite(d, 1, s)
			if !ok || !sameDisk(after, impl.Disk{Sectors: d.Sectors, Late: append(slices.Clone(d.Late), impl.Write{At: 1, Data: s})}) {
				t.Fatalf("%d bytes: %v, %d sectors, %d late", len(s), ok, len(after.Sectors), len(after.Late))
			}
			readsAs(t, "fits", after, 1, s)
		}
	}
}

func TestRoomForLateWrites(t *testing.T) {
	for _, sectors := range []int{1, 4, impl.MaxSectors} {
		d := diskFrom(14, sectors, impl.MaxLate-1)
		last := sectors - 1
		full, ok := impl.DiskWrite(d, last, "the last")
		if !ok || len(full.Late) != impl.MaxLate || !impl.DiskOk(full) {
			t.Fatalf("the last write: %v, %d late", ok, len(full.Late))
		}
		readsAs(t, "full", full, last, "the last")
		notWrittenTo(t, "full", full, last, "one more")
		notWrittenTo(t, "full", full, last, "")
		notWrittenTo(t, "full", full, sectors, longTexts[0])
		safe := impl.DiskSync(full)
		if len(safe.Late) != 0 || !impl.DiskLike(full, safe) {
			t.Fatal("a full disk made safe")
		}
		again, ok := impl.DiskWrite(safe, last, "there is room")
		if !ok || len(again.Late) != 1 {
			t.Fatal("no room behind DiskSync")
		}
		if _, ok := impl.DiskWrite(impl.DiskCrash(full, nil), last, "there is room"); !ok {
			t.Fatal("no room behind a crash")
		}
	}
}

func TestWhatIsWrittenIsRead(t *testing.T) {
	for k, d := range someDisks() {
		if len(d.Sectors) > 50 || len(d.Late) > 50 {
			continue
		}
		now := []string{}
		for i := range d.Sectors {
			now = append(now, plainDiskRead(d, i))
		}
		texts := someNumbers(uint64(k), 30, len(sectorTexts))
		for step, i := range someNumbers(uint64(k)+50, 30, max(len(d.Sectors), 1)) {
			if len(d.Sectors) == 0 {
				break
			}
			s := sectorTexts[texts[step]]
			before := d
			after, ok := impl.DiskWrite(d, i, s)
			if !ok || !slices.Equal(after.Sectors, before.Sectors) || !slices.Equal(after.Late, append(slices.Clone(before.Late), impl.Write{At: i, Data: s})) {
				t.Fatalf("disk %d, step %d: %v, %d sectors, %d late", k, step, ok, len(after.Sectors), len(after.Late))
			}
			now[i] = s
			for j, want := range now {
				readsAs(t, fmt.Sprint("disk ", k, ", step ", step), after, j, want)
			}
			d = after
		}
	}
}

func TestToMakeAllSafeChangesNothingThatIsRead(t *testing.T) {
	for k, d := range someDisks() {
		want := []string{}
		for i := range d.Sectors {
			want = append(want, plainDiskRead(d, i))
		}
		safe := impl.DiskSync(d)
		if !sameDisk(safe, impl.Disk{Sectors: want}) || !impl.DiskOk(safe) {
			t.Fatalf("disk %d made safe: %d sectors, %d late", k, len(safe.Sectors), len(safe.Late))
		}
		if !impl.DiskLike(d, safe) || !impl.DiskLike(safe, d) || !sameDisk(impl.DiskSync(safe), safe) {
			t.Fatalf("disk %d made safe is another", k)
		}
		for _, i := range []int{0, 1, len(want) / 2, len(want) - 1} {
			if i >= 0 && i < len(want) {
				readsAs(t, fmt.Sprint("disk ", k), safe, i, want[i])
				readsAs(t, fmt.Sprint("disk ", k), d, i, want[i])
			}
		}
		if !sameDisk(impl.DiskCrash(safe, []int{1, 1, 0}), safe) || !sameDisk(impl.DiskCrash(safe, nil), safe) {
			t.Fatalf("disk %d lost what was safe", k)
		}
		all := slices.Repeat([]int{1}, len(d.Late))
		if !sameDisk(impl.DiskCrash(d, all), safe) {
			t.Fatalf("disk %d with all kept is not as made safe", k)
		}
	}
}

// Every row of five writes on two sectors, and every choice among them.
func TestEveryCrashOfFiveWrites(t *testing.T) {
	for rows := range 1 << 5 {
		places := []int{}
		for k := range 5 {
			places = append(places, rows>>k&1)
		}
		d := impl.Disk{Sectors: safeTexts(2), Late: lateAt(places...)}
		for choice := range 1 << 5 {
			keep := []int{}
			for k := range 5 {
				keep = append(keep, choice>>k&1)
			}
			crashesAsPlain(t, "five writes", d, keep)
		}
	}
}

func TestBehindACrashEachSectorWasSafeOrWrittenThere(t *testing.T) {
	for k, d := range someDisks() {
		for seed := range uint64(5) {
			keep := someNumbers(seed+uint64(k), len(d.Late), 2)
			crashesAsPlain(t, fmt.Sprint("disk ", k), d, keep)
			after := impl.DiskCrash(d, keep)
			if !impl.DiskOk(after) || len(after.Sectors) != len(d.Sectors) || len(after.Late) != 0 {
				t.Fatalf("disk %d: %d sectors, %d late", k, len(after.Sectors), len(after.Late))
			}
			for i, s := range after.Sectors[:min(len(after.Sectors), 40)] {
				if s != d.Sectors[i] && !slices.Contains(d.Late, impl.Write{At: i, Data: s}) {
					t.Fatalf("disk %d: sector %d has %q behind a crash", k, i, s)
				}
			}
		}
		if got := impl.DiskCrash(d, nil); !sameDisk(got, impl.Disk{Sectors: d.Sectors}) {
			t.Fatalf("disk %d: nothing kept, and not as it was safe", k)
		}
	}
}

func TestKeepsOfOtherLengths(t *testing.T) {
	for k, d := range someDisks() {
		n := len(d.Late)
		for _, length := range []int{0, 1, n - 1, n, n + 1, n + 100, 2 * impl.MaxLate} {
			if length < 0 {
				continue
			}
			crashesAsPlain(t, fmt.Sprint("disk ", k), d, slices.Repeat([]int{1}, length))
			crashesAsPlain(t, fmt.Sprint("disk ", k), d, make([]int, length))
			crashesAsPlain(t, fmt.Sprint("disk ", k), d, someNumbers(uint64(k), length, 2))
		}
	}
	d := impl.Disk{Sectors: safeTexts(3), Late: lateAt(0, 1, 2)}
	for _, c := range []struct {
		keep []int
		want []string
	}{
		{nil, []string{"safe 0", "safe 1", "safe 2"}},
		{[]int{}, []string{"safe 0", "safe 1", "safe 2"}},
		{[]int{1}, []string{"late 0", "safe 1", "safe 2"}},
		{[]int{0, 1}, []string{"safe 0", "late 1", "safe 2"}},
		{[]int{0, 0, 1}, []string{"safe 0", "safe 1", "late 2"}},
		{[]int{0, 0, 1, 1, 1}, []string{"safe 0", "safe 1", "late 2"}},
		{[]int{0, 0, 0, 1, 1, 1}, []string{"safe 0", "safe 1", "safe 2"}},
	} {
		if got := impl.DiskCrash(d, c.keep); !sameDisk(got, impl.Disk{Sectors: c.want}) {
			t.Errorf("keeping %v leaves %v", c.keep, got)
		}
	}
}

// What lies in the spare room behind keep is no keep.
func TestKeepEndsWhereItEnds(t *testing.T) {
	d := impl.Disk{Sectors: safeTexts(3), Late: lateAt(0, 1, 2)}
	keep := []int{1, 1, 1}[:1]
	if got := impl.DiskCrash(d, keep); !sameDisk(got, impl.Disk{Sectors: []string{"late 0", "safe 1", "safe 2"}}) {
		t.Error("a keep behind the end", got)
	}
}

func TestKeepsThatAreNeitherNoughtNorOne(t *testing.T) {
	d := impl.Disk{Sectors: safeTexts(2), Late: lateAt(0, 1, 0)}
	for _, x := range keptNums {
		for _, keep := range [][]int{{x}, {0, x}, {0, 0, x}, {x, x, 0}, {x, 0, -x}, {x, x, x}, {0, 0, 0, x}} {
			crashesAsPlain(t, "keeps", d, keep)
		}
		if got := impl.DiskCrash(d, []int{x, 0, 0}); !sameDisk(got, impl.Disk{Sectors: []string{"late 0", "safe 1"}}) {
			t.Errorf("keep %d leaves %v", x, got)
		}
	}
}

func TestDisksThatAreAlike(t *testing.T) {
	base := impl.Disk{Sectors: []string{"a", "", "c"}}
	for _, like := range []impl.Disk{
		{Sectors: []string{"a", "", "c"}, Late: []impl.Write{}},
		{Sectors: []string{"", "", ""}, Late: []impl.Write{{At: 2, Data: "c"}, {At: 0, Data: "a"}}},
		{Sectors: []string{"x", "y", "c"}, Late: []impl.Write{{At: 0, Data: "z"}, {At: 1}, {At: 0, Data: "a"}}},
		{Sectors: []string{"a", "", "c"}, Late: []impl.Write{{At: 0, Data: "b"}, {At: 0, Data: "a"}, {At: 2, Data: "c"}}},
	} {
		if !impl.DiskLike(base, like) || !impl.DiskLike(like, base) || !impl.DiskLike(like, like) {
			t.Errorf("%v is not like %v", like, base)
		}
	}
	for _, other := range []impl.Disk{
		{},
		{Sectors: []string{"a", ""}},
		{Sectors: []string{"a", "", "c", ""}},
		{Sectors: []string{"b", "", "c"}},
		{Sectors: []string{"a", "\x00", "c"}},
		{Sectors: []string{"a", "", "cc"}},
		{Sectors: []string{"a", "", ""}},
		{Sectors: []string{"c", "", "a"}},
		{Sectors: []string{"a", "", "c"}, Late: []impl.Write{{At: 0, Data: "b"}}},
		{Sectors: []string{"a", "", "c"}, Late: []impl.Write{{At: 2}}},
		{Sectors: []string{"a", "", "c"}, Late: []impl.Write{{At: 1, Data: ""}, {At: 1, Data: "b"}}},
		{Sectors: []string{"x", "", "c"}, Late: []impl.Write{{At: 0, Data: "a"}, {At: 0, Data: "x"}}},
	} {
		if impl.DiskLike(base, other) || impl.DiskLike(other, base) || !impl.DiskLike(other, other) {
			t.Errorf("%v is like %v", other, base)
		}
	}
}

func TestLikeIsAsWhatIsRead(t *testing.T) {
	all := []impl.Disk{}
	for _, a := range []string{"", "a"} {
		for _, b := range []string{"", "a"} {
			d := impl.Disk{Sectors: []string{a, b}}
			all = append(all, d)
			for _, at := range []int{0, 1} {
				for _, s := range []string{"", "a"} {
					all = append(all, impl.Disk{Sectors: []string{a, b}, Late: []impl.Write{{At: at, Data: s}}})
					all = append(all, impl.Disk{Sectors: []string{a, b}, Late: []impl.Write{{At: at, Data: s}, {At: 1, Data: "a"}, {At: at, Data: s}}})
				}
			}
		}
	}
	for _, a := range all {
		for _, b := range all {
			same := plainDiskRead(a, 0) == plainDiskRead(b, 0) && plainDiskRead(a, 1) == plainDiskRead(b, 1)
			if impl.DiskLike(a, b) != same {
				t.Fatalf("DiskLike(%v, %v) is not %v", a, b, same)
			}
		}
	}
}

// roomyDisk has spare room behind both lists; the lists with that room show
// whether it was written into.
func roomyDisk(d impl.Disk) (impl.Disk, []string, []impl.Write) {
	sectors := append(slices.Clone(d.Sectors), "spare", "spare", "spare")
	late := append(slices.Clone(d.Late), impl.Write{At: 1, Data: "spare"}, impl.Write{At: 2, Data: "spare"})
	return impl.Disk{Sectors: sectors[:len(d.Sectors)], Late: late[:len(d.Late)]}, sectors, late
}

// spoilDisk writes over both lists and all the room behind them.
func spoilDisk(d impl.Disk) {
	sectors := d.Sectors[:cap(d.Sectors)]
	for i := range sectors {
		sectors[i] = "spoilt"
	}
	late := d.Late[:cap(d.Late)]
	for k := range late {
		late[k] = impl.Write{At: -99, Data: "spoilt"}
	}
}

// diskCalls has every call that answers a disk, where it does something and
// where it refuses.
func diskCalls(keep []int) map[string]func(impl.Disk) impl.Disk {
	write := func(i int, s string) func(impl.Disk) impl.Disk {
		return func(d impl.Disk) impl.Disk {
			after, _ := impl.DiskWrite(d, i, s)
			return after
		}
	}
	return map[string]func(impl.Disk) impl.Disk{
		"a write":                write(0, "new"),
		"a write at no sector":   write(-1, "new"),
		"a write that is long":   write(0, longTexts[0]),
		"DiskSync":               impl.DiskSync,
		"DiskCrash":              func(d impl.Disk) impl.Disk { return impl.DiskCrash(d, keep) },
		"DiskCrash with no keep": func(d impl.Disk) impl.Disk { return impl.DiskCrash(d, nil) },
	}
}

func disksToHandIn() []impl.Disk {
	all := []impl.Disk{{}, {Sectors: safeTexts(3)}, {Sectors: safeTexts(3), Late: lateAt(0, 2, 0, 0)}, diskFrom(15, 6, 20), diskFrom(16, 9, impl.MaxLate)}
	for _, c := range someWrongDisks() {
		all = append(all, c.disk)
	}
	return all
}

func TestWhatIsHandedInToADiskIsLeftAlone(t *testing.T) {
	for k, was := range disksToHandIn() {
		keepRoom := append(someNumbers(3, len(was.Late), 3), 7, 7)
		keptRoom := slices.Clone(keepRoom)
		keep := keepRoom[:len(was.Late)]
		for name, call := range diskCalls(keep) {
			d, sectors, late := roomyDisk(was)
			_, wantSectors, wantLate := roomyDisk(was)
			after := call(d)
			impl.DiskOk(d)
			impl.DiskRead(d, 0)
			impl.DiskLike(d, d)
			if !slices.Equal(sectors, wantSectors) || !slices.Equal(late, wantLate) || !slices.Equal(keepRoom, keptRoom) {
				t.Fatalf("disk %d, %s: an argument or what stands behind it was written into", k, name)
			}
			spoilDisk(after)
			if !slices.Equal(sectors, wantSectors) || !slices.Equal(late, wantLate) || !slices.Equal(keepRoom, keptRoom) {
				t.Fatalf("disk %d, %s: the answer shares memory with an argument", k, name)
			}
		}
	}
}

// What is done to the arguments later does not reach an answer.
func TestAnswersOfADiskStayAsTheyAre(t *testing.T) {
	for k, was := range disksToHandIn() {
		keep := someNumbers(5, len(was.Late), 2)
		for name, call := range diskCalls(keep) {
			d := cloneDisk(was)
			after := call(d)
			want := cloneDisk(after)
			spoilDisk(d)
			if !sameDisk(after, want) {
				t.Fatalf("disk %d, %s: the answer changed with its argument", k, name)
			}
		}
	}
}

// Two writes on one disk, as two ways to go on from it, know nothing of each
// other.
func TestTwoWaysToGoOn(t *testing.T) {
	d := impl.Disk{Sectors: safeTexts(2)}
	for range 20 {
		d, _ = impl.DiskWrite(d, 0, "before")
		one, _ := impl.DiskWrite(d, 1, "one")
		other, _ := impl.DiskWrite(d, 1, "other")
		readsAs(t, "one", one, 1, "one")
		readsAs(t, "other", other, 1, "other")
		readsAs(t, "neither", d, 1, "safe 1")
	}
	a, _ := impl.DiskStart(2)
	b, _ := impl.DiskStart(2)
	spoilDisk(a)
	if !sameDisk(b, impl.Disk{Sectors: emptySectors(2)}) {
		t.Error("two disks at their start share memory")
	}
}

// A call that kept a late write would tell it in the next one.
func TestDisksHangOnNothingAhead(t *testing.T) {
	plain := impl.Disk{Sectors: safeTexts(3)}
	for _, d := range append(someDisks(), disksToHandIn()...) {
		impl.DiskRead(d, 1)
		impl.DiskWrite(d, 1, "kept?")
		impl.DiskSync(d)
		impl.DiskCrash(d, []int{0, 1})
		impl.DiskLike(d, d)
		for i := range 3 {
			readsAs(t, "a disk of its own", plain, i, fmt.Sprint("safe ", i))
		}
		if !sameDisk(impl.DiskSync(plain), plain) || !sameDisk(impl.DiskCrash(plain, []int{1, 1}), plain) {
			t.Fatal("something of another disk was made safe")
		}
	}
}
