package tests

import (
	"encoding/binary"
	"fmt"
	"math"
	"slices"
	"strings"
	"testing"

	"loop.example/g00120/impl"
)

const mostRecords = 1000000000

// mostParts is how many parts a text of MaxBytes bytes has, lastBytes how many
// bytes the last of them.
const (
	mostParts = 518
	lastBytes = 28
)

// noRecordNumbers are no numbers of records; some look like one when their high
// parts are cut off.
var noRecordNumbers = []int{
	0, -1, -2, mostRecords + 1, mostRecords + 2, 1 << 31, 1<<32 + 1, 1<<32 + 7, -1 << 32, 1 - 1<<32,
	math.MinInt, math.MinInt + 1, math.MaxInt, math.MaxInt - 1,
}

// recordLengths has the lengths at which a text comes to need one part more.
var recordLengths = []int{
	0, 1, 2, impl.PartLen - 1, impl.PartLen, impl.PartLen + 1, 2*impl.PartLen - 1, 2 * impl.PartLen, 2*impl.PartLen + 1,
	3 * impl.PartLen, 3*impl.PartLen + 1, 7 * impl.PartLen, 7*impl.PartLen + 1, 255 * impl.PartLen, 256*impl.PartLen + 5,
}

func partOf(q uint32, k uint32, n uint32, bytes string) string {
	b := binary.BigEndian.AppendUint32(nil, q)
	b = binary.BigEndian.AppendUint32(b, k)
	b = binary.BigEndian.AppendUint32(b, n)
	return string(b) + bytes
}

// plainParts cuts the text from its front, and counts the parts when all are cut.
func plainParts(q int, s string) []string {
	cut := []string{}
	for len(s) > 116 {
		cut = append(cut, s[:116])
		s = s[116:]
	}
	cut = append(cut, s)
	for k := range cut {
		cut[k] = partOf(uint32(q), uint32(k), uint32(len(cut)), cut[k])
	}
	return cut
}

// plainRecord looks at the parts one by one, at each word by itself.
func plainRecord(sectors []string, q int) (string, int, bool) {
	text, n := "", uint32(1)
	for k := 0; uint32(k) < n; k++ {
		if k >= len(sectors) || len(sectors[k]) < 12 {
			return "", 0, false
		}
		head, bytes := []byte(sectors[k][:12]), sectors[k][12:]
		if k == 0 {
			n = binary.BigEndian.Uint32(head[8:])
		}
		if binary.BigEndian.Uint32(head) != uint32(q) || binary.BigEndian.Uint32(head[4:]) != uint32(k) {
			return "", 0, false
		}
		if binary.BigEndian.Uint32(head[8:]) != n || n == 0 {
			return "", 0, false
		}
		last := uint32(k) == n-1
		if !last && len(bytes) != 116 || last && k > 0 && bytes == "" {
			return "", 0, false
		}
		text += bytes
	}
	return text, int(n), len(text) <= 60000
}

func plainLogOf(sectors []string) ([]string, int) {
	texts, end := []string{}, 0
	for {
		s, n, ok := plainRecord(sectors[end:], len(texts)+1)
		if !ok {
			return texts, end
		}
		texts, end = append(texts, s), end+n
	}
}

func nowOn(d impl.Disk) []string {
	now := []string{}
	for i := range d.Sectors {
		now = append(now, plainDiskRead(d, i))
	}
	return now
}

func plainLogOpen(d impl.Disk) (impl.Disk, []string, int) {
	now := nowOn(d)
	texts, end := plainLogOf(now)
	room := impl.MaxLate - len(d.Late)
	for i := end; i < len(now); i++ {
		if now[i] != "" {
			room--
		}
		now[i] = ""
	}
	if room < 0 {
		return d, nil, 0
	}
	return impl.Disk{Sectors: now}, texts, end
}

// logIs fails when what is read, opened or free is not as the plain one has it.
func logIs(t *testing.T, name string, d impl.Disk) {
	t.Helper()
	texts, end := plainLogOf(nowOn(d))
	if got, at := impl.LogRead(d); at != end || !slices.Equal(got, texts) {
		t.Fatalf("%s: read are %d records up to %d, not %d up to %d", name, len(got), at, len(texts), end)
	}
	if got := impl.LogFree(d); got != len(d.Sectors)-end {
		t.Fatalf("%s: free are %d, not %d", name, got, len(d.Sectors)-end)
	}
	want, texts, end := plainLogOpen(d)
	if got, list, at := impl.LogOpen(d); at != end || !slices.Equal(list, texts) || !sameDisk(got, want) {
		t.Fatalf("%s: opened are %d records up to %d, not %d up to %d, with %d sectors, %d late", name, len(list), at, len(texts), end, len(got.Sectors), len(got.Late))
	}
}

// holds fails when the disk does not have these records, and no more.
func holds(t *testing.T, name string, d impl.Disk, texts []string, end int) {
	t.Helper()
	if got, at := impl.LogRead(d); at != end || !slices.Equal(got, texts) {
		t.Fatalf("%s: read are %d records up to %d, not %d up to %d", name, len(got), at, len(texts), end)
	}
	logIs(t, name, d)
}

// withRecord appends and fails when it does not go.
func withRecord(t *testing.T, d impl.Disk, at int, q int, s string) (impl.Disk, int) {
	t.Helper()
	after, to, ok := impl.LogAppend(d, at, q, s)
	if want := at + len(plainParts(q, s)); !ok || to != want {
		t.Fatalf("record %d of %d bytes at %d of %d: %v, behind it %d, not %d", q, len(s), at, len(d.Sectors), ok, to, want)
	}
	return after, to
}

// withRecords appends these, numbered from q on.
func withRecords(t *testing.T, d impl.Disk, at int, q int, texts ...string) (impl.Disk, int) {
	t.Helper()
	for k, s := range texts {
		d, at = withRecord(t, d, at, q+k, s)
	}
	return d, at
}

// notAppended fails when the disk and at do not come back as they were, with a
// false.
func notAppended(t *testing.T, name string, d impl.Disk, at int, q int, s string) {
	t.Helper()
	if got, to, ok := impl.LogAppend(d, at, q, s); ok || to != at || !sameDisk(got, d) {
		t.Errorf("%s: record %d of %d bytes at %d: %v, %d, with %d sectors, %d late", name, q, len(s), at, ok, to, len(got.Sectors), len(got.Late))
	}
}

// laid has the parts of these records one behind the other, from record 1 on.
func laid(texts ...string) []string {
	list := []string{}
	for k, s := range texts {
		list = append(list, plainParts(k+1, s)...)
	}
	return list
}

func TestPartsSpeltOut(t *testing.T) {
	full := strings.Repeat("x", 116)
	for _, c := range []struct {
		q    int
		s    string
		want []string
	}{
		{1, "", []string{"\x00\x00\x00\x01\x00\x00\x00\x00\x00\x00\x00\x01"}},
		{1, "a", []string{"\x00\x00\x00\x01\x00\x00\x00\x00\x00\x00\x00\x01a"}},
		{258, "\x00\xff", []string{"\x00\x00\x01\x02\x00\x00\x00\x00\x00\x00\x00\x01\x00\xff"}},
		{1000000000, "z", []string{"\x3b\x9a\xca\x00\x00\x00\x00\x00\x00\x00\x00\x01z"}},
		{3, full, []string{"\x00\x00\x00\x03\x00\x00\x00\x00\x00\x00\x00\x01" + full}},
		{3, full + "y", []string{
			"\x00\x00\x00\x03\x00\x00\x00\x00\x00\x00\x00\x02" + full,
			"\x00\x00\x00\x03\x00\x00\x00\x01\x00\x00\x00\x02y",
		}},
		{5, full + full, []string{
			"\x00\x00\x00\x05\x00\x00\x00\x00\x00\x00\x00\x02" + full,
			"\x00\x00\x00\x05\x00\x00\x00\x01\x00\x00\x00\x02" + full,
		}},
		{5, full + full + "\x00", []string{
			"\x00\x00\x00\x05\x00\x00\x00\x00\x00\x00\x00\x03" + full,
			"\x00\x00\x00\x05\x00\x00\x00\x01\x00\x00\x00\x03" + full,
			"\x00\x00\x00\x05\x00\x00\x00\x02\x00\x00\x00\x03\x00",
		}},
	} {
		if got := impl.LogParts(c.q, c.s); !slices.Equal(got, c.want) {
			t.Errorf("record %d of %d bytes has the parts %q", c.q, len(c.s), got)
		}
	}
	if impl.PartLen != 116 {
		t.Error("PartLen is", impl.PartLen)
	}
}

func TestPartsOfAllLengths(t *testing.T) {
	lengths := append([]int{impl.MaxBytes - 1, impl.MaxBytes, impl.MaxBytes - lastBytes, impl.MaxBytes - lastBytes + 1}, recordLengths...)
	for n := range 4 * impl.PartLen {
		lengths = append(lengths, n)
	}
	for _, n := range lengths {
		s := textFrom(uint64(n), n)
		for _, q := range []int{1, 2, 255, 256, 65536, 1 << 24, mostRecords - 1, mostRecords} {
			parts := impl.LogParts(q, s)
			if !slices.Equal(parts, plainParts(q, s)) {
				t.Fatalf("record %d of %d bytes has other parts, %d of them", q, n, len(parts))
			}
			back := ""
			for _, p := range parts {
				if len(p) > impl.SectorLen {
					t.Fatalf("a part of record %d has %d bytes", q, len(p))
				}
				back += p[12:]
			}
			if back != s {
				t.Fatalf("record %d of %d bytes does not come back from its parts", q, n)
			}
		}
	}
	if n := len(impl.LogParts(1, someText(impl.MaxBytes))); n != mostParts {
		t.Error("the longest record has", n, "parts")
	}
}

func TestNoParts(t *testing.T) {
	for _, q := range noRecordNumbers {
		for _, s := range []string{"", "a", someText(impl.PartLen + 1), someText(impl.MaxBytes), someText(impl.MaxBytes + 1)} {
			if got := impl.LogParts(q, s); len(got) != 0 {
				t.Errorf("record %d of %d bytes has %d parts", q, len(s), len(got))
			}
			notAppended(t, "no number", impl.Disk{Sectors: emptySectors(impl.MaxSectors)}, 0, q, s)
		}
	}
	for _, q := range []int{1, 2, mostRecords} {
		for _, n := range []int{impl.MaxBytes + 1, impl.MaxBytes + 2, 2 * impl.MaxBytes, 1 << 20} {
			if got := impl.LogParts(q, someText(n)); len(got) != 0 {
				t.Errorf("record %d of %d bytes has %d parts", q, n, len(got))
			}
			notAppended(t, "too long", impl.Disk{Sectors: emptySectors(impl.MaxSectors)}, 0, q, someText(n))
		}
	}
}

func TestRecordsAppendedOneBehindTheOtherAreRead(t *testing.T) {
	d, _ := impl.DiskStart(impl.MaxSectors)
	holds(t, "at first", d, nil, 0)
	texts, late, end := []string{}, []impl.Write{}, 0
	for k, n := range recordLengths {
		s := textFrom(uint64(k), n)
		for i, p := range plainParts(k+1, s) {
			late = append(late, impl.Write{At: end + i, Data: p})
		}
		d, end = withRecord(t, d, end, k+1, s)
		texts = append(texts, s)
		if !sameDisk(d, impl.Disk{Sectors: emptySectors(impl.MaxSectors), Late: late}) {
			t.Fatalf("record %d of %d bytes is not written behind Late, part by part", k+1, n)
		}
		holds(t, fmt.Sprint("late ", k+1), d, texts, end)
		holds(t, fmt.Sprint("safe ", k+1), impl.DiskSync(d), texts, end)
	}
}

// Sectors and late writes by turns: some records are safe, the last ones are not.
func TestRecordsAppendedAndMadeSafeByTurns(t *testing.T) {
	for seed := range uint64(40) {
		d, _ := impl.DiskStart(60)
		texts, end := []string{}, 0
		for k, n := range someNumbers(seed, 12, 5*impl.PartLen) {
			s := textFrom(seed+uint64(k), n)
			d, end = withRecord(t, d, end, k+1, s)
			texts = append(texts, s)
			if (seed+uint64(k))%3 == 0 {
				d = impl.DiskSync(d)
			}
			holds(t, fmt.Sprint("seed ", seed, ", record ", k+1), d, texts, end)
		}
	}
}

func TestLogReadTakesTheNewestOfASector(t *testing.T) {
	one, other := laid("one", "two"), laid("ONE", "TWO")
	late := func(list ...impl.Write) impl.Disk {
		return impl.Disk{Sectors: slices.Concat(one, []string{""}), Late: list}
	}
	holds(t, "a newer text", late(impl.Write{At: 0, Data: other[0]}), []string{"ONE", "two"}, 2)
	holds(t, "the newest text", late(impl.Write{At: 0, Data: other[0]}, impl.Write{At: 0, Data: one[0]}), []string{"one", "two"}, 2)
	holds(t, "written empty", late(impl.Write{At: 1}), []string{"one"}, 1)
	holds(t, "written empty and anew", late(impl.Write{At: 1}, impl.Write{At: 1, Data: other[1]}), []string{"one", "TWO"}, 2)
	holds(t, "the first written empty", late(impl.Write{At: 0}), nil, 0)
	holds(t, "one more", late(impl.Write{At: 2, Data: partOf(3, 0, 1, "three")}), []string{"one", "two", "three"}, 3)
	holds(t, "one more, lost again", late(impl.Write{At: 2, Data: partOf(3, 0, 1, "three")}, impl.Write{At: 2, Data: "x"}), []string{"one", "two"}, 2)
}

func TestAppendWhereAndAsItIsTold(t *testing.T) {
	d := impl.Disk{Sectors: safeTexts(5), Late: lateAt(4, 0)}
	long := someText(impl.PartLen + 1)
	for _, c := range []struct {
		at int
		q  int
		s  string
	}{
		{0, 1, ""}, {0, mostRecords, ""}, {0, 77, "a"}, {4, 1, "a"}, {4, 5, someText(impl.PartLen)}, {3, 2, long}, {0, 9, long},
		{2, 3, someText(2*impl.PartLen + 1)}, {2, 3, someText(3 * impl.PartLen)}, {0, 1, someText(4*impl.PartLen + 1)}, {0, 1, someText(5 * impl.PartLen)},
	} {
		want := cloneDisk(d)
		for k, p := range plainParts(c.q, c.s) {
			want.Late = append(want.Late, impl.Write{At: c.at + k, Data: p})
		}
		got, to, ok := impl.LogAppend(d, c.at, c.q, c.s)
		if !ok || to != c.at+len(want.Late)-2 || !sameDisk(got, want) || !impl.DiskOk(got) {
			t.Errorf("record %d of %d bytes at %d: %v, %d, %d late", c.q, len(c.s), c.at, ok, to, len(got.Late))
		}
	}
}

func TestAppendWhereThereAreNotSectorsEnough(t *testing.T) {
	full := func(n int) string { return someText(n * impl.PartLen) }
	for _, sectors := range []int{1, 2, 5, mostParts - 1, mostParts, impl.MaxSectors} {
		d := impl.Disk{Sectors: emptySectors(sectors)}
		for _, n := range []int{1, 2, 3, 5, 400, mostParts - 1} {
			if n <= sectors {
				_, to := withRecord(t, d, sectors-n, 1, full(n))
				if to != sectors {
					t.Errorf("%d parts up to the end: %d", n, to)
				}
			}
			for _, at := range []int{sectors - n + 1, sectors - n + 2, sectors, sectors + 1} {
				notAppended(t, fmt.Sprint(sectors, " sectors"), d, at, 1, full(n))
			}
		}
		for _, at := range append([]int{sectors, sectors + 1, sectors + 1<<32}, noSectors...) {
			for _, s := range []string{"", "a", full(1), full(2), full(sectors + 1)} {
				notAppended(t, fmt.Sprint(sectors, " sectors"), d, at, 1, s[:min(len(s), impl.MaxBytes)])
			}
		}
		notAppended(t, "one part too many", d, 0, 1, someText(min(sectors*impl.PartLen, impl.MaxBytes)+1))
	}
}

func TestTheLongestRecord(t *testing.T) {
	s := textFrom(21, impl.MaxBytes)
	for _, c := range []struct {
		sectors int
		at      int
		fits    bool
	}{
		{mostParts, 0, true}, {mostParts - 1, 0, false}, {mostParts, 1, false}, {mostParts + 1, 1, true}, {impl.MaxSectors, impl.MaxSectors - mostParts, true},
		{impl.MaxSectors, impl.MaxSectors - mostParts + 1, false},
	} {
		d := impl.Disk{Sectors: emptySectors(c.sectors)}
		if !c.fits {
			notAppended(t, "the longest", d, c.at, 1, s)
			continue
		}
		after, end := withRecord(t, d, c.at, 1, s)
		if c.at == 0 {
			holds(t, "the longest", after, []string{s}, end)
		} else {
			holds(t, "the longest, not at the front", after, nil, 0)
		}
	}
	d, end := withRecords(t, impl.Disk{Sectors: emptySectors(impl.MaxSectors)}, 0, 1, "ahead", s, "amid", s, "behind")
	holds(t, "two of the longest", d, []string{"ahead", s, "amid", s, "behind"}, end)
}

// A last part with one byte more, or one part more, is one of a text that is
// too long.
func TestPartsOfATextThatIsTooLong(t *testing.T) {
	for _, n := range []int{impl.MaxBytes + 1, impl.MaxBytes + 2, mostParts * impl.PartLen, mostParts*impl.PartLen + 1, 1000 * impl.PartLen, 1499 * impl.PartLen} {
		sectors := slices.Concat(laid("ahead"), plainParts(2, someText(n)))
		holds(t, fmt.Sprint(n, " bytes"), impl.Disk{Sectors: sectors}, []string{"ahead"}, 1)
	}
	for _, n := range []int{impl.MaxBytes, impl.MaxBytes - 1} {
		sectors := slices.Concat(laid("ahead"), plainParts(2, someText(n)))
		holds(t, fmt.Sprint(n, " bytes"), impl.Disk{Sectors: sectors}, []string{"ahead", someText(n)}, 1+mostParts)
	}
}

func TestAppendWhereLateHasNotRoom(t *testing.T) {
	for _, n := range []int{1, 2, 3, 10, mostParts} {
		s := someText(min(n*impl.PartLen, impl.MaxBytes))
		just := diskFrom(22, impl.MaxSectors, impl.MaxLate-n)
		after, _ := withRecord(t, just, 7, 3, s)
		if len(after.Late) != impl.MaxLate || !impl.DiskOk(after) || !slices.Equal(after.Late[:impl.MaxLate-n], just.Late) {
			t.Errorf("%d parts into the last room: %d late", n, len(after.Late))
		}
		for k, p := range plainParts(3, s) {
			if after.Late[impl.MaxLate-n+k] != (impl.Write{At: 7 + k, Data: p}) {
				t.Fatalf("part %d of %d is not written", k, n)
			}
		}
		notAppended(t, "full", after, 7, 3, "")
		for _, late := range []int{impl.MaxLate - n + 1, impl.MaxLate} {
			notAppended(t, fmt.Sprint(late, " late"), diskFrom(23, impl.MaxSectors, late), 7, 3, s)
		}
		if _, _, ok := impl.LogAppend(impl.DiskSync(diskFrom(23, impl.MaxSectors, impl.MaxLate)), 7, 3, s); !ok {
			t.Error("no room behind DiskSync")
		}
	}
}

func TestOpenWhereLateHasNotRoom(t *testing.T) {
	rest := []string{"junk", "", "x", "", "\x00"}
	sectors := slices.Concat(laid("one", "two"), rest)
	elder := impl.Write{At: 0, Data: plainParts(1, "one")[0]}
	for room, opens := range map[int]bool{3: true, 4: true, 100: true, 2: false, 1: false, 0: false} {
		d := impl.Disk{Sectors: sectors, Late: slices.Repeat([]impl.Write{elder}, impl.MaxLate-room)}
		holds(t, fmt.Sprint("room ", room), d, []string{"one", "two"}, 2)
		got, texts, end := impl.LogOpen(d)
		if opens && (end != 2 || len(texts) != 2 || !sameDisk(got, impl.Disk{Sectors: slices.Concat(laid("one", "two"), emptySectors(5))})) {
			t.Errorf("room for %d: %d records, %d", room, len(texts), end)
		}
		if !opens && (end != 0 || len(texts) != 0 || !sameDisk(got, d)) {
			t.Errorf("room for %d: %d records, %d, %d late", room, len(texts), end, len(got.Late))
		}
	}
	clean := impl.Disk{Sectors: slices.Concat(laid("one"), emptySectors(3)), Late: slices.Repeat([]impl.Write{elder}, impl.MaxLate)}
	if got, texts, end := impl.LogOpen(clean); end != 1 || !slices.Equal(texts, []string{"one"}) || !sameDisk(got, impl.Disk{Sectors: clean.Sectors}) {
		t.Error("nothing is to be written, and there is no room:", len(texts), end)
	}
	most := impl.Disk{Sectors: slices.Repeat([]string{"x"}, impl.MaxSectors), Late: slices.Repeat([]impl.Write{{At: 3, Data: "y"}}, impl.MaxLate-impl.MaxSectors)}
	if got, _, _ := impl.LogOpen(most); !sameDisk(got, impl.Disk{Sectors: emptySectors(impl.MaxSectors)}) {
		t.Error("just room for every sector")
	}
	most.Late = append(most.Late, impl.Write{At: 3, Data: "y"})
	if got, _, _ := impl.LogOpen(most); !sameDisk(got, most) {
		t.Error("one too little for every sector")
	}
}

// Whether a sector is empty is asked of what is read there, not of what is safe.
func TestOpenCountsWhatIsReadOfASector(t *testing.T) {
	filler := impl.Write{At: 0, Data: "x"}
	for _, c := range []struct {
		name  string
		safe  string
		write string
		needs int
	}{
		{"safe, and written empty", "x", "", 1},
		{"empty, and written", "", "x", 2},
		{"safe, and written", "x", "y", 2},
		{"empty, and written empty", "", "", 1},
	} {
		for room := range 4 {
			d := impl.Disk{Sectors: []string{"x", c.safe}, Late: slices.Repeat([]impl.Write{filler}, impl.MaxLate-room-1)}
			d.Late = append(d.Late, impl.Write{At: 1, Data: c.write})
			logIs(t, c.name, d)
			got, _, _ := impl.LogOpen(d)
			want := d
			if room >= c.needs {
				want = impl.Disk{Sectors: emptySectors(2)}
			}
			if !sameDisk(got, want) {
				t.Errorf("%s: room for %d leaves %d late", c.name, room, len(got.Late))
			}
		}
	}
}

func TestOpenSpeltOut(t *testing.T) {
	d := impl.Disk{
		Sectors: slices.Concat(laid("one", "two"), []string{"junk", "", partOf(4, 0, 1, "four"), "late goes here"}),
		Late:    []impl.Write{{At: 5, Data: "more"}, {At: 3, Data: "even more"}, {At: 3}, {At: 1, Data: plainParts(2, "TWO")[0]}},
	}
	got, texts, end := impl.LogOpen(d)
	want := impl.Disk{Sectors: slices.Concat(laid("one", "TWO"), emptySectors(4))}
	if !sameDisk(got, want) || end != 2 || !slices.Equal(texts, []string{"one", "TWO"}) {
		t.Errorf("opened: %q, %d, %q", texts, end, got.Sectors)
	}
	again, texts, end := impl.LogOpen(got)
	if !sameDisk(again, want) || end != 2 || !slices.Equal(texts, []string{"one", "TWO"}) {
		t.Errorf("opened again: %q, %d", texts, end)
	}
	if !sameDisk(impl.DiskCrash(got, nil), want) {
		t.Error("what was opened is not safe")
	}
	for _, d := range []impl.Disk{{}, {Sectors: emptySectors(1)}, {Sectors: emptySectors(impl.MaxSectors)}} {
		if got, texts, end := impl.LogOpen(d); !sameDisk(got, d) || len(texts) != 0 || end != 0 {
			t.Errorf("%d empty sectors: %q, %d", len(d.Sectors), texts, end)
		}
	}
}

func TestDisksOfNoSectorsAndFullOnes(t *testing.T) {
	none := impl.Disk{}
	holds(t, "none", none, nil, 0)
	if impl.LogFree(none) != 0 {
		t.Error("a disk of no sectors has", impl.LogFree(none), "free")
	}
	for _, at := range []int{0, 1, -1} {
		notAppended(t, "none", none, at, 1, "")
	}
	for _, n := range []int{1, 2, 7, impl.MaxSectors} {
		d, _ := impl.DiskStart(n)
		texts, end := []string{}, 0
		for q := 1; q <= n; q++ {
			if n < 10 {
				d, end = withRecord(t, d, end, q, fmt.Sprint(q))
			} else {
				d.Sectors[end] = plainParts(q, fmt.Sprint(q))[0]
				end++
			}
			texts = append(texts, fmt.Sprint(q))
		}
		holds(t, fmt.Sprint(n, " sectors, full"), d, texts, n)
		holds(t, fmt.Sprint(n, " sectors, full and safe"), impl.DiskSync(d), texts, n)
		if impl.LogFree(d) != 0 {
			t.Errorf("of %d sectors %d are free", n, impl.LogFree(d))
		}
		notAppended(t, "full", d, n, n+1, "")
	}
	d, end := withRecords(t, impl.Disk{Sectors: emptySectors(6)}, 0, 1, someText(impl.PartLen+1), "", someText(3*impl.PartLen))
	holds(t, "full to the last part", d, []string{someText(impl.PartLen + 1), "", someText(3 * impl.PartLen)}, 6)
	notAppended(t, "full to the last part", d, end, 4, "")
}

func TestFreeSectors(t *testing.T) {
	for _, c := range []struct {
		sectors []string
		want    int
	}{
		{nil, 0}, {emptySectors(1), 1}, {emptySectors(7), 7}, {laid("a"), 0}, {laid("a", "b"), 0},
		{slices.Concat(laid("a"), emptySectors(3)), 3}, {slices.Concat(laid("a"), []string{"junk", "junk"}), 2},
		{slices.Concat([]string{""}, laid("a")), 2}, {slices.Concat(laid("a"), plainParts(3, "b")), 1},
		{slices.Concat(laid(someText(300)), plainParts(2, someText(300))[:2]), 2},
	} {
		if got := impl.LogFree(impl.Disk{Sectors: c.sectors}); got != c.want {
			t.Errorf("%d sectors have %d free, not %d", len(c.sectors), got, c.want)
		}
	}
}

type spoiltRecord struct {
	name  string
	parts []string
}

// someSpoiltRecords has what stands in place of record 2, and is not whole.
func someSpoiltRecords() []spoiltRecord {
	full := someText(impl.PartLen)
	three := func() []string { return plainParts(2, someText(2*impl.PartLen+9)) }
	with := func(k int, part string) []string {
		list := three()
		list[k] = part
		return list
	}
	all := []spoiltRecord{
		{"nothing", []string{""}},
		{"number 1 again", plainParts(1, "two")},
		{"number 3", plainParts(3, "two")},
		{"number 0", []string{partOf(0, 0, 1, "two")}},
		{"number 2 in another byte", []string{partOf(0x0200, 0, 1, "two")}},
		{"number 2 and a high bit", []string{partOf(0x80000002, 0, 1, "two")}},
		{"part 1 of one", []string{partOf(2, 1, 1, "two")}},
		{"part 1 of two", []string{partOf(2, 1, 2, "two"), partOf(2, 1, 2, "two")}},
		{"no parts", []string{partOf(2, 0, 0, "two")}},
		{"no parts and no bytes", []string{partOf(2, 0, 0, "")}},
		{"the last of two alone", []string{partOf(2, 1, 2, "two")}},
		{"two parts, where there is one", []string{partOf(2, 0, 2, full)}},
		{"the most parts that a word tells", []string{partOf(2, 0, math.MaxUint32, full), partOf(2, 1, math.MaxUint32, full)}},
		{"parts by the highest bit", []string{partOf(2, 0, 1<<31, full), partOf(2, 1, 1<<31, full)}},
		{"a last part of no bytes", []string{partOf(2, 0, 2, full), partOf(2, 1, 2, "")}},
		{"all parts of no bytes", []string{partOf(2, 0, 2, ""), partOf(2, 1, 2, "")}},
		{"a short part and a full one", []string{partOf(2, 0, 2, "two"), partOf(2, 1, 2, full)}},
		{"a part of one byte less", []string{partOf(2, 0, 2, full[1:]), partOf(2, 1, 2, "two")}},
		{"the second of three one byte less", []string{partOf(2, 0, 3, full), partOf(2, 1, 3, full[1:]), partOf(2, 2, 3, "two")}},
		{"two short ones of three", []string{partOf(2, 0, 3, full), partOf(2, 1, 3, "a"), partOf(2, 2, 3, "b")}},
		{"the last two the other way round", []string{three()[0], three()[2], three()[1]}},
		{"the first two the other way round", []string{three()[1], three()[0], three()[2]}},
		{"the first twice", []string{three()[0], three()[0], three()[2]}},
		{"the second twice", []string{three()[0], three()[1], three()[1]}},
		{"only the first", three()[:1]},
		{"the first and the second", three()[:2]},
		{"the second and the third", three()[1:]},
		{"the third alone", three()[2:]},
	}
	for k, lost := range []string{"first", "second", "third"} {
		last := someText(9)
		if k < 2 {
			last = full
		}
		k32 := uint32(k)
		all = append(all,
			spoiltRecord{lost + " part lost", with(k, "")},
			spoiltRecord{lost + " part of record 1", with(k, partOf(1, k32, 3, last))},
			spoiltRecord{lost + " part of record 3", with(k, partOf(3, k32, 3, last))},
			spoiltRecord{lost + " part of two", with(k, partOf(2, k32, 2, last))},
			spoiltRecord{lost + " part of four", with(k, partOf(2, k32, 4, last))},
			spoiltRecord{lost + " part of none", with(k, partOf(2, k32, 0, last))},
			spoiltRecord{lost + " part with the number behind it", with(k, partOf(2, k32+1, 3, last))},
			spoiltRecord{lost + " part with the number ahead of it", with(k, partOf(2, k32-1, 3, last))},
			spoiltRecord{lost + " part with no bytes", with(k, partOf(2, k32, 3, ""))},
			spoiltRecord{lost + " part some junk", with(k, someText(impl.SectorLen))},
		)
		for n := range 12 {
			all = append(all, spoiltRecord{fmt.Sprint(lost, " part cut to ", n), with(k, three()[k][:n])})
		}
	}
	for n := range 12 {
		all = append(all, spoiltRecord{fmt.Sprint("the only part cut to ", n), []string{partOf(2, 0, 1, "")[:n]}})
	}
	return all
}

// Behind what is not whole stand whole records: none of them counts.
func TestRecordsThatAreNotWhole(t *testing.T) {
	for _, c := range someSpoiltRecords() {
		long := slices.Concat(plainParts(3, "three"), plainParts(4, someText(300)))
		for name, behind := range map[string][]string{
			"nothing behind": nil, "empty sectors behind": emptySectors(3), "record 3 behind": long,
			"the longest junk behind": slices.Repeat(longest(), 4),
		} {
			ahead := laid(someText(130))
			d := impl.Disk{Sectors: slices.Concat(ahead, c.parts, behind)}
			holds(t, c.name+", "+name, d, []string{someText(130)}, 2)
			late := impl.Disk{Sectors: slices.Repeat([]string{"safe"}, len(d.Sectors))}
			for i, s := range d.Sectors {
				late.Late = append(late.Late, impl.Write{At: i, Data: s})
			}
			holds(t, c.name+", late, "+name, late, []string{someText(130)}, 2)
			opened, _, end := impl.LogOpen(d)
			if !sameDisk(opened, impl.Disk{Sectors: slices.Concat(ahead, emptySectors(len(d.Sectors)-2))}) {
				t.Fatalf("%s, %s: something is left behind", c.name, name)
			}
			after, to := withRecord(t, opened, end, 2, "anew")
			holds(t, c.name+", and gone on", after, []string{someText(130), "anew"}, to)
		}
	}
}

// A change of one bit in the words of any part takes the record away, and all
// that stand behind (the first part of several may then be the only one of a
// shorter record); one in the bytes makes another text.
func TestEveryBitOfARecordCounts(t *testing.T) {
	for _, n := range []int{0, 5, impl.PartLen, impl.PartLen + 1, 3*impl.PartLen - 2} {
		s := someText(n)
		sectors := laid("one", s, "three")
		parts := len(plainParts(2, s))
		for k := 1; k < 1+parts; k++ {
			for bit := range 8 * len(sectors[k]) {
				b := []byte(sectors[k])
				b[bit/8] ^= 1 << (bit % 8)
				changed := slices.Clone(sectors)
				changed[k] = string(b)
				got, end := impl.LogRead(impl.Disk{Sectors: changed})
				texts, want := plainLogOf(changed)
				if end != want || !slices.Equal(got, texts) || bit < 8*12 && (len(got) > 2 || slices.Contains(got, s)) {
					t.Fatalf("%d bytes: bit %d of part %d: %d records", n, bit, k-1, len(got))
				}
				if bit >= 8*12 && (len(got) != 3 || end != len(sectors) || got[1] == s || len(got[1]) != n) {
					t.Fatalf("%d bytes: bit %d of part %d: %d records", n, bit, k-1, len(got))
				}
			}
		}
	}
}

// Every disk of four sectors that hold one of some parts, whole ones and ones
// left behind.
func TestEveryDiskOfSomeParts(t *testing.T) {
	full := strings.Repeat("f", impl.PartLen)
	parts := []string{
		"", "junk", partOf(1, 0, 1, "a"), partOf(1, 0, 2, full), partOf(1, 1, 2, "b"), partOf(1, 0, 3, full), partOf(1, 1, 3, full), partOf(1, 2, 3, "c"),
		partOf(2, 0, 1, ""), partOf(2, 0, 2, full), partOf(2, 1, 2, full), partOf(3, 0, 1, full), partOf(2, 0, 0, ""),
	}
	n := len(parts)
	most := 0
	for x := range n * n * n * n {
		d := impl.Disk{Sectors: []string{parts[x%n], parts[x/n%n], parts[x/n/n%n], parts[x/n/n/n]}}
		texts, end := plainLogOf(d.Sectors)
		most = max(most, len(texts))
		if got, at := impl.LogRead(d); at != end || !slices.Equal(got, texts) {
			t.Fatalf("disk %d: %d records up to %d, not %d up to %d", x, len(got), at, len(texts), end)
		}
		if x%7 == 0 {
			logIs(t, fmt.Sprint("disk ", x), d)
		}
	}
	if most != 3 {
		t.Error("the most records of these disks are", most)
	}
}

func choiceOf(choice int, n int) []int {
	keep := []int{}
	for k := range n {
		keep = append(keep, choice>>k&1)
	}
	return keep
}

// keptRecords is how many of the records are read when just these parts are kept.
func keptRecords(texts []string, keep []int) int {
	for k, s := range texts {
		n := len(plainParts(k+1, s))
		if slices.Contains(keep[:n], 0) {
			return k
		}
		keep = keep[n:]
	}
	return len(texts)
}

// Behind a crash the safe records are read, and of the late ones those from the
// first on of which no part is lost; then the log goes on, and behind one more
// crash nothing of what the first left is read.
func TestEveryCrashOfSomeRecords(t *testing.T) {
	safe := []string{"safe", someText(impl.PartLen + 3)}
	late := []string{someText(2*impl.PartLen + 1), "", someText(impl.PartLen), textFrom(3, 2*impl.PartLen)}
	const n = 3 + 1 + 1 + 2
	first, end := withRecords(t, impl.Disk{Sectors: emptySectors(13)}, 0, 1, safe...)
	whole, all := withRecords(t, impl.DiskSync(first), end, 3, late...)
	holds(t, "ahead of the crash", whole, slices.Concat(safe, late), all)
	for choice := range 1 << n {
		keep := choiceOf(choice, n)
		name := fmt.Sprint("keeping ", keep)
		crashed := impl.DiskCrash(whole, keep)
		rest := late[:keptRecords(late, keep)]
		texts := slices.Concat(safe, rest)
		at := len(laid(texts...))
		holds(t, name, crashed, texts, at)
		opened, list, behind := impl.LogOpen(crashed)
		if behind != at || !slices.Equal(list, texts) || !sameDisk(opened, impl.Disk{Sectors: slices.Concat(laid(texts...), emptySectors(13-at))}) {
			t.Fatalf("%s: opened are %d records up to %d", name, len(list), behind)
		}
		goesOnBehind(t, name, opened, texts, at)
	}
}

// goesOnBehind appends a record of as many parts as fit, and crashes with each
// part of it lost, and with all of them kept.
func goesOnBehind(t *testing.T, name string, d impl.Disk, texts []string, at int) {
	t.Helper()
	n := len(d.Sectors) - at
	if n == 0 {
		return
	}
	s := textFrom(9, n*impl.PartLen-1)
	after, end := withRecord(t, d, at, len(texts)+1, s)
	holds(t, name+", gone on", after, append(slices.Clone(texts), s), end)
	for k := range n {
		keep := slices.Repeat([]int{1}, n)
		keep[k] = 0
		holds(t, fmt.Sprint(name, ", part ", k, " lost"), impl.DiskCrash(after, keep), texts, at)
	}
	holds(t, name+", nothing lost", impl.DiskCrash(after, slices.Repeat([]int{1}, n)), append(slices.Clone(texts), s), end)
}

// A part that a crash left behind is taken for one of a later record of the same
// number and number of parts, unless the disk was opened between.
func TestWhatACrashLeftBehindIsTakenAwayByOpen(t *testing.T) {
	elder, newer := textFrom(1, impl.PartLen+4), textFrom(2, impl.PartLen+4)
	d, _ := withRecord(t, impl.Disk{Sectors: emptySectors(3)}, 0, 1, "one")
	d = impl.DiskSync(d)
	once, _ := withRecord(t, d, 1, 2, elder)
	left := impl.DiskCrash(once, []int{0, 1})
	holds(t, "left behind", left, []string{"one"}, 1)
	mixed, _ := withRecord(t, left, 1, 2, newer)
	mixed = impl.DiskCrash(mixed, []int{1, 0})
	holds(t, "not opened", mixed, []string{"one", newer[:impl.PartLen] + elder[impl.PartLen:]}, 3)
	opened, _, at := impl.LogOpen(left)
	again, _ := withRecord(t, opened, at, 2, newer)
	holds(t, "opened", impl.DiskCrash(again, []int{1, 0}), []string{"one"}, 1)
	holds(t, "opened, the other part lost", impl.DiskCrash(again, []int{0, 1}), []string{"one"}, 1)
	holds(t, "opened, nothing lost", impl.DiskSync(again), []string{"one", newer}, 3)
}

// Crash upon crash, each followed by LogOpen: what is told is always a beginning
// of what was appended, no shorter than what was safe.
func TestCrashUponCrash(t *testing.T) {
	for seed := range uint64(60) {
		d, _ := impl.DiskStart(80)
		texts, at, safe := []string{}, 0, 0
		for round := range uint64(12) {
			for k, n := range someNumbers(seed*100+round, 3, 4*impl.PartLen) {
				s := textFrom(seed+7*round+uint64(k), n)
				after, to, ok := impl.LogAppend(d, at, len(texts)+1, s)
				if !ok {
					break
				}
				d, at, texts = after, to, append(texts, s)
				if (seed+round+uint64(k))%4 == 0 {
					d, safe = impl.DiskSync(d), len(texts)
				}
			}
			name := fmt.Sprint("seed ", seed, ", round ", round)
			holds(t, name, d, texts, at)
			keep := someNumbers(seed*1000+round, len(d.Late), 5)
			opened, list, behind := impl.LogOpen(impl.DiskCrash(d, keep))
			if len(list) < safe || len(list) > len(texts) || !slices.Equal(list, texts[:len(list)]) || behind != len(laid(list...)) {
				t.Fatalf("%s: %d of %d records, %d of them safe, up to %d", name, len(list), len(texts), safe, behind)
			}
			d, texts, at, safe = opened, list, behind, len(list)
			holds(t, name+", opened", d, texts, at)
		}
	}
}

func TestLogsOfAnyDisk(t *testing.T) {
	for k, d := range someDisks() {
		logIs(t, fmt.Sprint("disk ", k), d)
	}
}

func TestLogsOfDisksThatAreNotRight(t *testing.T) {
	wrong := someWrongDisks()
	whole := laid("one", "two", someText(300))
	wrong = append(wrong,
		wrongDisk{"records and a sector that is too long", impl.Disk{Sectors: append(slices.Clone(whole), longTexts[0])}},
		wrongDisk{"records and a late write of no sector", impl.Disk{Sectors: whole, Late: []impl.Write{{At: len(whole)}}}},
		wrongDisk{"records and a late write ahead of all", impl.Disk{Sectors: whole, Late: []impl.Write{{At: -1}}}},
		wrongDisk{"records and a late write that is too long", impl.Disk{Sectors: append(slices.Clone(whole), ""), Late: []impl.Write{{At: 5, Data: longTexts[0]}, {At: 5}}}},
		wrongDisk{"records and too many sectors", impl.Disk{Sectors: append(slices.Clone(whole), emptySectors(impl.MaxSectors)...)}},
		wrongDisk{"records and too many late writes", impl.Disk{Sectors: whole, Late: slices.Repeat([]impl.Write{{At: 0, Data: whole[0]}}, impl.MaxLate+1)}},
	)
	for _, c := range wrong {
		if texts, end := impl.LogRead(c.disk); len(texts) != 0 || end != 0 {
			t.Errorf("%s: read are %d records, %d", c.name, len(texts), end)
		}
		if got, texts, end := impl.LogOpen(c.disk); len(texts) != 0 || end != 0 || !sameDisk(got, c.disk) {
			t.Errorf("%s: opened are %d records, %d", c.name, len(texts), end)
		}
		if got := impl.LogFree(c.disk); got != -1 {
			t.Errorf("%s: free are %d", c.name, got)
		}
		for _, at := range []int{0, 1, len(c.disk.Sectors), -1, math.MinInt, math.MaxInt} {
			notAppended(t, c.name, c.disk, at, 1, "")
			notAppended(t, c.name, c.disk, at, mostRecords+1, someText(300))
		}
	}
}

// logCalls has every call that answers a disk, where it does something and where
// it refuses.
func logCalls() map[string]func(impl.Disk) impl.Disk {
	at := func(at int, q int, s string) func(impl.Disk) impl.Disk {
		return func(d impl.Disk) impl.Disk {
			after, _, _ := impl.LogAppend(d, at, q, s)
			return after
		}
	}
	return map[string]func(impl.Disk) impl.Disk{
		"LogAppend":                at(0, 1, "a"),
		"LogAppend of two parts":   at(1, 2, someText(impl.PartLen+1)),
		"LogAppend of many parts":  at(0, 2, someText(impl.MaxBytes)),
		"LogAppend of no record":   at(0, 0, "a"),
		"LogAppend at no sector":   at(-1, 1, "a"),
		"LogAppend of a long text": at(0, 1, someText(impl.MaxBytes+1)),
		"LogOpen": func(d impl.Disk) impl.Disk {
			after, _, _ := impl.LogOpen(d)
			return after
		},
	}
}

func logsToHandIn() []impl.Disk {
	records := laid("one", someText(300), "three")
	return append(disksToHandIn(),
		impl.Disk{Sectors: records},
		impl.Disk{Sectors: slices.Concat(records, []string{"junk", "", "junk"}), Late: lateAt(6, 7)},
		impl.Disk{Sectors: slices.Concat(records, []string{"junk", "", "junk"}), Late: slices.Repeat(lateAt(6), impl.MaxLate-1)},
		impl.Disk{Sectors: slices.Concat(records, emptySectors(mostParts)), Late: slices.Repeat(lateAt(7), impl.MaxLate)},
		impl.Disk{Sectors: emptySectors(impl.MaxSectors)},
	)
}

func TestWhatIsHandedInToALogIsLeftAlone(t *testing.T) {
	for k, was := range logsToHandIn() {
		for name, call := range logCalls() {
			d, sectors, late := roomyDisk(was)
			_, wantSectors, wantLate := roomyDisk(was)
			after := call(d)
			impl.LogFree(d)
			texts, _ := impl.LogRead(d)
			for i := range texts[:cap(texts)] {
				texts[:cap(texts)][i] = "spoilt"
			}
			if !slices.Equal(sectors, wantSectors) || !slices.Equal(late, wantLate) {
				t.Fatalf("disk %d, %s: an argument or what stands behind it was written into", k, name)
			}
			spoilDisk(after)
			if !slices.Equal(sectors, wantSectors) || !slices.Equal(late, wantLate) {
				t.Fatalf("disk %d, %s: the answer shares memory with an argument", k, name)
			}
		}
	}
}

// What is done to the arguments, or to another list of the answer, does not
// reach an answer.
func TestAnswersOfALogStayAsTheyAre(t *testing.T) {
	for k, was := range logsToHandIn() {
		for name, call := range logCalls() {
			d := cloneDisk(was)
			after := call(d)
			want := cloneDisk(after)
			spoilDisk(d)
			if !sameDisk(after, want) {
				t.Fatalf("disk %d, %s: the answer changed with its argument", k, name)
			}
		}
		d := cloneDisk(was)
		after, texts, _ := impl.LogOpen(d)
		read, _ := impl.LogRead(d)
		wantTexts, wantRead := slices.Clone(texts), slices.Clone(read)
		spoilDisk(after)
		spoilDisk(d)
		if !slices.Equal(texts, wantTexts) || !slices.Equal(read, wantRead) {
			t.Fatalf("disk %d: the texts changed with a disk", k)
		}
	}
	one, other := impl.LogParts(4, someText(300)), impl.LogParts(4, someText(300))
	for i := range one {
		one[i] = "spoilt"
	}
	if !slices.Equal(other, plainParts(4, someText(300))) || !slices.Equal(impl.LogParts(4, someText(300)), other) {
		t.Error("two lists of parts share memory")
	}
}

// Two records appended to one disk, as two ways to go on from it, know nothing
// of each other.
func TestTwoWaysToGoOnWithALog(t *testing.T) {
	d, _ := impl.DiskStart(50)
	texts, at := []string{}, 0
	for q := 1; q <= 20; q++ {
		d, at = withRecord(t, d, at, q, "before")
		texts = append(texts, "before")
		one, end := withRecord(t, d, at, q+1, "one")
		other, _ := withRecord(t, d, at, q+1, "other")
		holds(t, "one", one, append(slices.Clone(texts), "one"), end)
		holds(t, "other", other, append(slices.Clone(texts), "other"), end)
		holds(t, "neither", d, texts, at)
	}
}

// A call that kept a record, or where it ended, would tell it in the next one.
func TestLogsHangOnNothingAhead(t *testing.T) {
	plain := impl.Disk{Sectors: slices.Concat(laid("its own"), []string{"", "junk"})}
	for k, d := range append(someDisks(), logsToHandIn()...) {
		impl.LogRead(d)
		impl.LogOpen(d)
		impl.LogFree(d)
		impl.LogAppend(d, 0, 1, "kept?")
		impl.LogParts(k, "kept?")
		holds(t, "a disk of its own", plain, []string{"its own"}, 1)
		after, end := withRecord(t, plain, 1, 2, "next")
		holds(t, "a disk gone on", after, []string{"its own", "next"}, end)
	}
}
