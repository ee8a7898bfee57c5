package tests

import (
	"crypto/sha256"
	"encoding/hex"
	"fmt"
	"regexp"
	"slices"
	"strings"
	"sync"
	"testing"

	"loop.example/g00120/impl"
)

// deskLine is every line that is understood, as one rule.
var deskLine = regexp.MustCompile(`\A(?:(put) ([^ ]+) (-|(?:[0-9a-f][0-9a-f])+)|(drop|pack|get|sum|pic) ([^ ]+)|(crash) (-|[0-9]+)|(sync|list|free))\z`)

func toHex(s string) string {
	if s == "" {
		return "-"
	}
	return hex.EncodeToString([]byte(s))
}

func fromHex(s string) string {
	out, _ := hex.DecodeString(strings.TrimPrefix(s, "-"))
	return string(out)
}

func putLine(name string, data string) string { return "put " + name + " " + toHex(data) }

func scriptOf(lines ...string) string {
	text := ""
	for _, line := range lines {
		text += line + "\n"
	}
	return text
}

// keepsOf has a number for each digit.
func keepsOf(digits string) []int {
	keep := []int{}
	for _, c := range strings.TrimPrefix(digits, "-") {
		keep = append(keep, int(c)-'0')
	}
	return keep
}

// toldOfFile is what a word that asks for a file tells of it.
func toldOfFile(word string, file string) string {
	switch word {
	case "get":
		return toHex(file)
	case "sum":
		sum := sha256.Sum256([]byte(file))
		return hex.EncodeToString(sum[:])
	}
	if said := plainReason(file); said != impl.FileOk {
		return fmt.Sprint(said)
	}
	small, ok := impl.Squeeze(file)
	if !ok {
		small = file
	}
	return fmt.Sprintf("0 %d %d %d", file[2], file[3], len(file)-len(small))
}

func plainList(s impl.Store) string {
	told := []string{}
	for _, i := range s.Items {
		told = append(told, fmt.Sprintf("%s:%s:%d", i.Name, map[bool]string{false: "raw", true: "packed"}[i.Packed], len(i.Data)))
	}
	if len(told) == 0 {
		return "-"
	}
	return strings.Join(told, " ")
}

// plainDeskLine takes a line by its one rule, and the plain store for the rest.
func plainDeskLine(s impl.Store, line string) (impl.Store, string) {
	m := deskLine.FindStringSubmatch(line)
	if m == nil || !plainOk(s) {
		return s, "what"
	}
	word, name := m[1]+m[4]+m[6]+m[8], m[2]+m[5]
	o := storeOp{kind: word, name: name}
	switch word {
	case "get", "sum", "pic":
		file, code := plainFileOf(s, name)
		if code != impl.StoreDone {
			return s, fmt.Sprint("code ", code)
		}
		return s, toldOfFile(word, file)
	case "list":
		return s, plainList(s)
	case "free":
		_, end := plainLogOf(nowOn(s.Disk))
		return s, fmt.Sprint(len(s.Disk.Sectors) - end)
	case "put":
		o.data = fromHex(m[3])
	case "crash":
		o.keep = keepsOf(m[7])
	}
	after, code := plainOp(s, o)
	return after, fmt.Sprint("code ", code)
}

func plainDesk(text string) string {
	lines := strings.SplitAfter(text, "\n")
	if len(text) > 40000 || len(lines) > 201 || lines[len(lines)-1] != "" {
		return "long\n"
	}
	s := impl.Store{Disk: impl.Disk{Sectors: emptySectors(400)}}
	all := ""
	for _, line := range lines[:len(lines)-1] {
		after, told := plainDeskLine(s, strings.TrimSuffix(line, "\n"))
		s, all = after, all+told+"\n"
	}
	return all
}

// short is a text that can be read in a failure.
func short(s string) string {
	if len(s) > 300 {
		return fmt.Sprintf("%.300q .. (%d bytes)", s, len(s))
	}
	return fmt.Sprintf("%q", s)
}

// answers fails when a line is not answered as the plain desk has it.
func answers(t *testing.T, name string, s impl.Store, line string) (impl.Store, string) {
	t.Helper()
	want, told := plainDeskLine(s, line)
	got, said := impl.DeskLine(s, line)
	if said != told || !sameStore(got, want) {
		t.Fatalf("%s: %s: %s and %s, not %s and %s", name, short(line), short(said), toldStore(got), short(told), toldStore(want))
	}
	return got, said
}

// tells fails when a line is answered otherwise.
func tells(t *testing.T, name string, s impl.Store, line string, want string) impl.Store {
	t.Helper()
	after, said := answers(t, name, s, line)
	if said != want {
		t.Errorf("%s: %s: %s, not %s", name, short(line), short(said), short(want))
	}
	return after
}

// notUnderstood fails when a line is answered, or does not leave the store alone.
func notUnderstood(t *testing.T, name string, s impl.Store, line string) {
	t.Helper()
	if after := tells(t, name, s, line, "what"); !sameStore(after, s) {
		t.Errorf("%s: %s: what, but %s, not %s", name, short(line), toldStore(after), toldStore(s))
	}
}

// goesAs fails when a script is not answered as the plain desk has it.
func goesAs(t *testing.T, name string, text string) string {
	t.Helper()
	got, want := impl.Desk(text), plainDesk(text)
	if got != want {
		lines, said, told := strings.Split(text, "\n"), strings.Split(got, "\n"), strings.Split(want, "\n")
		for k := range min(len(lines), len(said), len(told)) {
			if said[k] != told[k] {
				t.Fatalf("%s: line %d, %s: %s, not %s", name, k+1, short(lines[k]), short(said[k]), short(told[k]))
			}
		}
		t.Fatalf("%s: %s, not %s", name, short(got), short(want))
	}
	return got
}

// talk is lines and what each is answered, by turns.
func talk(t *testing.T, name string, turns ...string) {
	t.Helper()
	lines, want := []string{}, []string{}
	for k := 0; k < len(turns); k += 2 {
		lines, want = append(lines, turns[k]), append(want, turns[k+1])
	}
	got := strings.Split(strings.TrimSuffix(goesAs(t, name, scriptOf(lines...)), "\n"), "\n")
	for k, line := range lines {
		if k >= len(got) || got[k] != want[k] {
			t.Errorf("%s: line %d, %s: %s, not %s", name, k+1, short(line), short(strings.Join(got[min(k, len(got)):min(k+1, len(got))], "")), short(want[k]))
		}
	}
	if len(got) != len(lines) {
		t.Errorf("%s: %d answers to %d lines", name, len(got), len(lines))
	}
}

// lineOf has each word of the script in a line that it understands, for a name.
func lineOf(name string) map[string]string {
	return map[string]string{
		"put": "put " + name + " 00ff", "drop": "drop " + name, "pack": "pack " + name, "sync": "sync", "crash": "crash 10", "get": "get " + name,
		"list": "list", "sum": "sum " + name, "free": "free", "pic": "pic " + name,
	}
}

// deskPics has files of pictures that are short enough to be put.
func deskPics(t *testing.T) []string {
	t.Helper()
	all := []string{bigFile(t), fileOfLength(t, impl.MaxFile), fileOfLength(t, impl.MaxFile-1)}
	for n := -1; n <= 5; n++ {
		all = append(all, fileSaving(t, n))
	}
	for _, p := range somePics() {
		if file, ok := impl.PicWrite(p); ok && len(file) <= impl.MaxFile {
			all = append(all, file)
		}
	}
	return all
}

// noPics has for each code a text that PicRead refuses with it; FileLong has
// none, as what is got is never that long.
func noPics(t *testing.T) map[int][]string {
	t.Helper()
	big := bigFile(t)
	head := "\xff\xd8"
	codes := head + "\x01\x01" + plainCodes(codesWith(0, 1)) + plainCodes(codesWith(0, 1))
	return map[int][]string{
		impl.FileHead:  {"", "\xff", "abc", "\xff\xd9" + big[2:], "x" + big, textFrom(5, impl.MaxFile)},
		impl.FileSide:  {head, head + "\x01", head + "\x00\x01", head + "\x01\x29" + big[4:]},
		impl.FileCodes: {head + "\x01\x01", big[:20], head + "\x01\x01" + strings.Repeat("\x00", 40)},
		impl.FileNote:  {codes, codes + "\x80", codes + "\x01", codes + "\xf5\x03" + strings.Repeat("n", 501)},
		impl.FileData:  {codes + "\x00", big[:len(big)-1], big + "\x00", codes + "\x01n\x3e\xff\xd9"},
	}
}

func TestDeskConstants(t *testing.T) {
	if impl.MaxScript != 40000 {
		t.Error("it is", impl.MaxScript)
	}
}

func TestDeskSpeltOut(t *testing.T) {
	talk(t, "texts",
		"list", "-",
		"free", "400",
		"put b.txt 616263", "code 0",
		"put a-1 -", "code 0",
		"list", "a-1:raw:0 b.txt:raw:3",
		"get b.txt", "616263",
		"get a-1", "-",
		"sum b.txt", "ba7816bf8f01cfea414140de5dae2223b00361a396177a9cb410ff61f20015ad",
		"sum a-1", "e3b0c44298fc1c149afbf4c8996fb92427ae41e4649b934ca495991b7852b855",
		"pic b.txt", "1",
		"pack b.txt", "code 5",
		"free", "398",
		"sync", "code 0",
		"drop b.txt", "code 0",
		"get b.txt", "code 3",
		"sum b.txt", "code 3",
		"pic b.txt", "code 3",
		"drop b.txt", "code 3",
		"pack b.txt", "code 3",
		"list", "a-1:raw:0",
		"free", "397",
		"crash -", "code 0",
		"free", "398",
		"get b.txt", "616263",
		"put b.txt 00ff0a20", "code 0",
		"put c 7f", "code 0",
		"crash 10", "code 0",
		"list", "a-1:raw:0 b.txt:raw:4",
		"get b.txt", "00ff0a20",
		"get c", "code 3",
		"put Z 00", "code 1",
		"free", "397",
	)
	file := "\xff\xd8\x04\x02" + plainCodes(codesWith(0, 1)) + plainCodes(codesWith(endSym, 1)) + "\x01n\x00\x00\xff\xd9"
	talk(t, "a picture that would get longer by a byte",
		"put p "+toHex(file), "code 0",
		"pic p", "0 4 2 -1",
		"pack p", "code 5",
		"list", "p:raw:44",
	)
	big := bigFile(t)
	small, _ := impl.Squeeze(big)
	sum := fmt.Sprintf("%x", sha256.Sum256([]byte(big)))
	told := fmt.Sprintf("0 40 40 %d", len(big)-len(small))
	talk(t, "a picture that gets smaller",
		"put p "+toHex(big), "code 0",
		"list", fmt.Sprintf("p:raw:%d", len(big)),
		"get p", toHex(big),
		"sum p", sum,
		"pic p", told,
		"free", "396",
		"pack p", "code 0",
		"free", "395",
		"list", fmt.Sprintf("p:packed:%d", len(small)),
		"get p", toHex(big),
		"sum p", sum,
		"pic p", told,
		"pack p", "code 5",
		"crash 1111", "code 0",
		"list", fmt.Sprintf("p:raw:%d", len(big)),
		"pack p", "code 0",
		"sync", "code 0",
		"crash -", "code 0",
		"list", fmt.Sprintf("p:packed:%d", len(small)),
		"put p -", "code 0",
		"list", "p:raw:0",
	)
}

// A line is understood only as it is spelt out, word by word.
func TestEveryLineOfSomeWords(t *testing.T) {
	tokens := []string{"put", "drop", "pack", "sync", "crash", "get", "list", "sum", "free", "pic", "a", "-", "00", "1", "A", ""}
	s := done(t, newStore(t, 6), put("a", "x"), put("-", ""), syncAll(), put("a", "xyz"), put("1", "one"))
	lines := []string{""}
	for from, round := 0, 0; round < 4; round++ {
		end := len(lines)
		for _, line := range lines[from:end] {
			for _, token := range tokens {
				if line == "" && round == 0 {
					lines = append(lines, token)
				} else {
					lines = append(lines, line+" "+token)
				}
			}
		}
		from = end
	}
	known := 0
	for _, line := range lines {
		_, said := answers(t, "some words", s, line)
		known += bitOf(said != "what")
		if strings.HasPrefix(line, " ") || strings.HasSuffix(line, " ") || strings.Contains(line, "  ") || line == "" {
			notUnderstood(t, "a blank", s, line)
		}
	}
	if known < 100 || known > 300 {
		t.Error("of", len(lines), "lines are understood", known)
	}
}

// Each right line with a byte changed, put in or left out anywhere.
func TestLinesChangedALittle(t *testing.T) {
	s := done(t, newStore(t, 6), put("a", "x"), put("-", ""), syncAll(), put("a", "xyz"))
	for word, line := range lineOf("a") {
		if _, said := answers(t, word, s, line); said == "what" {
			t.Error(line, "is not understood")
		}
		for at := range len(line) + 1 {
			for _, c := range []string{" ", "-", "0", "9", "a", "f", "g", "A", "F", "\n", "\r", "\t", "\x00", "\xff", "ä", "/", ":", "`", "  ", line} {
				answers(t, word, s, line[:at]+c+line[at:])
				if at < len(line) {
					answers(t, word, s, line[:at]+c+line[at+1:])
					answers(t, word, s, line[:at]+line[at+1:])
				}
			}
		}
	}
}

func TestBlanksWhereNoneBelong(t *testing.T) {
	s := done(t, newStore(t, 9), put("a", "x"), put("-", "y"))
	for word, line := range lineOf("a") {
		if _, said := impl.DeskLine(s, line); said == "what" {
			t.Error(line, "is not understood")
		}
		for _, other := range []string{" " + line, line + " ", "  " + line, line + "  ", "\t" + line, line + "\t", line + "\n", line + "\r", "\n" + line} {
			if got, said := impl.DeskLine(s, other); strings.Trim(other, " ") != other && (said != "what" || !sameStore(got, s)) {
				t.Errorf("%q: %s", other, said)
			}
			answers(t, word, s, other)
		}
		if strings.Contains(line, " ") {
			for k, c := range line {
				if c == ' ' {
					notUnderstood(t, "two blanks", s, line[:k]+" "+line[k:])
					notUnderstood(t, "no blank", s, line[:k]+line[k+1:])
					notUnderstood(t, "a tab", s, line[:k]+"\t"+line[k+1:])
					notUnderstood(t, "nothing behind a blank", s, line[:k+1])
				}
			}
		}
	}
	for _, line := range []string{"", " ", "  ", "   ", "\t", "\n", "put  00", "put a ", "put  ", "get ", "crash ", "-", "what", "long", "code 0", "help"} {
		notUnderstood(t, "no line", s, line)
	}
	talk(t, "in a script", "", "what", " ", "what", " list", "what", "list ", "what", "put a  00", "what", "put  a 00", "what", "put a 00 ", "what", "list", "-")
}

func TestAWordTooFewOrTooMany(t *testing.T) {
	s := done(t, newStore(t, 9), put("a", "x"), put("-", "y"))
	for word, line := range lineOf("a") {
		words := strings.Split(line, " ")
		if words[0] != word {
			t.Fatal(line)
		}
		for n := 1; n < len(words); n++ {
			notUnderstood(t, "too few", s, strings.Join(words[:n], " "))
			notUnderstood(t, "too few", s, strings.Join(words[n:], " "))
		}
		for _, more := range []string{"a", "-", "00", "0", "list", word, "x y"} {
			notUnderstood(t, "too many", s, line+" "+more)
			if word != "put" {
				notUnderstood(t, "one ahead", s, more+" "+line)
			}
		}
	}
}

func TestWordsWithGreatLetters(t *testing.T) {
	s := done(t, newStore(t, 9), put("a", "x"), put("-", "y"))
	for word, line := range lineOf("a") {
		for k := range word {
			notUnderstood(t, "one great letter", s, line[:k]+strings.ToUpper(line[k:k+1])+line[k+1:])
			notUnderstood(t, "one letter less", s, line[:k]+line[k+1:])
			notUnderstood(t, "one letter more", s, line[:k]+"x"+line[k:])
		}
		notUnderstood(t, "all great letters", s, strings.ToUpper(word)+line[len(word):])
		notUnderstood(t, "its plural", s, word+"s"+line[len(word):])
	}
}

// A hyphen stands for nothing in three places, alone; elsewhere it is a name or
// a part of one.
func TestHyphens(t *testing.T) {
	talk(t, "for nothing",
		"list", "-", "put a -", "code 0", "get a", "-", "list", "a:raw:0", "crash -", "code 0", "list", "-", "get a", "code 3",
	)
	talk(t, "as a name",
		"get -", "code 3", "sum -", "code 3", "pic -", "code 3", "drop -", "code 3", "pack -", "code 3",
		"put - 2d", "code 0", "get -", "2d", "list", "-:raw:1", "pic -", "1", "pack -", "code 5", "sum -", fmt.Sprintf("%x", sha256.Sum256([]byte("-"))),
		"put - -", "code 0", "get -", "-", "list", "-:raw:0", "put -- -", "code 0", "list", "-:raw:0 --:raw:0", "get --", "-", "get ---", "code 3",
		"drop -", "code 0", "list", "--:raw:0", "put -a 00", "code 0", "list", "--:raw:0 -a:raw:1", "crash 1", "code 0", "get -", "2d",
	)
	talk(t, "where it is no nothing",
		"put a --", "what", "put a -0", "what", "put a -00", "what", "put a 00-", "what", "put a 0-", "what", "put a ---", "what", "put a 2d-", "what",
		"crash --", "what", "crash -1", "what", "crash 1-", "what", "crash 1-1", "what", "crash ---", "what", "-", "what", "list -", "what",
		"sync -", "what", "free -", "what", "get a -", "what", "- -", "what", "put -", "what", "put - - -", "what", "crash - -", "what", "crash", "what", "list", "-",
	)
	talk(t, "a text that is a hyphen", "put a 2d", "code 0", "get a", "2d", "list", "a:raw:1", "free", "399")
}

func TestHexOfALine(t *testing.T) {
	s := done(t, newStore(t, 9), put("a", "x"))
	for _, digits := range []string{
		"0", "000", "00000", "f", "fff", "A0", "0A", "FF", "aB", "Ff", "fF", "0g", "g0", "gg", "zz", "0x", "0x00", "x0", "00 ", "0.", ".0", "+1", "-1", "0-", "\\x", "\x00\x00", "0\x00",
		"\xff\xff", "00\n", "\n0", "0\r", "ä", "００", "/0", "0/", ":0", "0:", "`0", "0`", "@0", "G0", "00,00", "00-00", "61:62", "616", "6162636", "61626g", "61626G", "g16263",
	} {
		notUnderstood(t, "no HEX", s, "put b "+digits)
		notUnderstood(t, "no HEX, and no name", s, "put B "+digits)
		notUnderstood(t, "no HEX, and an elder file", s, "put a "+digits)
	}
	for x := range 256 {
		file := string([]byte{byte(x)})
		after := tells(t, "a byte", s, fmt.Sprintf("put b %02x", x), "code 0")
		tells(t, "a byte", after, "get b", fmt.Sprintf("%02x", x))
		if got, _ := impl.StoreGet(after, "b"); got != file {
			t.Errorf("byte %d is put as %q", x, got)
		}
	}
	all := "000102030405060708090a0b0c0d0e0f101112131415161718191a1b1c1d1e1f"
	talk(t, "many bytes", "put a "+all, "code 0", "get a", all, "list", "a:raw:32", "put a "+all+"0", "what", "get a", all, "put a "+strings.ToUpper(all), "what", "get a", all)
}

// Only what is the HexText of some bytes is HEX: of more than MaxBytes bytes
// there is none.
func TestHexOfVeryManyDigits(t *testing.T) {
	s := done(t, newStore(t, 30), put("a", "x"))
	tells(t, "MaxBytes", s, "put b "+strings.Repeat("00", impl.MaxBytes), "code 2")
	tells(t, "MaxBytes, no name", s, "put B "+strings.Repeat("00", impl.MaxBytes), "code 1")
	for _, digits := range []int{2*impl.MaxBytes + 1, 2*impl.MaxBytes + 2, 4 * impl.MaxBytes} {
		for _, name := range []string{"b", "B"} {
			if after, said := impl.DeskLine(s, "put "+name+" "+strings.Repeat("0", digits)); said != "what" || !sameStore(after, s) {
				t.Errorf("%d digits: %s", digits, said)
			}
		}
	}
}

func TestFilesOfAllLengthsAtTheDesk(t *testing.T) {
	for _, n := range []int{0, 1, 2, 113, 114, 1000, impl.MaxFile - 1, impl.MaxFile} {
		file := textFrom(uint64(n), n)
		talk(t, fmt.Sprint(n, " bytes"),
			putLine("f", file), "code 0", "get f", toHex(file), "list", fmt.Sprintf("f:raw:%d", n), "sum f", fmt.Sprintf("%x", sha256.Sum256([]byte(file))),
			"free", fmt.Sprint(400-len(laid(putText("f", file)))), "sync", "code 0", "crash -", "code 0", "get f", toHex(file),
		)
	}
	for _, n := range []int{impl.MaxFile + 1, impl.MaxFile + 2, 2 * impl.MaxFile} {
		file := textFrom(uint64(n), n)
		talk(t, fmt.Sprint(n, " bytes"), "put f 00", "code 0", putLine("f", file), "code 2", putLine("g", file), "code 2", putLine("G", file), "code 1", "list", "f:raw:1", "free", "399")
	}
}

func TestKeepsOfALine(t *testing.T) {
	lines := []string{"put a 31", "put b 32", "put c 33", "put d 34"}
	for keep, want := range map[string]string{
		"-": "-", "0": "-", "1": "a", "00": "-", "01": "-", "10": "a", "11": "a b", "110": "a b", "1101": "a b", "111": "a b c", "1111": "a b c d", "0111": "-", "1011": "a",
		"2": "a", "9": "a", "29": "a b", "3579": "a b c d", "8080": "a", "5500": "a b", "11111": "a b c d", "111100000": "a b c d", "000011111": "-",
		strings.Repeat("1", 500): "a b c d", strings.Repeat("9", 39000): "a b c d", strings.Repeat("0", 39000): "-", "11" + strings.Repeat("0", 3001): "a b", "1110" + strings.Repeat("1", 5000): "a b c",
	} {
		told := []string{}
		for _, name := range strings.Fields(strings.Trim(want, "-")) {
			told = append(told, name+":raw:1")
		}
		said := goesAs(t, "keeping "+short(keep), scriptOf(append(slices.Clone(lines), "crash "+keep, "list", "free")...))
		list := strings.Join(told, " ")
		if len(told) == 0 {
			list = "-"
		}
		if want := "code 0\ncode 0\ncode 0\ncode 0\ncode 0\n" + list + "\n" + fmt.Sprint(400-len(told)) + "\n"; said != want {
			t.Errorf("keeping %s: %s, not %s", short(keep), short(said), short(want))
		}
	}
	s := done(t, newStore(t, 9), put("a", "1"), put("b", "2"))
	for d := range 10 {
		after := tells(t, "a digit", s, fmt.Sprint("crash ", d), "code 0")
		if len(after.Items) != bitOf(d > 0) {
			t.Errorf("keeping %d: %s", d, toldStore(after))
		}
	}
	for _, keep := range []string{
		"x", "a", "1a", "a1", "1x1", "10x", "x10", "A", "f", "0x1", "/", ":", "1/", "1:", "+1", "1.", ".1", "1,1", "1_0", "\x00", "1\x00", "\x01", "1\n", "\n1", "1\r", "\xff", "٣", "１", "²", "ä", "--", "-0", "0-", "1-",
	} {
		notUnderstood(t, "no KEEP", s, "crash "+keep)
	}
}

// A long KEEP, against a disk with as many late writes as there can be.
func TestKeepsForAllOfLate(t *testing.T) {
	s := withLate(storeOf(t, 5, putText("a", "x")), impl.MaxLate-1)
	s = done(t, s, put("b", "y"))
	tells(t, "the last is kept", tells(t, "crash", s, "crash "+strings.Repeat("0", impl.MaxLate-1)+"1", "code 0"), "list", "a:raw:1 b:raw:1")
	tells(t, "all but the last are kept", tells(t, "crash", s, "crash "+strings.Repeat("1", impl.MaxLate-1)+"0", "code 0"), "list", "a:raw:1")
	tells(t, "one digit more", tells(t, "crash", s, "crash "+strings.Repeat("0", impl.MaxLate)+"1", "code 0"), "list", "a:raw:1")
}

func TestScriptsAtTheirEdges(t *testing.T) {
	for name, c := range map[string]struct{ text, want string }{
		"empty":                       {"", ""},
		"an empty line":               {"\n", "what\n"},
		"two empty lines":             {"\n\n", "what\nwhat\n"},
		"one line":                    {"list\n", "-\n"},
		"no newline":                  {"list", "long\n"},
		"no newline at the end":       {"list\nlist", "long\n"},
		"a blank at the end":          {"list\n ", "long\n"},
		"a return at the end":         {"list\r", "long\n"},
		"returns":                     {"list\r\nlist\n", "what\n-\n"},
		"a byte 0":                    {"\x00\n", "what\n"},
		"a byte 0 behind":             {"list\n\x00", "long\n"},
		"any bytes":                   {"\xff\xfe\n\x80 \x81\n", "what\nwhat\n"},
		"other ends of lines":         {"list\u2028list\n", "what\n"},
		"form feeds":                  {"list\flist\vlist\n", "what\n"},
		"200 lines":                   {strings.Repeat("free\n", 200), strings.Repeat("400\n", 200)},
		"201 lines":                   {strings.Repeat("free\n", 201), "long\n"},
		"200 lines, the last open":    {strings.Repeat("free\n", 200) + "free", "long\n"},
		"199 lines, the last open":    {strings.Repeat("free\n", 199) + "free", "long\n"},
		"200 empty lines":             {strings.Repeat("\n", 200), strings.Repeat("what\n", 200)},
		"201 empty lines":             {strings.Repeat("\n", 201), "long\n"},
		"very many empty lines":       {strings.Repeat("\n", impl.MaxScript), "long\n"},
		"200 lines and MaxScript":     {strings.Repeat("\n", 199) + strings.Repeat("x", impl.MaxScript-200) + "\n", strings.Repeat("what\n", 200)},
		"200 lines and one byte more": {strings.Repeat("\n", 199) + strings.Repeat("x", impl.MaxScript-199) + "\n", "long\n"},
		"201 lines and MaxScript":     {strings.Repeat("\n", 200) + strings.Repeat("x", impl.MaxScript-201) + "\n", "long\n"},
		"MaxScript in one line":       {strings.Repeat("x", impl.MaxScript-1) + "\n", "what\n"},
		"one byte more in one line":   {strings.Repeat("x", impl.MaxScript) + "\n", "long\n"},
		"MaxScript without a newline": {strings.Repeat("x", impl.MaxScript), "long\n"},
		"many bytes more":             {strings.Repeat("x", 10*impl.MaxScript) + "\n", "long\n"},
		"the word for it":             {"long\n", "what\n"},
		"MaxScript in a crash":        {"crash " + strings.Repeat("1", impl.MaxScript-7) + "\n", "code 0\n"},
		"one byte more in a crash":    {"crash " + strings.Repeat("1", impl.MaxScript-6) + "\n", "long\n"},
		"MaxScript in a put":          {"put a " + strings.Repeat("0", impl.MaxScript-8) + "\n\n", "code 2\nwhat\n"},
	} {
		if got := goesAs(t, name, c.text); got != c.want {
			t.Errorf("%s: %s, not %s", name, short(got), short(c.want))
		}
	}
}

// someLines has lines of every word, understood or not, that change what the
// next ones tell.
func someLines(t *testing.T) []string {
	t.Helper()
	return []string{
		putLine("a", fileSaving(t, 2)), "put a 78", "put - -", putLine("b", someText(impl.PartLen)), "put B 00", "pack a", "pack -", "drop a", "drop -", "sync",
		"crash -", "crash 1", "crash 011", "get a", "get -", "list", "sum a", "free", "pic a", "", "Sync",
	}
}

// Every script of three of some lines, line by line against its beginning.
func TestEveryShortScript(t *testing.T) {
	lines := someLines(t)
	seen := map[string]int{}
	var walk func(s impl.Store, text string, told string, rounds int)
	walk = func(s impl.Store, text string, told string, rounds int) {
		if got := impl.Desk(text); got != told {
			t.Fatalf("%s: %s, not %s", short(text), short(got), short(told))
		}
		if rounds == 0 {
			return
		}
		for _, line := range lines {
			after, said := plainDeskLine(s, line)
			seen[said]++
			walk(after, text+line+"\n", told+said+"\n", rounds-1)
		}
	}
	walk(impl.Store{Disk: impl.Disk{Sectors: emptySectors(400)}}, "", "", 3)
	for _, said := range []string{"code 0", "code 1", "code 3", "code 5", "what", "-", "78", "400", "399", "398", "a:raw:1", "-:raw:0 a:raw:1"} {
		if seen[said] == 0 {
			t.Errorf("no line was answered %q", said)
		}
	}
}

// longScript has as many lines as fit, of all kinds.
func longScript(t *testing.T, seed uint64) []string {
	t.Helper()
	files := []string{"", "x", fileSaving(t, 1), fileSaving(t, 5), fileSaving(t, 0), someText(300), plainFile(threePic()), plainFile(threePic())[:20]}
	if seed%2 == 0 {
		files = append(files, bigFile(t))
	}
	names := []string{"a", "b.sp", "-", "c0", "A"}
	lines, size := []string{}, 0
	some := someNumbers(seed+500, 4*200, 1<<20)
	for k := range 200 {
		x := some[4*k : 4*k+4]
		name, file := names[x[1]%len(names)], files[x[2]%len(files)]
		keep := strings.NewReplacer("[", "", "]", "", " ", "").Replace(fmt.Sprint(someNumbers(seed*1000+uint64(k), 1+x[3]%12, 2+x[3]%3)))
		choice := []string{
			putLine(name, file), putLine(name, file), putLine(name, file), "pack " + name, "pack " + name, "drop " + name, "sync", "crash " + keep, "crash -",
			"get " + name, "sum " + name, "pic " + name, "list", "free", "get", "List",
		}
		line := choice[x[0]%len(choice)]
		if size += len(line) + 1; size > impl.MaxScript {
			break
		}
		lines = append(lines, line)
	}
	return lines
}

// What is told of a script begins with what is told of its beginning, line by
// line.
func TestEachBeginningOfAScript(t *testing.T) {
	seen := map[string]int{}
	for seed := range uint64(3) {
		lines := longScript(t, seed)
		whole := goesAs(t, fmt.Sprint("seed ", seed), scriptOf(lines...))
		told := strings.SplitAfter(whole, "\n")
		if len(told) != len(lines)+1 {
			t.Fatalf("seed %d: %d answers to %d lines", seed, len(told)-1, len(lines))
		}
		for _, line := range told {
			seen[strings.TrimSpace(line)]++
		}
		for n := range lines {
			got := impl.Desk(scriptOf(lines[:n]...))
			if !strings.HasPrefix(whole, got) || got != strings.Join(told[:n], "") {
				t.Fatalf("seed %d: of the first %d lines is told %s", seed, n, short(got))
			}
		}
	}
	for _, said := range []string{"code 0", "code 1", "code 3", "code 5", "what", "-", "1", "3"} {
		if seen[said] == 0 {
			t.Errorf("no line was answered %q", said)
		}
	}
}

// A script goes on as the store that its beginning left, line by line.
func TestAScriptIsItsLines(t *testing.T) {
	for seed := range uint64(8) {
		s := newStore(t, 400)
		all := ""
		for k, line := range longScript(t, seed+20) {
			after, said := answers(t, fmt.Sprint("seed ", seed, ", line ", k+1), s, line)
			s, all = after, all+said+"\n"
		}
		if got := impl.Desk(scriptOf(longScript(t, seed+20)...)); got != all {
			t.Errorf("seed %d: the script tells %s, not %s", seed, short(got), short(all))
		}
	}
}

// A beginning that ends amid a line is no script.
func TestEachBeginningByBytes(t *testing.T) {
	text := "put a 616263\n\nlist\nget a\ncrash -\nlist\n"
	told := []string{"", "code 0\n", "what\n", "a:raw:3\n", "616263\n", "code 0\n", "-\n"}
	for n := range len(text) + 1 {
		want := "long\n"
		if n == 0 || text[n-1] == '\n' {
			want = strings.Join(told[:1+strings.Count(text[:n], "\n")], "")
		}
		if got := impl.Desk(text[:n]); got != want {
			t.Errorf("%q: %q, not %q", text[:n], got, want)
		}
	}
}

// A picture's file that is packed is told as it was put, to the byte.
func TestAPackedPictureIsToldAsItWasPut(t *testing.T) {
	packs, keeps := 0, 0
	for k, file := range deskPics(t) {
		small, ok := impl.Squeeze(file)
		if !ok {
			t.Fatal("file", k, "is not squeezed")
		}
		told := fmt.Sprintf("0 %d %d %d", file[2], file[3], len(file)-len(small))
		sum := fmt.Sprintf("%x", sha256.Sum256([]byte(file)))
		code, list := "code 5", fmt.Sprintf("p:raw:%d", len(file))
		if len(small) < len(file) {
			code, list = "code 0", fmt.Sprintf("p:packed:%d", len(small))
			packs++
		} else {
			keeps++
		}
		talk(t, fmt.Sprint("file ", k),
			putLine("p", file), "code 0", "list", fmt.Sprintf("p:raw:%d", len(file)), "get p", toHex(file), "sum p", sum, "pic p", told,
			"pack p", code, "list", list, "get p", toHex(file), "sum p", sum, "pic p", told,
			"pack p", "code 5", "sync", "code 0", "crash -", "code 0", "list", list, "get p", toHex(file), "sum p", sum, "pic p", told,
			"drop p", "code 0", "get p", "code 3", "sum p", "code 3", "pic p", "code 3", "crash 0", "code 0", "list", list, "get p", toHex(file),
		)
	}
	if packs < 10 || keeps < 10 {
		t.Error("packed are", packs, "kept are", keeps)
	}
}

// Two pictures that are packed beside texts stay apart.
func TestSeveralPicturesAtTheDesk(t *testing.T) {
	big, other, text := bigFile(t), fileSaving(t, 5), "a text"
	small, _ := impl.Squeeze(big)
	told := fmt.Sprintf("0 40 40 %d", len(big)-len(small))
	talk(t, "several",
		putLine("c", other), "code 0", putLine("a", big), "code 0", putLine("b", text), "code 0", putLine("d", big), "code 0",
		"pack a", "code 0", "pack b", "code 5", "pack c", "code 0",
		"list", fmt.Sprintf("a:packed:%d b:raw:6 c:packed:%d d:raw:%d", len(small), len(other)-5, len(big)),
		"get a", toHex(big), "get b", toHex(text), "get c", toHex(other), "get d", toHex(big), "pic a", told, "pic d", told, "pic b", "1",
		"drop a", "code 0", "get a", "code 3", "get d", toHex(big), "pic c", fmt.Sprintf("0 %d 1 5", other[2]),
		putLine("c", text), "code 0", "pic c", "1", "get c", toHex(text), "list", fmt.Sprintf("b:raw:6 c:raw:6 d:raw:%d", len(big)),
	)
}

// What PicRead refuses is told by its code, and neither packed nor changed.
func TestPicturesThatPicReadRefuses(t *testing.T) {
	for code, texts := range noPics(t) {
		for k, text := range texts {
			talk(t, fmt.Sprint("code ", code, ", text ", k),
				putLine("p", text), "code 0", "pic p", fmt.Sprint(code), "pack p", "code 5", "pic p", fmt.Sprint(code), "get p", toHex(text),
				"list", fmt.Sprintf("p:raw:%d", len(text)), "sum p", fmt.Sprintf("%x", sha256.Sum256([]byte(text))), "drop p", "code 0", "pic p", "code 3",
			)
		}
	}
	parts := fileParts()
	for i, part := range parts {
		for k, text := range part.texts {
			file, want := "", "0 1 1 -1"
			for j, other := range parts {
				if j == i {
					file += text
				} else {
					file += other.texts[0]
				}
			}
			if k > 0 {
				want = fmt.Sprint(part.reason)
			}
			if len(file) <= impl.MaxFile {
				talk(t, fmt.Sprint("part ", i, ", text ", k), putLine("p", file), "code 0", "pic p", want)
			}
		}
	}
}

// What is got may be longer than what can be put: as long as a file can be,
// where its codes are far too long for its blocks.
func TestTheLongestFileAtTheDesk(t *testing.T) {
	one := impl.Block{Ac: slices.Repeat([]int{1}, 63)}
	wide := impl.Codes{Counts: counts(0, 0, 0, 0, 0, 0, 0, 0, 0, 0, 0, 0, 0, 0, 0, 1), Syms: []int{1}}
	p := impl.Pic{W: 37, H: 12, Tables: impl.Tables{Dc: codesWith(0, 1), Ac: wide}, Note: someText(462), Blocks: slices.Repeat([]impl.Block{one}, 37*12)}
	file, ok := impl.PicWrite(p)
	small, okToo := impl.Squeeze(file)
	if !ok || !okToo || len(file) != impl.MaxBytes || len(small) > impl.MaxFile {
		t.Fatal("the file has", len(file), "bytes, packed", len(small), ok, okToo)
	}
	s := storeOf(t, 60, putText("f", "x"), packText("f", small))
	tells(t, "the longest", s, "get f", hex.EncodeToString([]byte(file)))
	tells(t, "the longest", s, "sum f", fmt.Sprintf("%x", sha256.Sum256([]byte(file))))
	tells(t, "the longest", s, "list", fmt.Sprintf("f:packed:%d", len(small)))
	tells(t, "the longest", s, "pack f", "code 5")
	if _, said := impl.DeskLine(s, "pic f"); said != fmt.Sprintf("0 37 12 %d", impl.MaxBytes-len(small)) {
		t.Error("pic:", said)
	}
}

func TestEachCodeOfALine(t *testing.T) {
	big := bigFile(t)
	junk := storeOf(t, 60, putText("f", big), packText("f", "junk"), putText("a", "x"), putText("g", big), putText("k", ""))
	full := storeOf(t, len(laid(putText("f", big), putText("a", "x"))), putText("f", big), putText("a", "x"))
	late := withLate(storeOf(t, 60, putText("f", big), putText("a", "x")), impl.MaxLate)
	texts := []string{putText("f", big), putText("a", "x")}
	for len(texts) < impl.MaxItems {
		texts = append(texts, putText(fmt.Sprint("i", len(texts)), ""))
	}
	items := storeOf(t, 100, texts...)
	lost := impl.Store{Disk: impl.Disk{Sectors: append(laid(dropText("a")), "", ""), Late: []impl.Write{{At: 0}}}}
	long := strings.Repeat("00", impl.MaxFile+1)
	for name, c := range map[string]struct {
		store impl.Store
		turns []string
	}{
		"ordinary": {junk, []string{
			"put a 00", "code 0", "put n -", "code 0", "put A 00", "code 1", "put a_ -", "code 1", "put " + strings.Repeat("a", 21) + " 00", "code 1", "put A " + long, "code 1",
			"put a " + long, "code 2", "put n " + long, "code 2", "drop a", "code 0", "drop f", "code 0", "drop n", "code 3", "drop A", "code 3",
			"pack g", "code 0", "pack n", "code 3", "pack A", "code 3", "pack a", "code 5", "pack f", "code 5", "pack k", "code 5", "sync", "code 0", "crash -", "code 0", "crash 0101", "code 0",
			"get a", "78", "get k", "-", "get n", "code 3", "get A", "code 3", "get f", "code 6", "sum n", "code 3", "sum A", "code 3", "sum f", "code 6", "pic n", "code 3", "pic A", "code 3", "pic f", "code 6",
			"pic a", "1", "pic k", "1", "list", fmt.Sprintf("a:raw:1 f:packed:4 g:raw:%d k:raw:0", len(big)), "free", "49",
		}},
		"no sector left": {full, []string{
			"put a 00", "code 4", "put n -", "code 4", "put A 00", "code 1", "put a " + long, "code 2", "drop a", "code 4", "drop n", "code 3", "pack f", "code 4", "pack a", "code 5", "pack n", "code 3",
			"sync", "code 0", "crash -", "code 0", "get a", "78", "get f", toHex(big), "list", fmt.Sprintf("a:raw:1 f:raw:%d", len(big)), "free", "0",
		}},
		"no room in Late": {late, []string{
			"put a 00", "code 4", "put n -", "code 4", "put A 00", "code 1", "put a " + long, "code 2", "drop a", "code 4", "drop n", "code 3", "pack f", "code 4", "pack a", "code 5", "pack n", "code 3",
			"sync", "code 0", "crash 1", "code 0", "get a", "78", "free", "55",
		}},
		"all items": {items, []string{
			"put n -", "code 4", "put N -", "code 1", "put n " + long, "code 2", "put a 00", "code 0", "drop a", "code 0", "pack f", "code 0", "pack n", "code 3", "get n", "code 3", "free", "37",
		}},
		"no store behind a crash": {lost, []string{
			"crash -", "code 6", "crash 0", "code 6", "crash 1", "code 0", "crash 01", "code 6", "sync", "code 0", "put a 00", "code 0", "get a", "code 3", "list", "-", "free", "3",
		}},
		"no sectors": {impl.Store{}, []string{
			"put a 00", "code 4", "put A 00", "code 1", "drop a", "code 3", "pack a", "code 3", "get a", "code 3", "sum a", "code 3", "pic a", "code 3", "sync", "code 0", "crash 1", "code 0", "list", "-", "free", "0",
		}},
	} {
		for k := 0; k < len(c.turns); k += 2 {
			after := tells(t, name, c.store, c.turns[k], c.turns[k+1])
			if strings.HasPrefix(c.turns[k+1], "code ") && c.turns[k+1] != "code 0" && !sameStore(after, c.store) {
				t.Errorf("%s: %s: refused, but %s", name, short(c.turns[k]), toldStore(after))
			}
		}
	}
}

// Words that only tell leave the store as it is.
func TestLinesThatOnlyTell(t *testing.T) {
	for k, s := range storesToHandIn(t) {
		for _, line := range []string{"get a", "get b", "get nobody", "list", "sum a", "sum b", "free", "pic a", "pic b", "pic f", "", "list -", "put a 0", "crash x"} {
			if after, _ := answers(t, fmt.Sprint("store ", k), s, line); !sameStore(after, s) {
				t.Errorf("store %d: %q leaves %s", k, line, toldStore(after))
			}
		}
	}
}

// Names are for the store to judge; a hyphen, a point and a word of the script
// are names like others.
func TestNamesAtTheDesk(t *testing.T) {
	s := newStore(t, 9)
	names := append([]string{"put", "drop", "pack", "sync", "crash", "get", "list", "sum", "free", "pic", "what", "code", "long", "00", "0", "raw", "packed"}, rightNames...)
	for _, name := range names {
		talk(t, name, "put "+name+" 6e", "code 0", "get "+name, "6e", "list", name+":raw:1", "pic "+name, "1", "pack "+name, "code 5", "drop "+name, "code 0", "get "+name, "code 3", "list", "-")
	}
	for _, name := range noNames {
		if name == "" || strings.Contains(name, " ") {
			for word, line := range lineOf(name) {
				if strings.Contains(line, " "+name) && strings.HasPrefix(line, word+" ") && word != "crash" {
					notUnderstood(t, "no word", s, line)
				}
			}
			continue
		}
		tells(t, "no name", s, "put "+name+" 00", "code 1")
		tells(t, "no name", s, "put "+name+" -", "code 1")
		for _, word := range []string{"drop", "pack", "get", "sum", "pic"} {
			tells(t, "no name", s, word+" "+name, "code 3")
		}
	}
}

// A store that is not right is left alone, whatever the line.
func TestStoresThatAreNotRightAtTheDesk(t *testing.T) {
	lines := []string{"", " ", "what", "put A 00", "put a", "put a 0", "crash x", "crash -", "crash 1111111111", "get nobody", "put new -", "list -"}
	for _, name := range []string{"a", "b", "nobody", "-"} {
		for _, line := range lineOf(name) {
			lines = append(lines, line)
		}
	}
	lines = append(lines, putLine("a", someText(impl.MaxFile+1)), putLine("a", bigFile(t)))
	for _, c := range someWrongStores(t) {
		if plainOk(c.store) {
			t.Fatal("not wrong:", c.name)
		}
		for _, line := range lines {
			if after, said := impl.DeskLine(c.store, line); said != "what" || !sameStore(after, c.store) {
				t.Errorf("%s: %s: %s, %s", c.name, short(line), short(said), toldStore(after))
			}
		}
	}
}

// All items are told, by their names, whatever order they were put in, and each
// time the same.
func TestTheListOfMaxItems(t *testing.T) {
	lines, want := []string{}, []string{}
	small := fileSaving(t, 3)
	for k, name := range manyNames(impl.MaxItems) {
		switch {
		case k%20 == 7:
			lines = append(lines, putLine(name, small), "pack "+name)
			want = append(want, fmt.Sprintf("%s:packed:%d", name, len(small)-3))
		default:
			lines = append(lines, putLine(name, someText(k*3)))
			want = append(want, fmt.Sprintf("%s:raw:%d", name, k*3))
		}
	}
	slices.SortFunc(want, func(a, b string) int {
		return strings.Compare(a[:strings.Index(a, ":")], b[:strings.Index(b, ":")])
	})
	lines = append(lines, "put one-more -", "list", "drop "+manyNames(impl.MaxItems)[3], "put one-more -")
	told := strings.Split(goesAs(t, "all items", scriptOf(append(lines, slices.Repeat([]string{"list"}, 40)...)...)), "\n")
	if told[len(lines)-4] != "code 4" || told[len(lines)-3] != strings.Join(want, " ") || told[len(lines)-2] != "code 0" || told[len(lines)-1] != "code 0" {
		t.Errorf("told are %q", told[len(lines)-4:len(lines)])
	}
	if last := told[len(lines):]; slices.IndexFunc(last[:40], func(s string) bool { return s != last[0] }) >= 0 {
		t.Error("the list is told in several ways")
	}
}

// The desk's own disk can be filled to its last sector.
func TestAScriptThatFillsTheDisk(t *testing.T) {
	file := fileOfLength(t, impl.MaxFile)
	small, _ := impl.Squeeze(file)
	lines, used := []string{}, 0
	for k := range 6 {
		name := fmt.Sprint("f", k)
		lines = append(lines, putLine(name, file))
		used += len(laid(putText(name, file)))
		if k < 5 {
			lines = append(lines, "pack "+name)
			used += len(laid(packText(name, small)))
		}
	}
	for ; used < 399; used++ {
		lines = append(lines, "put x -")
	}
	lines = append(lines, "free", "pack f5", "put x "+strings.Repeat("00", 114), "put x "+strings.Repeat("00", 113), "free", "put x -", "drop x", "pack f5", "put X -", "sync", "crash -", "get f0", "drop f1")
	if len(lines) > 200 || len(scriptOf(lines...)) > impl.MaxScript {
		t.Fatal("the script has", len(lines), "lines,", len(scriptOf(lines...)), "bytes")
	}
	told := strings.Split(goesAs(t, "full", scriptOf(lines...)), "\n")
	for k, line := range told[:len(lines)-13] {
		if line != "code 0" {
			t.Errorf("line %d: %s", k+1, line)
		}
	}
	want := []string{"1", "code 4", "code 4", "code 0", "0", "code 4", "code 4", "code 4", "code 1", "code 0", "code 0", toHex(file), "code 4"}
	if got := told[len(lines)-13 : len(lines)]; !slices.Equal(got, want) {
		t.Errorf("told at the end are %s", short(fmt.Sprint(got)))
	}
}

// linesToHandIn has each word, where it is done and where it is refused.
func linesToHandIn() []string {
	lines := []string{
		"", " ", "what", "put a 0", "put A 00", "put new 00", "put zz -", putLine("a", someText(impl.MaxFile+1)), putLine("new", someText(impl.MaxFile)),
		"drop nobody", "drop d", "pack f", "pack b", "crash -", "crash 1", "crash 011", "crash 111111111", "crash x", "get b", "get f", "get -", "sum b", "pic b", "pic f", "list -",
	}
	for _, line := range lineOf("a") {
		lines = append(lines, line)
	}
	slices.Sort(lines)
	return lines
}

func TestWhatIsHandedInToTheDeskIsLeftAlone(t *testing.T) {
	for k, was := range storesToHandIn(t) {
		for _, line := range linesToHandIn() {
			s, shown := roomyStore(was)
			ahead := shown()
			after, _ := impl.DeskLine(s, line)
			if shown() != ahead || s.At != was.At {
				t.Fatalf("store %d, %s: an argument or what stands behind it was written into", k, short(line))
			}
			spoilStore(after)
			if shown() != ahead {
				t.Fatalf("store %d, %s: the answer shares memory with an argument", k, short(line))
			}
		}
	}
}

func TestAnswersOfTheDeskStayAsTheyAre(t *testing.T) {
	for k, was := range storesToHandIn(t) {
		for _, line := range linesToHandIn() {
			s := cloneStore(was)
			after, said := impl.DeskLine(s, line)
			want := cloneStore(after)
			spoilStore(s)
			again, saidToo := impl.DeskLine(cloneStore(was), line)
			if !sameStore(after, want) || !sameStore(again, want) || said != saidToo {
				t.Fatalf("store %d, %s: the answer changed with its argument", k, short(line))
			}
		}
	}
}

// A desk that kept a file, or a word, would tell it in the next session.
func TestDesksHangOnNothingAhead(t *testing.T) {
	want := "-\n400\ncode 3\nwhat\n"
	for seed := range uint64(3) {
		impl.Desk(scriptOf(longScript(t, seed)...))
		impl.Desk("put a 00\nsync\n")
		impl.DeskLine(newStore(t, 5), "put a 00")
		impl.DeskLine(newStore(t, 5), "what")
		impl.Desk("no script")
		if got := impl.Desk("list\nfree\nget a\nwhat\n"); got != want {
			t.Fatalf("told is %q", got)
		}
	}
}

// Two ways to go on from one store know nothing of each other.
func TestTwoWaysToGoOnAtTheDesk(t *testing.T) {
	s, _ := impl.DeskLine(newStore(t, 50), "put a 61")
	one, _ := impl.DeskLine(s, "put x 31")
	other, _ := impl.DeskLine(s, "put x 32")
	tells(t, "one", one, "get x", "31")
	tells(t, "other", other, "get x", "32")
	tells(t, "neither", s, "get x", "code 3")
	tells(t, "neither", s, "list", "a:raw:1")
}

// Many may sit at desks at a time, and ask one store.
func TestDesksOfManyAtATime(t *testing.T) {
	s := done(t, rightStore(t), put("f", bigFile(t)))
	lines := linesToHandIn()
	text := scriptOf(longScript(t, 3)[:60]...) + "list\n"
	want := plainDesk(text)
	wrong := make([]int, 8)
	all := sync.WaitGroup{}
	for w := range wrong {
		all.Go(func() {
			for k := range lines {
				line := lines[(k+w)%len(lines)]
				store, told := plainDeskLine(s, line)
				if after, said := impl.DeskLine(s, line); said != told || !sameStore(after, store) {
					wrong[w]++
				}
			}
			if impl.Desk(text) != want {
				wrong[w]++
			}
		})
	}
	all.Wait()
	if slices.Max(wrong) != 0 {
		t.Error("other answers:", wrong)
	}
}
