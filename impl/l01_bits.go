package impl

import "strconv"

const (
	MaxBytes = 60000
	MaxBits  = 480000
)

const (
	wordBits  = 32
	byteBits  = 8
	markByte  = 255
	maxNum    = 1000000000
	hexDigits = "0123456789abcdef"
)

// bitWriter lets go of its word only when the next bit finds no room, so that
// up to wordBits bits can still be told as one number.
type bitWriter struct {
	word uint32
	held int
	out  []byte
}

func (w *bitWriter) put(bit int) {
	if w.held == wordBits {
		w.flush()
	}
	w.word = w.word<<1 | uint32(bit)
	w.held++
}

func (w *bitWriter) putAll(bits []int) {
	for _, bit := range bits {
		w.put(bit)
	}
}

// flush is called only when whole bytes are held.
func (w *bitWriter) flush() {
	for w.held > 0 {
		w.held -= byteBits
		w.out = append(w.out, byte(w.word>>w.held))
	}
	w.word = 0
}

func (w *bitWriter) text() string {
	for w.held%byteBits != 0 {
		w.put(1)
	}
	w.flush()
	return string(w.out)
}

// bitReader has its next bit at place left - 1 of word; what is above that
// place has been read.
type bitReader struct {
	word uint32
	left int
	rest string
}

func (r *bitReader) fill() {
	for r.left < wordBits && r.rest != "" {
		r.word = r.word<<byteBits | uint32(r.rest[0])
		r.left += byteBits
		r.rest = r.rest[1:]
	}
}

// next is called only when there is a bit left.
func (r *bitReader) next() int {
	if r.left == 0 {
		r.fill()
	}
	r.left--
	return int((r.word >> r.left) & 1)
}

func (r *bitReader) all() []int {
	n := r.left + byteBits*len(r.rest)
	bits := make([]int, n)
	for i := range bits {
		bits[i] = r.next()
	}
	return bits
}

func isBit(x int) bool {
	return x == 0 || x == 1
}

func areBits(list []int) bool {
	for _, x := range list {
		if !isBit(x) {
			return false
		}
	}
	return true
}

func PutBits(bits []int) string {
	if len(bits) > MaxBits || !areBits(bits) {
		return ""
	}
	w := bitWriter{}
	w.putAll(bits)
	return w.text()
}

func GetBits(s string) []int {
	if len(s) > MaxBytes {
		return []int{}
	}
	r := bitReader{rest: s}
	return r.all()
}

func NumBits(x int, n int) []int {
	if n < 0 || n > wordBits || x < 0 || x>>n != 0 {
		return []int{}
	}
	r := bitReader{word: uint32(x), left: n}
	return r.all()
}

func BitsNum(bits []int) int {
	if len(bits) > wordBits || !areBits(bits) {
		return -1
	}
	w := bitWriter{}
	w.putAll(bits)
	return int(w.word)
}

func Stuff(s string) string {
	if len(s) > MaxBytes {
		return ""
	}
	out := make([]byte, 0, len(s))
	for i := range len(s) {
		out = append(out, s[i])
		if s[i] == markByte {
			out = append(out, 0)
		}
	}
	return string(out)
}

func Unstuff(s string) (string, bool) {
	if len(s) > 2*MaxBytes {
		return "", false
	}
	out := make([]byte, 0, len(s))
	for i := 0; i < len(s); i++ {
		out = append(out, s[i])
		if s[i] != markByte {
			continue
		}
		i++
		if i == len(s) || s[i] != 0 {
			return "", false
		}
	}
	if len(out) > MaxBytes {
		return "", false
	}
	return string(out), true
}

func PutWord(x uint32) string {
	return string([]byte{byte(x >> 24), byte(x >> 16), byte(x >> 8), byte(x)})
}

func GetWord(s string, i int) uint32 {
	if i < 0 || i > len(s)-4 {
		return 0
	}
	return uint32(s[i])<<24 | uint32(s[i+1])<<16 | uint32(s[i+2])<<8 | uint32(s[i+3])
}

func PutNum(x int) string {
	if x < 0 || x > maxNum {
		return ""
	}
	out := []byte{}
	for x >= 128 {
		out = append(out, byte(x%128+128))
		x /= 128
	}
	return string(append(out, byte(x)))
}

func GetNum(s string, i int) (int, int) {
	if i < 0 || i >= len(s) {
		return -1, -1
	}
	longest := len(PutNum(maxNum))
	x := 0
	for k := 0; k < longest && k < len(s)-i; k++ {
		c := int(s[i+k])
		x |= (c % 128) << (7 * k)
		if c >= 128 {
			continue
		}
		end := i + k + 1
		// Numbers above the limit and needless bytes are told apart by what
		// PutNum itself would write.
		if PutNum(x) != s[i:end] {
			return -1, -1
		}
		return x, end
	}
	return -1, -1
}

func DecText(n int) string {
	return strconv.Itoa(n)
}

func HexText(s string) string {
	if len(s) > MaxBytes {
		return ""
	}
	out := make([]byte, 0, 2*len(s))
	for i := range len(s) {
		out = append(out, hexDigits[s[i]/16], hexDigits[s[i]%16])
	}
	return string(out)
}

// hexValue answers -1 for what is no digit.
func hexValue(c byte) int {
	switch {
	case '0' <= c && c <= '9':
		return int(c - '0')
	case 'a' <= c && c <= 'f':
		return int(c-'a') + 10
	}
	return -1
}

func HexBytes(s string) (string, bool) {
	if len(s)%2 != 0 || len(s) > 2*MaxBytes {
		return "", false
	}
	out := make([]byte, 0, len(s)/2)
	for i := 0; i < len(s); i += 2 {
		high, low := hexValue(s[i]), hexValue(s[i+1])
		if high < 0 || low < 0 {
			return "", false
		}
		out = append(out, byte(16*high+low))
	}
	return string(out), true
}
