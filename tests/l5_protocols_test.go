package tests

import (
	"fmt"
	"math"
	"math/rand"
	"regexp"
	"runtime"
	"slices"
	"strconv"
	"strings"
	"sync"
	"testing"
	"time"

	"loop.example/twoplayers/impl"
)

// A step is a bit on the way to an end: where it stands in the text, who says it, the set, and the bit.
type step struct {
	at  int
	who byte
	set int
	bit int
}

// takes reports whether two inputs go this way on.
func (s step) takes(x int, y int) bool {
	return s.bit == s.set>>s.inputOf(x, y)&1
}

func (s step) inputOf(x int, y int) int {
	if s.who == 'A' {
		return x
	}
	return y
}

// A way leads to an end.
type way struct {
	steps []step
	at    int
	value int
}

func (w way) takes(x int, y int) bool {
	return !slices.ContainsFunc(w.steps, func(s step) bool { return !s.takes(x, y) })
}

// bits returns what is said on the way.
func (w way) bits() string {
	var text strings.Builder
	for _, s := range w.steps {
		text.WriteString(strconv.Itoa(s.bit))
	}
	return text.String()
}

// pairs returns the inputs that take the way.
func (w way) pairs(rows int, cols int) [][2]int {
	var list [][2]int
	for x := range rows {
		for y := range cols {
			if w.takes(x, y) {
				list = append(list, [2]int{x, y})
			}
		}
	}
	return list
}

// waysOf returns the ways to all ends of a protocol, from left to right. Behind each end, the last step with
// the bit 0 goes on with 1.
func waysOf(p string) []way {
	var list []way
	var steps []step
	for i := 0; i < len(p); i++ {
		if p[i] == 'A' || p[i] == 'B' {
			set, _ := strconv.ParseUint(p[i+1:i+3], 16, 8)
			steps = append(steps, step{at: i, who: p[i], set: int(set)})
			i += 2
			continue
		}
		list = append(list, way{steps: slices.Clone(steps), at: i, value: int(p[i] - '0')})
		for len(steps) > 0 && steps[len(steps)-1].bit == 1 {
			steps = steps[:len(steps)-1]
		}
		if len(steps) > 0 {
			steps[len(steps)-1].bit = 1
		}
	}
	return list
}

// wayOf returns the only way that two inputs take.
func wayOf(t *testing.T, ways []way, x int, y int) way {
	t.Helper()
	var taken []way
	for _, w := range ways {
		if w.takes(x, y) {
			taken = append(taken, w)
		}
	}
	if len(taken) != 1 {
		t.Fatalf("%d, %d take %d ways", x, y, len(taken))
	}
	return taken[0]
}

// isProtocol counts the protocols that are still to come in a text of bits and ends.
func isProtocol(s string) bool {
	words := regexp.MustCompile(`[AB][0-9a-f]{2}|[01]`).FindAllString(s, -1)
	missing := 1
	for _, word := range words {
		if missing == 0 {
			return false
		}
		if len(word) == 1 {
			missing--
		} else {
			missing++
		}
	}
	return missing == 0 && strings.Join(words, "") == s && len(s) <= 2000
}

// leftChain returns a protocol with so many bits, each of which is said after a 0.
func leftChain(count int) string {
	return strings.Repeat("A0fB33", count/2) + strings.Repeat("A55", count%2) + "0" + strings.Repeat("1", count)
}

// rightChain returns a protocol with so many bits, each of which is said after a 1.
func rightChain(count int) string { return strings.Repeat("Bfe0", count) + "1" }

// randomProtocol returns a protocol with so many bits.
func randomProtocol(random *rand.Rand, count int) string {
	if count == 0 {
		return strconv.Itoa(random.Intn(2))
	}
	set := random.Intn(256)
	if random.Intn(4) == 0 {
		set = []int{0, 255, 1, 3, 15, 128}[random.Intn(6)]
	}
	before := random.Intn(count)
	said := fmt.Sprintf("%c%02x", "AB"[random.Intn(2)], set)
	return said + randomProtocol(random, before) + randomProtocol(random, count-1-before)
}

// someProtocols returns protocols of many shapes: without bits, with bits that are always the same, with ends
// that nothing reaches, and as long as they can be.
func someProtocols() []string {
	list := []string{
		"0", "1", "A0001", "A0010", "Aff01", "Bff10", "B0000", "B5511", "A0101", "B8001", "A02B0101B0201",
		"B0a1A0100", "A06B0f0A0401B0301", "A00A0f01B0f01", "AffA0f01B0f01", "A0fA0f01A0f01", "A0fB0fA0f01B0f011",
		"BaaB5501B5510", "A01A02A04A08A10A20A40A80" + "010101010",
		leftChain(1), leftChain(2), leftChain(7), rightChain(7), leftChain(499), rightChain(499),
	}
	random := rand.New(rand.NewSource(7))
	for count := 1; count <= 20; count++ {
		for range 6 {
			list = append(list, randomProtocol(random, count))
		}
	}
	return append(list, randomProtocol(random, 100), randomProtocol(random, 499))
}

// noProtocols returns texts of each kind that is no protocol.
func noProtocols() map[string]string {
	return map[string]string{
		"empty":                    "",
		"another digit":            "2",
		"a sign":                   "-1",
		"another letter":           "C0101",
		"a small letter":           "a0101",
		"a letter alone":           "A",
		"one digit alone":          "B0",
		"a set alone":              "A01",
		"one part missing":         "A010",
		"a part that breaks off":   "A0001A",
		"a part that is none":      "A0102",
		"no first part":            "A01x1",
		"more behind an end":       "00",
		"more behind a bit":        "A01010",
		"a bit behind an end":      "0A0101",
		"a digit past f":           "A0g01",
		"a first digit past f":     "Ag001",
		"a great digit":            "AFF01",
		"one great digit":          "B0F01",
		"a great first digit":      "BA001",
		"a set with a sign":        "A+101",
		"a set below zero":         "A-101",
		"a set with an underscore": "A_101",
		"a set with a prefix":      "A0x01",
		"a set of one digit":       "A1B0101",
		"a space before":           " 0",
		"a space behind":           "0 ",
		"a space for a digit":      "A 101",
		"a newline":                "A0101\n",
		"a byte zero":              "\x00",
		"a byte one":               "\x01",
		"a byte of value 255":      "A01\xff1",
		"a digit of two bytes":     "A\u066101",
		"a letter of two bytes":    "\u0410" + "0101",
		"one bit too many":         leftChain(500),
		"many bits too many":       rightChain(100000),
		"a protocol and too much":  leftChain(499) + "0000",
		"an end and too much":      "0" + strings.Repeat("0", 2000),
		"letters without an end":   strings.Repeat("A00", 5000),
		"letters as long as can":   strings.Repeat("A00", 666),
	}
}

func TestProtocolValid(t *testing.T) {
	for _, p := range someProtocols() {
		if !isProtocol(p) || !impl.ProtocolValid(p) {
			t.Errorf("ProtocolValid(%q) is false", p)
		}
	}
	for name, p := range noProtocols() {
		if isProtocol(p) || impl.ProtocolValid(p) {
			t.Errorf("%s: ProtocolValid(%q)", name, p)
		}
	}
	for set := range 256 {
		for _, who := range "AB" {
			for _, ends := range []string{"00", "01", "10", "11"} {
				if p := fmt.Sprintf("%c%02x%s", who, set, ends); !impl.ProtocolValid(p) {
					t.Errorf("ProtocolValid(%q) is false", p)
				}
			}
		}
	}
	if impl.MaxProtocol != 2000 {
		t.Errorf("MaxProtocol = %d", impl.MaxProtocol)
	}
}

func TestChangedProtocols(t *testing.T) {
	for _, p := range []string{"0", "1", "A0101", "Bff10", "A02B0101B0201", "B0a1A0100", "AabBcd0Aef01B4511"} {
		for i := range len(p) + 1 {
			for c := range 256 {
				texts := []string{p[:i] + string([]byte{byte(c)}) + p[i:], p[:i]}
				if i < len(p) {
					texts = append(texts, p[:i]+string([]byte{byte(c)})+p[i+1:], p[:i]+p[i+1:])
				}
				for _, s := range texts {
					if ok := impl.ProtocolValid(s); ok != isProtocol(s) {
						t.Errorf("ProtocolValid(%q) = %v", s, ok)
					}
				}
			}
		}
	}
}

func TestLongestProtocols(t *testing.T) {
	for _, p := range []string{leftChain(499), rightChain(499), randomProtocol(rand.New(rand.NewSource(8)), 499)} {
		if len(p) != 1997 || !impl.ProtocolValid(p) || impl.LeavesOf(p) != 500 {
			t.Errorf("%d bytes: ProtocolValid is %v, LeavesOf is %d", len(p), impl.ProtocolValid(p), impl.LeavesOf(p))
		}
		for behind := 1; behind <= 5; behind++ {
			if impl.ProtocolValid(p + strings.Repeat("0", behind)) {
				t.Errorf("%d bytes are valid", len(p)+behind)
			}
		}
	}
	if n := impl.BitsOf(leftChain(499)); n != 499 {
		t.Errorf("BitsOf = %d", n)
	}
	if bits, value := impl.TalkOf(rightChain(499), 0, 7); bits != strings.Repeat("1", 499) || value != 1 {
		t.Errorf("TalkOf = %q, %d", bits, value)
	}
}

func TestBitsAndLeaves(t *testing.T) {
	for _, p := range someProtocols() {
		ways := waysOf(p)
		bits := 0
		for _, w := range ways {
			bits = max(bits, len(w.steps))
		}
		if n := impl.BitsOf(p); n != bits {
			t.Errorf("BitsOf(%q) = %d, want %d", p, n, bits)
		}
		if n := impl.LeavesOf(p); n != len(ways) {
			t.Errorf("LeavesOf(%q) = %d, want %d", p, n, len(ways))
		}
	}
	for _, c := range []struct {
		p            string
		bits, leaves int
	}{
		{"0", 0, 1}, {"1", 0, 1}, {"A0101", 1, 2}, {"A02B0101B0201", 2, 4}, {"B0a1A0100", 2, 3},
		{"A001B0100", 2, 3}, {"AffA00A0001B01001", 3, 5}, {rightChain(499), 499, 500},
	} {
		if bits, leaves := impl.BitsOf(c.p), impl.LeavesOf(c.p); bits != c.bits || leaves != c.leaves {
			t.Errorf("BitsOf and LeavesOf(%q) = %d, %d, want %d, %d", c.p, bits, leaves, c.bits, c.leaves)
		}
	}
}

func TestTalkOf(t *testing.T) {
	for _, p := range someProtocols() {
		ways := waysOf(p)
		for x := -1; x <= 8; x++ {
			for y := -1; y <= 8; y++ {
				wantBits, wantValue := "", -1
				if x >= 0 && x < 8 && y >= 0 && y < 8 {
					w := wayOf(t, ways, x, y)
					wantBits, wantValue = w.bits(), w.value
				}
				if bits, value := impl.TalkOf(p, x, y); bits != wantBits || value != wantValue {
					t.Fatalf("TalkOf(%q, %d, %d) = %q, %d, want %q, %d", p, x, y, bits, value, wantBits, wantValue)
				}
			}
		}
	}
	for _, n := range []int{math.MinInt, -8, 9, 64, 256, 1 << 32, math.MaxInt} {
		for _, pair := range [][2]int{{n, 0}, {0, n}, {n, n}} {
			if bits, value := impl.TalkOf("A0101", pair[0], pair[1]); bits != "" || value != -1 {
				t.Errorf("TalkOf(%d, %d) = %q, %d", pair[0], pair[1], bits, value)
			}
		}
	}
}

func TestTalkTexts(t *testing.T) {
	for _, c := range []struct {
		name  string
		p     string
		x, y  int
		bits  string
		value int
	}{
		{"nothing is said", "0", 3, 4, "", 0},
		{"nothing is said of 1", "1", 7, 7, "", 1},
		{"a says 0", "A0110", 1, 0, "0", 1},
		{"a says 1", "A0110", 0, 1, "1", 0},
		{"b says 0", "B0110", 0, 1, "0", 1},
		{"b says 1", "B0110", 1, 0, "1", 0},
		{"the first digit counts sixteens", "A1001", 4, 0, "1", 1},
		{"the second digit counts ones", "A0101", 4, 0, "0", 0},
		{"the last input", "B8001", 0, 7, "1", 1},
		{"the empty set", "A0001", 0, 0, "0", 0},
		{"the set of all", "Bff01", 0, 0, "1", 1},
		{"a speaks again", "A0fA0301A0201", 1, 0, "11", 1},
		{"b speaks before a", "B02A0401A0801", 3, 1, "11", 1},
		{"both in turns", "A01B02A0401B0801B02A0401B0801", 0, 1, "110", 0},
		{"a says the same twice", "A01A0101A0101", 0, 0, "11", 1},
	} {
		if bits, value := impl.TalkOf(c.p, c.x, c.y); bits != c.bits || value != c.value {
			t.Errorf("%s: TalkOf(%q, %d, %d) = %q, %d", c.name, c.p, c.x, c.y, bits, value)
		}
	}
}

func TestTalksAtTheSameTime(t *testing.T) {
	p := randomProtocol(rand.New(rand.NewSource(9)), 60)
	before := runtime.NumGoroutine()
	var all sync.WaitGroup
	for x := range 8 {
		for y := range 8 {
			w := wayOf(t, waysOf(p), x, y)
			all.Add(1)
			go func() {
				defer all.Done()
				for range 20 {
					if bits, value := impl.TalkOf(p, x, y); bits != w.bits() || value != w.value {
						t.Errorf("TalkOf(%q, %d, %d) = %q, %d", p, x, y, bits, value)
					}
				}
			}()
		}
	}
	all.Wait()
	// A player who still waits for a bit would never end.
	for tries := 0; runtime.NumGoroutine() > before && tries < 1000; tries++ {
		time.Sleep(time.Millisecond)
	}
	if n := runtime.NumGoroutine(); n > before {
		t.Errorf("%d goroutines are left of %d", n, before)
	}
}

// sidesFor returns numbers of rows and columns: all of them for a short protocol, and some for a long one.
func sidesFor(p string) [][2]int {
	var list [][2]int
	for rows := 1; rows <= 8; rows++ {
		for cols := 1; cols <= 8; cols++ {
			if len(p) < 30 || rows == cols && rows%3 == 2 || rows+cols == 9 && rows%3 == 1 {
				list = append(list, [2]int{rows, cols})
			}
		}
	}
	return list
}

// matrixFound returns the matrix of the values of the ends that inputs reach.
func matrixFound(t *testing.T, ways []way, rows int, cols int) impl.Matrix {
	t.Helper()
	text := ""
	for x := range rows {
		for y := range cols {
			text += strconv.Itoa(wayOf(t, ways, x, y).value)
		}
	}
	return impl.Matrix{Rows: rows, Cols: cols, Bits: text}
}

func TestMatrixOf(t *testing.T) {
	for _, p := range someProtocols() {
		ways := waysOf(p)
		for _, size := range sidesFor(p) {
			m, ok := impl.MatrixOf(p, size[0], size[1])
			wantMatrix(t, fmt.Sprintf("MatrixOf(%q, %d, %d)", p, size[0], size[1]), m, ok, impl.FormatMatrix(matrixFound(t, ways, size[0], size[1])))
		}
	}
	for _, c := range []struct {
		p          string
		rows, cols int
		want       string
	}{
		{"0", 2, 3, "000/000"}, {"1", 1, 1, "1"}, {"A02B0101B0201", 2, 2, "10/01"}, {"A02B0101B0201", 3, 1, "1/0/1"},
		{"A8001", 8, 1, "0/0/0/0/0/0/0/1"}, {"A8001", 7, 1, "0/0/0/0/0/0/0"}, {"B8010", 1, 8, "11111110"},
	} {
		m, ok := impl.MatrixOf(c.p, c.rows, c.cols)
		wantMatrix(t, "MatrixOf "+c.p, m, ok, c.want)
	}
}

// changedEntries returns the matrix with another value of each of some entries.
func changedEntries(m impl.Matrix, set uint64) impl.Matrix {
	text := []byte(m.Bits)
	for i := range text {
		text[i] ^= byte(set >> i & 1)
	}
	m.Bits = string(text)
	return m
}

func TestComputesAndErrorsOf(t *testing.T) {
	random := rand.New(rand.NewSource(10))
	for _, p := range someProtocols() {
		ways := waysOf(p)
		for _, size := range sidesFor(p) {
			right := matrixFound(t, ways, size[0], size[1])
			for _, set := range []uint64{0, 1, 1 << (size[0]*size[1] - 1), random.Uint64(), math.MaxUint64} {
				m := changedEntries(right, set)
				errors := 0
				for i := range m.Bits {
					if m.Bits[i] != right.Bits[i] {
						errors++
					}
				}
				if n := impl.ErrorsOf(p, m); n != errors {
					t.Errorf("ErrorsOf(%q, %+v) = %d, want %d", p, m, n, errors)
				}
				if ok := impl.Computes(p, m); ok != (errors == 0) {
					t.Errorf("Computes(%q, %+v) = %v with %d errors", p, m, ok, errors)
				}
			}
		}
	}
}

func TestErrorTexts(t *testing.T) {
	for _, c := range []struct {
		p, m   string
		errors int
	}{
		{"A02B0101B0201", "10/01", 0}, {"A02B0101B0201", "01/10", 4}, {"0", "10/01", 2}, {"1", "10/01", 2}, {"0", "0", 0}, {"1", "0", 1},
		{"A02B0101B0201", "1", 0}, {"A02B0101B0201", "101/010/101", 2}, {"0", "111/111", 6}, {"0", "0000", 0},
		{"1", strings.Repeat("00000000/", 7) + "00000000", 64},
	} {
		m := matrix(t, c.m)
		if n := impl.ErrorsOf(c.p, m); n != c.errors {
			t.Errorf("ErrorsOf(%q, %q) = %d, want %d", c.p, c.m, n, c.errors)
		}
		if ok := impl.Computes(c.p, m); ok != (c.errors == 0) {
			t.Errorf("Computes(%q, %q) = %v", c.p, c.m, ok)
		}
	}
}

// leafRects returns the rows and the columns of the inputs that take each way, where there are some.
func leafRects(ways []way, rows int, cols int) []impl.Rect {
	var list []impl.Rect
	for _, w := range ways {
		var r impl.Rect
		for _, pair := range w.pairs(rows, cols) {
			r.Rows |= 1 << pair[0]
			r.Cols |= 1 << pair[1]
		}
		if r != (impl.Rect{}) {
			list = append(list, r)
		}
	}
	return list
}

func TestLeafRects(t *testing.T) {
	for _, p := range someProtocols() {
		ways := waysOf(p)
		for _, size := range sidesFor(p) {
			list := impl.LeafRects(p, size[0], size[1])
			if want := leafRects(ways, size[0], size[1]); !slices.Equal(list, want) {
				t.Errorf("LeafRects(%q, %d, %d) = %s, want %s", p, size[0], size[1], formatRects(list), formatRects(want))
			}
		}
	}
	for _, c := range []struct {
		name       string
		p          string
		rows, cols int
		want       string
	}{
		{"one end", "0", 2, 3, "01:012"},
		{"one entry", "A02B0101B0201", 1, 1, "0:0"},
		{"from left to right", "A02B0101B0201", 3, 2, "02:1 02:0 1:0 1:1"},
		{"a row that is not there", "A0401", 2, 2, "01:01"},
		{"a column that is not there", "B0401", 2, 2, "01:01"},
		{"all rows in the set", "Aff01", 3, 1, "012:0"},
		{"no rows in the set", "A0001", 3, 1, "012:0"},
		{"ends that are not reached", "A02A020B02101", 2, 2, "0:01 1:01"},
		{"all sides", "A80B8001B8010", 8, 8, "0123456:0123456 0123456:7 7:0123456 7:7"},
	} {
		if list := impl.LeafRects(c.p, c.rows, c.cols); formatRects(list) != c.want {
			t.Errorf("%s: LeafRects(%q, %d, %d) = %s", c.name, c.p, c.rows, c.cols, formatRects(list))
		}
	}
}

func TestLeafRectsAreNew(t *testing.T) {
	p := "A02B0101B0201"
	want := "0:1 0:0 1:0 1:1"
	for range 2 {
		list := impl.LeafRects(p, 2, 2)
		if formatRects(list) != want {
			t.Errorf("LeafRects = %s", formatRects(list))
		}
		clear(list[:cap(list)])
	}
}

// wantProtocol checks a result that is this protocol, or none if the text is empty.
func wantProtocol(t *testing.T, name string, p string, ok bool, want string) {
	t.Helper()
	if p != want || ok != (want != "") {
		t.Errorf("%s = %q, %v; want %q", name, p, ok, want)
	}
}

// withEnds returns a protocol with other texts in place of its ends.
func withEnds(p string, zero string, one string) string {
	text, from := "", 0
	for _, w := range waysOf(p) {
		text += p[from:w.at] + []string{zero, one}[w.value]
		from = w.at + 1
	}
	return text
}

func TestTurnAndNotProtocol(t *testing.T) {
	exchange := strings.NewReplacer("A", "B", "B", "A")
	for _, p := range someProtocols() {
		turned, ok := impl.TurnProtocol(p)
		wantProtocol(t, "TurnProtocol", turned, ok, exchange.Replace(p))
		other, ok := impl.NotProtocol(p)
		wantProtocol(t, "NotProtocol", other, ok, withEnds(p, "1", "0"))
		again, ok := impl.TurnProtocol(turned)
		wantProtocol(t, "TurnProtocol twice", again, ok, p)
		again, ok = impl.NotProtocol(other)
		wantProtocol(t, "NotProtocol twice", again, ok, p)
		for _, size := range sidesFor(p) {
			m, _ := impl.MatrixOf(p, size[0], size[1])
			n, ok := impl.MatrixOf(other, size[0], size[1])
			wantMatrix(t, "MatrixOf NotProtocol", n, ok, impl.FormatMatrix(otherOf(m)))
			across, _ := impl.TurnMatrix(m)
			n, ok = impl.MatrixOf(turned, size[1], size[0])
			wantMatrix(t, "MatrixOf TurnProtocol", n, ok, impl.FormatMatrix(across))
		}
	}
	p, ok := impl.TurnProtocol("AabBba0A0b01B0a11")
	wantProtocol(t, "TurnProtocol of small letters", p, ok, "BabAba0B0b01A0a11")
	p, ok = impl.NotProtocol("A01B1001B1100")
	wantProtocol(t, "NotProtocol of digits in sets", p, ok, "A01B1010B1111")
}

func TestGraftProtocol(t *testing.T) {
	random := rand.New(rand.NewSource(11))
	for _, p := range someProtocols() {
		for range 3 {
			zero, one := randomProtocol(random, random.Intn(6)), randomProtocol(random, random.Intn(6))
			want := withEnds(p, zero, one)
			if len(want) > 2000 {
				want = ""
			}
			q, ok := impl.GraftProtocol(p, zero, one)
			wantProtocol(t, fmt.Sprintf("GraftProtocol(%q, %q, %q)", p, zero, one), q, ok, want)
			if !ok {
				continue
			}
			zeros, _ := impl.MatrixOf(zero, 8, 8)
			ones, _ := impl.MatrixOf(one, 8, 8)
			m, _ := impl.MatrixOf(p, 8, 8)
			n, _ := impl.MatrixOf(q, 8, 8)
			for i := range m.Bits {
				if value := []impl.Matrix{zeros, ones}[m.Bits[i]-'0'].Bits[i]; n.Bits[i] != value {
					t.Errorf("GraftProtocol(%q, %q, %q) finds %c for the entry %d", p, zero, one, n.Bits[i], i)
				}
			}
		}
		same, ok := impl.GraftProtocol(p, "0", "1")
		wantProtocol(t, "GraftProtocol of ends", same, ok, p)
	}
}

func TestGraftTexts(t *testing.T) {
	for _, c := range []struct {
		p, zero, one string
		want         string
	}{
		{"A0101", "B0201", "0", "A01B02010"}, {"0", "A0101", "x", ""}, {"0", "A0101", "1", "A0101"}, {"1", "A0101", "B0210", "B0210"},
		{"A0100", "1", "A0", ""}, {"A0111", "", "0", ""}, {"A0111", "B0201", "0", "A0100"}, {"x", "0", "1", ""},
		{"B0110", "A0f01", "Af010", "B01Af010A0f01"}, {"A0101", "0", "B02", ""}, {"A0101", "", "", ""},
	} {
		q, ok := impl.GraftProtocol(c.p, c.zero, c.one)
		wantProtocol(t, fmt.Sprintf("GraftProtocol(%q, %q, %q)", c.p, c.zero, c.one), q, ok, c.want)
	}
}

func TestGraftTooLong(t *testing.T) {
	// Each of ten ends 0 becomes a protocol with 49 bits; one more bit is too long.
	ten := strings.Repeat("A01", 9) + strings.Repeat("0", 10)
	for _, c := range []struct {
		p, zero, one string
		ok           bool
	}{
		{leftChain(200), leftChain(299), "1", true},
		{leftChain(200), leftChain(300), "1", false},
		{rightChain(199), "0", rightChain(300), true},
		{rightChain(200), "0", rightChain(300), false},
		{ten, leftChain(49), leftChain(499), true},
		{ten, leftChain(50), "1", false},
		{"A00" + ten + "1", rightChain(48), rightChain(9), true},
		{"A00" + ten + "1", rightChain(48), rightChain(10), false},
		{leftChain(499), "0", "1", true},
		{leftChain(499), "A0101", "1", false},
		{leftChain(499), leftChain(499), rightChain(499), false},
	} {
		q, ok := impl.GraftProtocol(c.p, c.zero, c.one)
		want := ""
		if c.ok {
			want = withEnds(c.p, c.zero, c.one)
		}
		wantProtocol(t, "GraftProtocol of long ones", q, ok, want)
		if ok && !impl.ProtocolValid(q) {
			t.Errorf("GraftProtocol finds %d bytes", len(q))
		}
	}
}

// trimmedText writes of each bit that is said as 0 and as 1 by some inputs the numbers that say 1.
func trimmedText(t *testing.T, p string, rows int, cols int) string {
	t.Helper()
	var said [2]map[int]int
	for bit := range said {
		said[bit] = map[int]int{}
	}
	ways := waysOf(p)
	for x := range rows {
		for y := range cols {
			for _, s := range wayOf(t, ways, x, y).steps {
				said[s.bit][s.at] |= 1 << s.inputOf(x, y)
			}
		}
	}
	text, written := "", map[int]bool{}
	for _, w := range ways {
		if len(w.pairs(rows, cols)) == 0 {
			continue
		}
		for _, s := range w.steps {
			if said[0][s.at] != 0 && said[1][s.at] != 0 && !written[s.at] {
				written[s.at] = true
				text += fmt.Sprintf("%c%02x", s.who, said[1][s.at])
			}
		}
		text += strconv.Itoa(w.value)
	}
	return text
}

func TestTrimProtocol(t *testing.T) {
	for _, p := range someProtocols() {
		for _, size := range sidesFor(p) {
			rows, cols := size[0], size[1]
			q, ok := impl.TrimProtocol(p, rows, cols)
			wantProtocol(t, fmt.Sprintf("TrimProtocol(%q, %d, %d)", p, rows, cols), q, ok, trimmedText(t, p, rows, cols))
			again, ok := impl.TrimProtocol(q, rows, cols)
			wantProtocol(t, "TrimProtocol twice", again, ok, q)
			list, want := impl.LeafRects(q, rows, cols), impl.LeafRects(p, rows, cols)
			if !slices.Equal(list, want) || len(list) != impl.LeavesOf(q) {
				t.Errorf("TrimProtocol(%q, %d, %d): LeafRects = %s, want %s", p, rows, cols, formatRects(list), formatRects(want))
			}
			m, ok := impl.MatrixOf(p, rows, cols)
			if !ok || !impl.Computes(q, m) {
				t.Errorf("TrimProtocol(%q, %d, %d) = %q finds other values", p, rows, cols, q)
			}
			if impl.BitsOf(q) > impl.BitsOf(p) || len(q) > len(p) {
				t.Errorf("TrimProtocol(%q, %d, %d) = %q is longer", p, rows, cols, q)
			}
		}
	}
}

func TestTrimTexts(t *testing.T) {
	for _, c := range []struct {
		name       string
		p          string
		rows, cols int
		want       string
	}{
		{"an end", "1", 3, 3, "1"},
		{"nothing to leave out", "A02B0101B0201", 2, 2, "A02B0101B0201"},
		{"rows beyond the matrix", "A0601", 2, 2, "A0201"},
		{"columns beyond the matrix", "Bfe01", 1, 3, "B0601"},
		{"only rows beyond the matrix", "A0401", 2, 2, "0"},
		{"all rows of the matrix", "A0301", 2, 2, "1"},
		{"one row", "A02B0101B0201", 1, 2, "B0101"},
		{"one column", "A02B0101B0201", 2, 1, "A0210"},
		{"one entry", "A02B0101B0201", 1, 1, "1"},
		{"the same bit again", "A02A0201A0201", 2, 1, "A0201"},
		{"the other bit again", "A02A0101A0101", 2, 1, "A0210"},
		{"sets of what is left", "A0cA0a01A0a10", 4, 1, "A0cA0201A0810"},
		{"both players", "A06B0f0A0401B0301", 2, 2, "A0201"},
		{"what is left out stands first", "AffA000B0101B0a01", 1, 4, "B0a01"},
		{"equal ends stay", "A0100", 2, 1, "A0100"},
		{"greatest sides", "AffA8001B00B0101A8001", 8, 8, "B0101"},
	} {
		q, ok := impl.TrimProtocol(c.p, c.rows, c.cols)
		wantProtocol(t, c.name+": TrimProtocol", q, ok, c.want)
	}
}

// namedRows returns the protocol that names one of some different rows out of all rows.
func namedRows(list []string, all []string) string {
	if len(list) == 1 {
		switch strings.Count(list[0], "1") {
		case 0:
			return "0"
		case len(list[0]):
			return "1"
		}
		ones := 0
		for y, c := range list[0] {
			if c == '1' {
				ones += 1 << y
			}
		}
		return fmt.Sprintf("B%02x01", ones)
	}
	first, second := list[:len(list)-len(list)/2], list[len(list)-len(list)/2:]
	set := 0
	for x, row := range all {
		if slices.Contains(second, row) {
			set += 1 << x
		}
	}
	return fmt.Sprintf("A%02x%s%s", set, namedRows(first, all), namedRows(second, all))
}

func TestNameProtocol(t *testing.T) {
	for _, m := range append(smallMatrices(), rankedMatrices(t)...) {
		all := strings.Split(impl.FormatMatrix(m), "/")
		var list []string
		for _, row := range all {
			if !slices.Contains(list, row) {
				list = append(list, row)
			}
		}
		p, ok := impl.NameProtocol(m)
		wantProtocol(t, fmt.Sprintf("NameProtocol(%+v)", m), p, ok, namedRows(list, all))
		if !impl.Computes(p, m) || impl.ErrorsOf(p, m) != 0 {
			t.Errorf("NameProtocol(%+v) = %q finds other values", m, p)
		}
		if bits := impl.BitsOf(p); bits > impl.BitsFor(len(list))+1 {
			t.Errorf("NameProtocol(%+v) = %q says %d bits", m, p, bits)
		}
		q, ok := impl.TrimProtocol(p, m.Rows, m.Cols)
		wantProtocol(t, "TrimProtocol of NameProtocol", q, ok, p)
	}
}

func TestNameTexts(t *testing.T) {
	for _, c := range []struct{ m, want string }{
		{"0", "0"}, {"1", "1"}, {"000/000", "0"}, {"11/11/11", "1"}, {"01", "B0201"}, {"0/1", "A0201"}, {"1/0", "A0210"}, {"10/01", "A02B0101B0201"},
		{"01/01", "B0201"}, {"000/010/000/111/010", "A08A120B02011"}, {"00/01/10/11", "A0cA020B0201A08B01011"},
		{"1000/0100/0010/0001", "A0cA02B0101B0201A08B0401B0801"}, {"00000001", "B8001"},
		{"0/0/0/0/0/0/0/1", "A8001"}, {"00/01/10", "A04A020B0201B0101"},
	} {
		p, ok := impl.NameProtocol(matrix(t, c.m))
		wantProtocol(t, fmt.Sprintf("NameProtocol(%q)", c.m), p, ok, c.want)
	}
}

func TestTextsThatAreNoProtocols(t *testing.T) {
	m := matrix(t, "10/01")
	for name, p := range noProtocols() {
		if n := impl.BitsOf(p); n != -1 {
			t.Errorf("%s: BitsOf = %d", name, n)
		}
		if n := impl.LeavesOf(p); n != -1 {
			t.Errorf("%s: LeavesOf = %d", name, n)
		}
		if bits, value := impl.TalkOf(p, 0, 0); bits != "" || value != -1 {
			t.Errorf("%s: TalkOf = %q, %d", name, bits, value)
		}
		if impl.Computes(p, m) || impl.ErrorsOf(p, m) != -1 {
			t.Errorf("%s: Computes is %v, ErrorsOf is %d", name, impl.Computes(p, m), impl.ErrorsOf(p, m))
		}
		n, ok := impl.MatrixOf(p, 2, 2)
		wantMatrix(t, name+": MatrixOf", n, ok, "")
		if list := impl.LeafRects(p, 2, 2); len(list) != 0 {
			t.Errorf("%s: LeafRects = %v", name, list)
		}
		q, ok := impl.TurnProtocol(p)
		wantProtocol(t, name+": TurnProtocol", q, ok, "")
		q, ok = impl.NotProtocol(p)
		wantProtocol(t, name+": NotProtocol", q, ok, "")
		q, ok = impl.TrimProtocol(p, 2, 2)
		wantProtocol(t, name+": TrimProtocol", q, ok, "")
		for _, parts := range [][3]string{{p, "0", "1"}, {"0", p, "1"}, {"1", p, "0"}, {"0", "1", p}, {"1", "0", p}, {"A0101", p, p}} {
			q, ok = impl.GraftProtocol(parts[0], parts[1], parts[2])
			wantProtocol(t, name+": GraftProtocol", q, ok, "")
		}
	}
}

func TestProtocolsOfNoSides(t *testing.T) {
	for _, n := range []int{math.MinInt, -8, -1, 0, 9, 10, 16, 63, 64, 65, 1 << 32, math.MaxInt} {
		for _, side := range []int{n, 1, 2, 8} {
			for _, size := range [][2]int{{n, side}, {side, n}} {
				for _, p := range []string{"0", "A02B0101B0201"} {
					m, ok := impl.MatrixOf(p, size[0], size[1])
					wantMatrix(t, fmt.Sprintf("MatrixOf %v", size), m, ok, "")
					if list := impl.LeafRects(p, size[0], size[1]); len(list) != 0 {
						t.Errorf("LeafRects %v = %v", size, list)
					}
					q, ok := impl.TrimProtocol(p, size[0], size[1])
					wantProtocol(t, fmt.Sprintf("TrimProtocol %v", size), q, ok, "")
				}
			}
		}
	}
}

func TestProtocolsOfInvalidMatrices(t *testing.T) {
	for name, m := range invalidMatrices() {
		for _, p := range []string{"0", "1", "A02B0101B0201", "x", ""} {
			if impl.Computes(p, m) || impl.ErrorsOf(p, m) != -1 {
				t.Errorf("%s: Computes(%q, ..) is %v, ErrorsOf is %d", name, p, impl.Computes(p, m), impl.ErrorsOf(p, m))
			}
		}
		p, ok := impl.NameProtocol(m)
		wantProtocol(t, name+": NameProtocol", p, ok, "")
	}
}

// checkEnds checks that the ends of a protocol part the matrix that it finds.
func checkEnds(t *testing.T, p string, rows int, cols int) {
	t.Helper()
	m, ok := impl.MatrixOf(p, rows, cols)
	list := impl.LeafRects(p, rows, cols)
	if !ok || !impl.Computes(p, m) || !impl.IsPartition(m, list) {
		t.Errorf("the ends of %q do not part %s: %s", p, impl.FormatMatrix(m), formatRects(list))
	}
	for i, n := range timesIn(m, list) {
		if n != 1 {
			t.Errorf("the entry %d of %s is in %d ends of %q", i, impl.FormatMatrix(m), n, p)
		}
	}
	for _, r := range list {
		heard := map[string]bool{}
		for _, x := range numbersOf(r.Rows) {
			for _, y := range numbersOf(r.Cols) {
				bits, value := impl.TalkOf(p, x, y)
				heard[bits] = true
				if value != impl.ColourOf(m, r) {
					t.Errorf("TalkOf(%q, %d, %d) finds %d in %s", p, x, y, value, impl.FormatRect(r))
				}
			}
		}
		if len(heard) != 1 {
			t.Errorf("the inputs of %s talk differently by %q: %v", impl.FormatRect(r), p, heard)
		}
	}
	if len(list) > impl.LeavesOf(p) || len(list) < impl.PartitionNumber(m) {
		t.Errorf("%q has %d rectangles of %d ends", p, len(list), impl.LeavesOf(p))
	}
}

func TestEndsPartMatrices(t *testing.T) {
	for _, p := range someProtocols() {
		for _, size := range sidesFor(p) {
			checkEnds(t, p, size[0], size[1])
		}
	}
}

func TestEndsPartNamedMatrices(t *testing.T) {
	for _, m := range append(smallMatrices(), greaterMatrices(t)...) {
		p, _ := impl.NameProtocol(m)
		checkEnds(t, p, m.Rows, m.Cols)
		turned, _ := impl.TurnMatrix(m)
		q, _ := impl.NameProtocol(turned)
		p, _ = impl.TurnProtocol(q)
		checkEnds(t, p, m.Rows, m.Cols)
		if !impl.Computes(p, m) {
			t.Errorf("%q does not compute %s", p, impl.FormatMatrix(m))
		}
	}
}
