package tests

import (
	"fmt"
	"math"
	"math/bits"
	"math/rand"
	"slices"
	"strconv"
	"strings"
	"sync"
	"testing"

	"loop.example/twoplayers/impl"
)

// someCoinLists returns lists of all lengths, some of which have a protocol more than once.
func someCoinLists() [][]string {
	random := rand.New(rand.NewSource(40))
	all := someProtocols()
	var lists [][]string
	for count := 1; count <= 16; count++ {
		for range 3 {
			var list []string
			for range count {
				list = append(list, all[random.Intn(len(all))])
			}
			lists = append(lists, list)
		}
		lists = append(lists, slices.Repeat([]string{"1"}, count), slices.Repeat([]string{"A02B0101B0201"}, count))
	}
	return lists
}

// noCoinLists returns lists of each kind that has too few or too many protocols, or texts that are none.
func noCoinLists() map[string][]string {
	lists := map[string][]string{
		"nil":                  nil,
		"empty":                {},
		"17 protocols":         slices.Repeat([]string{"0"}, 17),
		"17 other protocols":   append(slices.Repeat([]string{"A0101"}, 16), "1"),
		"32 protocols":         slices.Repeat([]string{"1"}, 32),
		"many protocols":       slices.Repeat([]string{"0"}, 1<<16),
		"17 with one that not": append(slices.Repeat([]string{"0"}, 16), "x"),
	}
	for name, p := range noProtocols() {
		lists[name+" alone"] = []string{p}
		lists[name+" first"] = []string{p, "0", "A0101"}
		lists[name+" between"] = []string{"0", p, "A0101"}
		lists[name+" last"] = []string{"0", "A0101", p}
		lists[name+" in all places"] = []string{p, p, p}
		lists[name+" as the 16th"] = append(slices.Repeat([]string{"1"}, 15), p)
	}
	return lists
}

// coinMatrices returns some matrices of all sizes.
func coinMatrices() []impl.Matrix {
	random := rand.New(rand.NewSource(41))
	var list []impl.Matrix
	for rows := 1; rows <= 8; rows++ {
		for cols := 1; cols <= 8; cols++ {
			list = append(list, randomMatrix(random, rows, cols, 50))
		}
	}
	return append(list, fullMatrix(8, 8, "0"), fullMatrix(8, 8, "1"))
}

// A verdict has for how many protocols of a list each entry is wrong, and how many entries are wrong for each
// protocol.
type verdict struct {
	at [8][8]int
	of []int
}

func verdictOf(found []finding, m impl.Matrix) verdict {
	v := verdict{of: make([]int, len(found))}
	for i, f := range found {
		for x := range m.Rows {
			for y := range m.Cols {
				if f[x][y] != int(m.Bits[x*m.Cols+y]-'0') {
					v.at[x][y]++
					v.of[i]++
				}
			}
		}
	}
	return v
}

// checkErrors checks all kinds of errors of a list, which finds these values.
func checkErrors(t *testing.T, list []string, found []finding, m impl.Matrix) {
	t.Helper()
	v := verdictOf(found, m)
	worst := 0
	for x := range 9 {
		for y := range 9 {
			want := -1
			if x < m.Rows && y < m.Cols {
				want = v.at[x][y]
				worst = max(worst, want)
			}
			if n := impl.ErrorsAt(list, m, x, y); n != want {
				t.Fatalf("ErrorsAt(%q, %+v, %d, %d) = %d, want %d", list, m, x, y, n, want)
			}
		}
	}
	if n := impl.WorstErrors(list, m); n != worst {
		t.Errorf("WorstErrors(%q, %+v) = %d, want %d", list, m, n, worst)
	}
	if i, want := impl.FewestErrors(list, m), slices.Index(v.of, slices.Min(v.of)); i != want {
		t.Errorf("FewestErrors(%q, %+v) = %d, want %d, as errors are %v", list, m, i, want, v.of)
	}
}

func TestErrorsOfLists(t *testing.T) {
	random := rand.New(rand.NewSource(42))
	matrices := coinMatrices()
	for _, list := range someCoinLists() {
		var found []finding
		for _, p := range list {
			found = append(found, findingOf(t, p))
		}
		for range 3 {
			checkErrors(t, list, found, matrices[random.Intn(len(matrices))])
		}
		checkErrors(t, list, found, fullMatrix(8, 8, "0"))
		// The matrix that one of them finds, and a part of it.
		right, _ := impl.MatrixOf(list[random.Intn(len(list))], 8, 8)
		checkErrors(t, list, found, right)
		right, _ = impl.MatrixOf(list[random.Intn(len(list))], 1+random.Intn(8), 1+random.Intn(8))
		checkErrors(t, list, found, right)
	}
}

func TestErrorTextsOfLists(t *testing.T) {
	for _, c := range []struct {
		name   string
		list   []string
		m      string
		x, y   int
		at     int
		worst  int
		fewest int
	}{
		{"one that is right", []string{"0"}, "0", 0, 0, 0, 0, 0},
		{"one that is wrong", []string{"1"}, "0", 0, 0, 1, 1, 0},
		{"both of one value", []string{"0", "1"}, "0/1", 1, 0, 1, 1, 0},
		{"the same twice", []string{"1", "1"}, "01", 0, 0, 2, 2, 0},
		{"the same twice, right here", []string{"1", "1"}, "01", 0, 1, 0, 2, 0},
		{"the last one is best", []string{"1", "0", "A02B0101B0201"}, "10/01", 0, 1, 1, 1, 2},
		{"the first of two that are best", []string{"1", "0", "A0101", "0"}, "100/000", 0, 0, 2, 2, 1},
		{"fewest errors, but not at the worst", []string{"A0f01", "A0f01", "0"}, "100/111/000/000", 1, 0, 1, 2, 2},
		{"as many errors of both", []string{"B0101", "B0401"}, "110/001", 0, 1, 2, 2, 0},
		{"16 that are wrong", slices.Repeat([]string{"A0110"}, 16), "1/0", 0, 0, 16, 16, 0},
		{"the 16th is right", append(slices.Repeat([]string{"0"}, 15), "1"), "1", 0, 0, 15, 15, 15},
		{"the last entry of the greatest matrix", []string{"0", "0", "1"}, strings.Repeat("00000000/", 7) + "00000001", 7, 7, 2, 2, 0},
		{"the first entry of the greatest matrix", []string{"0", "A8001"}, "1" + strings.Repeat("0000000/0", 7) + "0000001", 0, 0, 2, 2, 0},
		{"rows and columns beyond the matrix", []string{"Afe01", "Bfe01"}, "0", 0, 0, 0, 0, 0},
	} {
		m := matrix(t, c.m)
		if n := impl.ErrorsAt(c.list, m, c.x, c.y); n != c.at {
			t.Errorf("%s: ErrorsAt = %d, want %d", c.name, n, c.at)
		}
		if n := impl.WorstErrors(c.list, m); n != c.worst {
			t.Errorf("%s: WorstErrors = %d, want %d", c.name, n, c.worst)
		}
		if i := impl.FewestErrors(c.list, m); i != c.fewest {
			t.Errorf("%s: FewestErrors = %d, want %d", c.name, i, c.fewest)
		}
	}
	if impl.MaxCoins != 16 {
		t.Errorf("MaxCoins = %d", impl.MaxCoins)
	}
}

// checkNoErrors checks the results where no errors are told.
func checkNoErrors(t *testing.T, name string, list []string, m impl.Matrix) {
	t.Helper()
	for _, at := range [][2]int{{0, 0}, {m.Rows - 1, m.Cols - 1}, {-1, 0}, {8, 8}} {
		if n := impl.ErrorsAt(list, m, at[0], at[1]); n != -1 {
			t.Errorf("%s: ErrorsAt %v = %d", name, at, n)
		}
	}
	if n := impl.WorstErrors(list, m); n != -1 {
		t.Errorf("%s: WorstErrors = %d", name, n)
	}
	if i := impl.FewestErrors(list, m); i != -1 {
		t.Errorf("%s: FewestErrors = %d", name, i)
	}
}

func TestErrorsOfNoLists(t *testing.T) {
	matrices := []impl.Matrix{matrix(t, "0"), matrix(t, "10/01"), fullMatrix(8, 8, "1"), fullMatrix(8, 8, "0"), {}}
	for name, list := range noCoinLists() {
		for _, m := range matrices {
			checkNoErrors(t, name, list, m)
		}
	}
}

func TestErrorsInInvalidMatrices(t *testing.T) {
	for name, m := range invalidMatrices() {
		for _, list := range [][]string{{"0"}, {"1"}, {"0", "A02B0101B0201", "1"}, slices.Repeat([]string{"B0101"}, 16), nil, {"x"}} {
			checkNoErrors(t, name, list, m)
		}
	}
}

func TestErrorsBeyondTheMatrix(t *testing.T) {
	for _, size := range [][2]int{{1, 1}, {2, 3}, {3, 2}, {1, 8}, {8, 1}, {7, 7}, {8, 8}} {
		m := fullMatrix(size[0], size[1], "0")
		for _, list := range [][]string{{"1"}, {"A0101", "1"}, slices.Repeat([]string{"1"}, 16)} {
			for _, n := range append(noInputs(), size[0]) {
				if got := impl.ErrorsAt(list, m, n, 0); got != -1 {
					t.Errorf("ErrorsAt(%q, %+v, %d, 0) = %d", list, m, n, got)
				}
			}
			for _, n := range append(noInputs(), size[1]) {
				for _, x := range []int{0, size[0] - 1, size[0], n} {
					if got := impl.ErrorsAt(list, m, x, n); got != -1 {
						t.Errorf("ErrorsAt(%q, %+v, %d, %d) = %d", list, m, x, n, got)
					}
				}
			}
		}
	}
}

// majorityText follows the definition of MajorityProtocol for three protocols; the empty text if one of the
// protocols on the way is too long.
func majorityText(p string, q string, r string) string {
	both, either := withEnds(q, "0", r), withEnds(q, r, "1")
	text := withEnds(p, both, either)
	if max(len(both), len(either), len(text)) > 2000 {
		return ""
	}
	return text
}

// checkMajority checks the protocol of three protocols, and returns whether there is one.
func checkMajority(t *testing.T, p string, q string, r string) bool {
	t.Helper()
	text, ok := impl.MajorityProtocol([]string{p, q, r})
	wantProtocol(t, fmt.Sprintf("MajorityProtocol(%q, %q, %q)", p, q, r), text, ok, majorityText(p, q, r))
	if !ok {
		return false
	}
	found, votes := findingOf(t, text), []finding{findingOf(t, p), findingOf(t, q), findingOf(t, r)}
	for x := range 8 {
		for y := range 8 {
			if ones := votes[0][x][y] + votes[1][x][y] + votes[2][x][y]; found[x][y] != ones/2 {
				t.Fatalf("MajorityProtocol(%q, %q, %q) = %q finds %d for %d, %d", p, q, r, text, found[x][y], x, y)
			}
		}
	}
	return true
}

func TestMajorityProtocol(t *testing.T) {
	random := rand.New(rand.NewSource(43))
	short := []string{"0", "1", "A0101", "A0110", "Bff10", "B0a1A0100", "A02B0101B0201"}
	for _, p := range short {
		for _, q := range short {
			for _, r := range short {
				checkMajority(t, p, q, r)
			}
		}
	}
	all, found := someProtocols(), map[bool]int{}
	for range 200 {
		found[checkMajority(t, all[random.Intn(len(all))], all[random.Intn(len(all))], all[random.Intn(len(all))])]++
	}
	if found[true] < 30 || found[false] < 30 {
		t.Errorf("some are too long, and some are not: %v", found)
	}
}

func TestMajorityTexts(t *testing.T) {
	for _, c := range []struct {
		name string
		list []string
		want string
	}{
		{"three ends", []string{"0", "1", "1"}, "1"},
		{"three other ends", []string{"1", "0", "0"}, "0"},
		{"the first one decides", []string{"A0101", "1", "0"}, "A0101"},
		{"the second one decides", []string{"0", "A0101", "1"}, "A0101"},
		{"the third one decides", []string{"1", "0", "A0101"}, "A0101"},
		{"the third one behind the second one", []string{"0", "A0101", "B0201"}, "A010B0201"},
		{"the second one before the third one", []string{"1", "A0101", "B0201"}, "A01B02011"},
		{"all three", []string{"A0101", "B0201", "A0401"}, "A01B020A0401B02A04011"},
		{"the same three times", []string{"A0101", "A0101", "A0101"}, "A01A010A0101A01A01011"},
	} {
		text, ok := impl.MajorityProtocol(c.list)
		wantProtocol(t, c.name+": MajorityProtocol", text, ok, c.want)
	}
}

func TestMajorityTooLong(t *testing.T) {
	for _, c := range []struct {
		name    string
		p, q, r string
		ok      bool
	}{
		{"as long as can be", "A0101", "A0101", rightChain(248), true},
		{"one bit too long behind both ends", "A0101", "A0101", rightChain(249), false},
		{"as long as the third one can be", "0", "1", leftChain(499), true},
		{"as long as the second one can be", "1", leftChain(499), "1", true},
		{"as long as the first one can be", leftChain(499), "0", "1", true},
		{"the first one is full", leftChain(499), "A0101", "A0101", false},
		// What the first one leaves out must not be too long, either.
		{"only what is left out is too long: either", "0", rightChain(2), rightChain(300), false},
		{"what is left out is as long as can be: either", "0", rightChain(1), rightChain(498), true},
		{"only what is left out is too long: both", "1", leftChain(2), rightChain(300), false},
		{"what is left out is as long as can be: both", "1", leftChain(1), rightChain(498), true},
	} {
		if ok := checkMajority(t, c.p, c.q, c.r); ok != c.ok {
			t.Errorf("%s: MajorityProtocol is %v", c.name, ok)
		}
	}
}

func TestMajorityOfOtherLists(t *testing.T) {
	for name, list := range noCoinLists() {
		text, ok := impl.MajorityProtocol(list)
		wantProtocol(t, name+": MajorityProtocol", text, ok, "")
	}
	for count := range 20 {
		if count != 3 {
			text, ok := impl.MajorityProtocol(slices.Repeat([]string{"1"}, count))
			wantProtocol(t, fmt.Sprintf("MajorityProtocol of %d", count), text, ok, "")
		}
	}
	// A text that is no protocol is one of the list even if nothing of it is said.
	for name, p := range noProtocols() {
		for _, list := range [][]string{{"0", "0", p}, {"1", "1", p}, {"0", p, "0"}, {"1", p, "1"}, {p, "0", "0"}, {p, "1", "1"}} {
			text, ok := impl.MajorityProtocol(list)
			wantProtocol(t, name+": MajorityProtocol", text, ok, "")
		}
	}
}

// A guessTable has, for each number of bits, how many entries of each rectangle of a matrix can be found.
type guessTable [8]map[impl.Rect]int

// newGuessTable finds the numbers from those with one bit less, with all sets.
func newGuessTable(m impl.Matrix) guessTable {
	var table guessTable
	all := rectsWithin(m.Rows, m.Cols)
	for count := range table {
		table[count] = map[impl.Rect]int{}
		for _, r := range all {
			values := valuesIn(m, r)
			most := max(values[0], values[1])
			for set := 1; count > 0 && set < 1<<max(m.Rows, m.Cols); set++ {
				for _, who := range []byte("AB") {
					if isSaid(r, who, set) {
						most = max(most, table.after(count, r, who, set))
					}
				}
			}
			table[count][r] = most
		}
	}
	return table
}

// after returns how many entries are found if a bit is said first.
func (g guessTable) after(count int, r impl.Rect, who byte, set int) int {
	return g[count-1][reachedBy(r, who, set, 0)] + g[count-1][reachedBy(r, who, set, 1)]
}

// text follows the definition of GuessProtocol in a rectangle.
func (g guessTable) text(m impl.Matrix, r impl.Rect, count int) string {
	values := valuesIn(m, r)
	if g[count][r] == max(values[0], values[1]) {
		return strconv.Itoa(bitOf(values[1] > values[0]))
	}
	for _, who := range []byte("AB") {
		inputs := inputsIn(r, who == 'B')
		for set := 1; set < inputs; set++ {
			if set&^inputs != 0 || slices.Contains(numbersOf(set), numbersOf(inputs)[0]) {
				continue
			}
			if g.after(count, r, who, set) == g[count][r] {
				zero, one := reachedBy(r, who, set, 0), reachedBy(r, who, set, 1)
				return fmt.Sprintf("%c%02x%s%s", who, set, g.text(m, zero, count-1), g.text(m, one, count-1))
			}
		}
	}
	return "none"
}

// checkGuess checks the best guesses of a matrix with each number of bits.
func checkGuess(t *testing.T, m impl.Matrix) {
	t.Helper()
	table, all := newGuessTable(m), wholeOf(m)
	for count := range table {
		want := table[count][all]
		if n := impl.BestGuess(m, count); n != want {
			t.Errorf("BestGuess(%+v, %d) = %d, want %d", m, count, n, want)
		}
		p, ok := impl.GuessProtocol(m, count)
		wantProtocol(t, fmt.Sprintf("GuessProtocol(%+v, %d)", m, count), p, ok, table.text(m, all, count))
		if impl.BitsOf(p) > count || impl.ErrorsOf(p, m) != len(m.Bits)-want {
			t.Errorf("GuessProtocol(%+v, %d) = %q has %d bits and %d errors", m, count, p, impl.BitsOf(p), impl.ErrorsOf(p, m))
		}
		if trimmed := trimmedWithin(p, all); p != trimmed {
			t.Errorf("GuessProtocol(%+v, %d) = %q, but %q when it is trimmed", m, count, p, trimmed)
		}
		if right := want == len(m.Bits); right != (count >= impl.LeastBits(m)) {
			t.Errorf("BestGuess(%+v, %d) = %d, but LeastBits is %d", m, count, want, impl.LeastBits(m))
		}
	}
}

func TestBestGuessAndGuessProtocol(t *testing.T) {
	for _, m := range exactMatrices() {
		checkGuess(t, m)
	}
}

// TestBestGuessOfAllProtocols checks guesses against all that protocols with all sets can find, without rectangles.
func TestBestGuessOfAllProtocols(t *testing.T) {
	for rows := 1; rows <= 3; rows++ {
		for cols := 1; cols <= 3; cols++ {
			found := foundWithBits(rows, cols)
			for m := range entrySet(1) << (rows * cols) {
				var most [8]int
				for other, least := range found {
					equal := rows*cols - bits.OnesCount64(uint64(m^other))
					for count := least; count < len(most); count++ {
						most[count] = max(most[count], equal)
					}
				}
				for count, want := range most {
					right := changedEntries(fullMatrix(rows, cols, "0"), uint64(m))
					if n := impl.BestGuess(right, count); n != want {
						t.Errorf("BestGuess(%+v, %d) = %d, want %d", right, count, n, want)
					}
				}
			}
		}
	}
}

func TestGuessTexts(t *testing.T) {
	same := "1000/0100/0010/0001"
	for _, c := range []struct {
		name string
		m    string
		bits int
		best int
		want string
	}{
		{"one entry 0", "0", 0, 1, "0"},
		{"one entry 1", "1", 7, 1, "1"},
		{"more zeros", "010", 0, 2, "0"},
		{"more ones", "110/011", 0, 4, "1"},
		{"as many ones as zeros", "01", 0, 1, "0"},
		{"as many ones as zeros, ones first", "1/0", 0, 1, "0"},
		{"as many in a greater matrix", "1111/0000/1100/0011", 0, 8, "0"},
		{"a bit that finds nothing more", "10/01", 1, 2, "0"},
		{"a bit that finds nothing more, with more ones", "011/101/111", 1, 7, "1"},
		{"bits that find nothing more", same, 1, 12, "0"},
		{"a bit that finds more", "01", 1, 2, "B0201"},
		{"a plain matrix", "11/11/11", 7, 6, "1"},
		{"equal inputs", "10/01", 2, 4, "A02B0210B0201"},
		{"one of four", same, 2, 13, "A020B0201"},
		{"all of four", same, 3, 16, "A06A08B0e10B0801A04B0201B0401"},
		{"as many bits as can be, and the first sets that find all", same, 7, 16, "A02A04A08B02B04B081000B02B04B080100B02B04010B0201"},
		{"a before b", "011/100/100", 1, 6, "A0610"},
		{"the least set first", "100/010/001", 2, 7, "A020B0201"},
		{"a bit of b alone", "011/011/010", 1, 8, "B0601"},
		{"as many ones as zeros, but a bit that finds more", "10/11/00", 1, 5, "A0201"},
		{"the first set that finds all, with more bits than needed", "00110", 2, 5, "B02B0c010"},
		{"one bit for the same", "00110", 1, 5, "B0c01"},
	} {
		m := matrix(t, c.m)
		if n := impl.BestGuess(m, c.bits); n != c.best {
			t.Errorf("%s: BestGuess(%q, %d) = %d, want %d", c.name, c.m, c.bits, n, c.best)
		}
		p, ok := impl.GuessProtocol(m, c.bits)
		wantProtocol(t, fmt.Sprintf("%s: GuessProtocol(%q, %d)", c.name, c.m, c.bits), p, ok, c.want)
	}
}

// checkNoGuess checks the results for arguments of which no guesses are told.
func checkNoGuess(t *testing.T, name string, m impl.Matrix, count int) {
	t.Helper()
	if n := impl.BestGuess(m, count); n != -1 {
		t.Errorf("%s: BestGuess(%+v, %d) = %d", name, m, count, n)
	}
	p, ok := impl.GuessProtocol(m, count)
	wantProtocol(t, fmt.Sprintf("%s: GuessProtocol(%+v, %d)", name, m, count), p, ok, "")
}

func TestNoGuesses(t *testing.T) {
	numbers := []int{-1, -2, -7, -8, 8, 9, 16, 64, 255, 256, 1 << 32, 1<<32 + 1, math.MaxInt, math.MinInt, math.MinInt + 1}
	for name, m := range invalidMatrices() {
		for _, count := range append(numbers, 0, 1, 7) {
			checkNoGuess(t, name, m, count)
		}
	}
	for _, s := range []string{"0", "1", "01", "10/01", "11111/11111/11111/11111/11111", "10000/01000/00100/00010/00001"} {
		for _, count := range numbers {
			checkNoGuess(t, "no number of bits", matrix(t, s), count)
		}
	}
}

func TestSizesOfGuesses(t *testing.T) {
	random := rand.New(rand.NewSource(44))
	for rows := 1; rows <= 8; rows++ {
		for cols := 1; cols <= 8; cols++ {
			for _, m := range []impl.Matrix{fullMatrix(rows, cols, "0"), fullMatrix(rows, cols, "1"), randomMatrix(random, rows, cols, 50)} {
				if rows <= 5 && cols <= 5 {
					checkGuess(t, m)
					continue
				}
				for count := range 8 {
					checkNoGuess(t, "too many rows or columns", m, count)
				}
			}
		}
	}
}

// greatestBalance returns the greatest difference of ones and zeros in a rectangle of a matrix.
func greatestBalance(m impl.Matrix) int {
	greatest := 0
	for _, r := range rectsWithin(m.Rows, m.Cols) {
		values := valuesIn(m, r)
		greatest = max(greatest, values[0]-values[1], values[1]-values[0])
	}
	return greatest
}

// checkGuessBound checks the bound of a matrix for all numbers of errors.
func checkGuessBound(t *testing.T, m impl.Matrix) {
	t.Helper()
	greatest := greatestBalance(m)
	for errors := range 65 {
		want, ends := 0, 1
		for ends*greatest < m.Rows*m.Cols-errors-errors {
			want, ends = want+1, ends+ends
		}
		if n := impl.GuessBound(m, errors); n != want {
			t.Errorf("GuessBound(%+v, %d) = %d, want %d", m, errors, n, want)
		}
	}
}

func TestGuessBound(t *testing.T) {
	for _, m := range exactMatrices() {
		checkGuessBound(t, m)
	}
	for _, m := range append(coinMatrices(), greaterMatrices(t)...) {
		checkGuessBound(t, m)
	}
}

func TestGuessBoundTexts(t *testing.T) {
	inner, _ := impl.InnerMatrix(3)
	for _, c := range []struct {
		name   string
		m      string
		errors int
		want   int
	}{
		{"one entry", "0", 0, 0},
		{"a plain matrix", "111/111", 0, 0},
		{"the greatest plain matrix", strings.Repeat("11111111/", 7) + "11111111", 0, 0},
		{"both values", "01", 0, 1},
		{"both values, one error", "01", 1, 0},
		{"four times as many entries", "10/01", 0, 2},
		{"not a power of two", "100/010/001", 0, 2},
		{"as many errors as needed for one bit less", "10/01", 1, 1},
		{"half of the entries are wrong", "10/01", 2, 0},
		{"all entries are wrong", "10/01", 4, 0},
		{"more errors than entries", "10/01", 5, 0},
		{"the greatest number of errors", "10/01", 64, 0},
		{"equal inputs", "1000/0100/0010/0001", 0, 1},
		{"equal inputs, three errors", "1000/0100/0010/0001", 3, 1},
		{"equal inputs, four errors", "1000/0100/0010/0001", 4, 0},
		{"the greatest matrix", impl.FormatMatrix(inner), 0, 3},
		{"the greatest matrix, some errors", impl.FormatMatrix(inner), 14, 2},
		{"the greatest matrix, more errors", impl.FormatMatrix(inner), 25, 1},
		{"the greatest matrix, all are wrong", impl.FormatMatrix(inner), 64, 0},
	} {
		if n := impl.GuessBound(matrix(t, c.m), c.errors); n != c.want {
			t.Errorf("%s: GuessBound(%q, %d) = %d, want %d", c.name, c.m, c.errors, n, c.want)
		}
	}
}

func TestNoGuessBounds(t *testing.T) {
	numbers := []int{-1, -2, -64, -65, 65, 66, 128, 256, 1 << 32, 1<<32 + 1, math.MaxInt, math.MaxInt / 2, math.MinInt, math.MinInt / 2, math.MinInt + 1}
	for _, m := range append(coinMatrices(), matrix(t, "0"), matrix(t, "10/01")) {
		for _, errors := range numbers {
			if n := impl.GuessBound(m, errors); n != -1 {
				t.Errorf("GuessBound(%+v, %d) = %d", m, errors, n)
			}
		}
	}
	for name, m := range invalidMatrices() {
		for _, errors := range append(numbers, 0, 1, 32, 64) {
			if n := impl.GuessBound(m, errors); n != -1 {
				t.Errorf("%s: GuessBound(%+v, %d) = %d", name, m, errors, n)
			}
		}
	}
}

func TestEqualCoins(t *testing.T) {
	for n, sets := range map[int]string{1: "00 02", 2: "00 0a 0c 06", 3: "00 aa cc 66 f0 5a 3c 96"} {
		var want []string
		for _, s := range strings.Fields(sets) {
			want = append(want, "A"+s+"B"+s+"10B"+s+"01")
		}
		list := impl.EqualCoins(n)
		if !slices.Equal(list, want) {
			t.Errorf("EqualCoins(%d) = %q, want %q", n, list, want)
		}
		m, _ := impl.EqualMatrix(1 << n)
		for x := range 1 << n {
			for y := range 1 << n {
				// Of the sums, half are different if the inputs are.
				want := bitOf(x != y) << (n - 1)
				if got := impl.ErrorsAt(list, m, x, y); got != want {
					t.Errorf("ErrorsAt(EqualCoins(%d), %d, %d) = %d, want %d", n, x, y, got, want)
				}
			}
		}
		if got := impl.WorstErrors(list, m); got != 1<<(n-1) {
			t.Errorf("WorstErrors(EqualCoins(%d)) = %d", n, got)
		}
	}
	for _, n := range []int{0, -1, -2, -3, 4, 5, 8, 31, 32, 63, 64, 65, 256, 257, 1 << 32, 1<<32 + 1, math.MaxInt, math.MinInt, math.MinInt + 1} {
		if list := impl.EqualCoins(n); len(list) != 0 {
			t.Errorf("EqualCoins(%d) = %q", n, list)
		}
	}
}

// andTexts follows the definition of AndCoins; no texts if one is too long.
func andTexts(list []string) []string {
	var texts []string
	for _, p := range list {
		for _, q := range list {
			text := withEnds(p, "0", q)
			if len(text) > 2000 {
				return nil
			}
			texts = append(texts, text)
		}
	}
	return texts
}

func TestAndCoins(t *testing.T) {
	random := rand.New(rand.NewSource(45))
	all, found := someProtocols(), map[bool]int{}
	for range 300 {
		var list []string
		for range 1 + random.Intn(4) {
			list = append(list, all[random.Intn(len(all))])
		}
		got, want := impl.AndCoins(list), andTexts(list)
		if !slices.Equal(got, want) {
			t.Fatalf("AndCoins(%q) = %q, want %q", list, got, want)
		}
		found[len(want) > 0]++
		for i, text := range got {
			p, q := findingOf(t, list[i/len(list)]), findingOf(t, list[i%len(list)])
			both := findingOf(t, text)
			for x := range 8 {
				for y := range 8 {
					if both[x][y] != p[x][y]*q[x][y] {
						t.Fatalf("AndCoins(%q): the protocol %d finds %d for %d, %d", list, i, both[x][y], x, y)
					}
				}
			}
		}
	}
	if found[true] < 100 || found[false] < 10 {
		t.Errorf("some are too long, and some are not: %v", found)
	}
}

func TestAndTexts(t *testing.T) {
	for _, c := range []struct {
		name string
		list []string
		want string
	}{
		{"one end", []string{"1"}, "1"},
		{"both ends", []string{"0", "1"}, "0 0 0 1"},
		{"one protocol", []string{"A0101"}, "A010A0101"},
		{"two protocols, the second one for each first one", []string{"A0101", "B0210"}, "A010A0101 A010B0210 B02A01010 B02B02100"},
		{"the same twice", []string{"A0110", "A0110"}, "A01A01100 A01A01100 A01A01100 A01A01100"},
		{"three protocols", []string{"1", "A0101", "0"}, "1 A0101 0 A0101 A010A0101 A0100 0 0 0"},
		{"four protocols", []string{"0", "1", "0", "1"}, "0 0 0 0 0 1 0 1 0 0 0 0 0 1 0 1"},
		{"five protocols", []string{"0", "1", "0", "1", "0"}, ""},
		{"sixteen protocols", slices.Repeat([]string{"1"}, 16), ""},
		{"only the last pair is too long", []string{"1", leftChain(499)}, ""},
		{"a text that is none, where nothing follows", []string{"0", "x"}, ""},
	} {
		if got := strings.Join(impl.AndCoins(c.list), " "); got != c.want {
			t.Errorf("%s: AndCoins(%q) = %q, want %q", c.name, c.list, got, c.want)
		}
	}
}

func TestAndCoinsTooLong(t *testing.T) {
	for _, c := range []struct {
		name string
		list []string
		ok   bool
	}{
		{"as long as can be", []string{rightChain(249)}, true},
		{"one bit too long", []string{rightChain(250)}, false},
		{"two of different length", []string{rightChain(249), rightChain(10), "0"}, true},
		{"only the last one is too long", []string{"0", "1", "A0101", rightChain(250)}, false},
		{"only one behind the first one is too long", []string{leftChain(10), rightChain(50), "0"}, false},
		{"many ones", []string{leftChain(21)}, true},
		{"too many ones", []string{leftChain(22)}, false},
		{"no ones at all", []string{strings.Repeat("A01", 499) + strings.Repeat("0", 500)}, true},
	} {
		got, want := impl.AndCoins(c.list), andTexts(c.list)
		if !slices.Equal(got, want) || (len(got) > 0) != c.ok {
			t.Errorf("%s: AndCoins has %d protocols, want %d", c.name, len(got), len(want))
		}
	}
}

func TestAndCoinsOfOtherLists(t *testing.T) {
	for name, list := range noCoinLists() {
		if got := impl.AndCoins(list); len(got) != 0 {
			t.Errorf("%s: AndCoins = %q", name, got)
		}
	}
	for name, p := range noProtocols() {
		for _, list := range [][]string{{"0", p}, {p, "0"}, {"1", p}, {"0", "0", p, "0"}, {"0", "0", "0", p}} {
			if got := impl.AndCoins(list); len(got) != 0 {
				t.Errorf("%s: AndCoins(%.50q) = %q", name, list, got)
			}
		}
	}
}

// With more coins, fewer of the protocols are wrong.
func TestAndCoinsOfEqualCoins(t *testing.T) {
	two, _ := impl.EqualMatrix(2)
	four, _ := impl.EqualMatrix(4)
	once := impl.AndCoins(impl.EqualCoins(1))
	twice := impl.AndCoins(once)
	pairs := impl.AndCoins(impl.EqualCoins(2))
	for _, c := range []struct {
		name  string
		list  []string
		m     impl.Matrix
		count int
		worst int
	}{
		{"EqualCoins(1)", impl.EqualCoins(1), two, 2, 1},
		{"AndCoins of EqualCoins(1)", once, two, 4, 1},
		{"AndCoins of AndCoins", twice, two, 16, 1},
		{"EqualCoins(2)", impl.EqualCoins(2), four, 4, 2},
		{"AndCoins of EqualCoins(2)", pairs, four, 16, 4},
	} {
		if len(c.list) != c.count || impl.WorstErrors(c.list, c.m) != c.worst {
			t.Errorf("%s: %d protocols, WorstErrors is %d, want %d and %d", c.name, len(c.list), impl.WorstErrors(c.list, c.m), c.count, c.worst)
		}
		for x := range c.m.Rows {
			if n := impl.ErrorsAt(c.list, c.m, x, x); n != 0 {
				t.Errorf("%s: ErrorsAt(%d, %d) = %d", c.name, x, x, n)
			}
		}
	}
	if list := impl.AndCoins(impl.EqualCoins(3)); len(list) != 0 {
		t.Errorf("AndCoins of EqualCoins(3) has %d protocols", len(list))
	}
	if list := impl.AndCoins(twice); len(list) != 0 {
		t.Errorf("AndCoins of 16 protocols has %d", len(list))
	}
}

func TestCoinListsAreNew(t *testing.T) {
	given := []string{"A0101", "B0210"}
	for range 2 {
		list := impl.EqualCoins(2)
		if len(list) != 4 || list[1] != "A0aB0a10B0a01" {
			t.Errorf("EqualCoins = %q", list)
		}
		clear(list[:cap(list)])
		list = impl.AndCoins(given)
		if len(list) != 4 || list[1] != "A010B0210" {
			t.Errorf("AndCoins = %q", list)
		}
		clear(list[:cap(list)])
	}
	if !slices.Equal(given, []string{"A0101", "B0210"}) {
		t.Errorf("the list has become %q", given)
	}
}

func TestCoinListsAreNotChanged(t *testing.T) {
	whole := []string{"A0101", "B0210", "1", "here", "there"}
	before := slices.Clone(whole)
	m := matrix(t, "10/01")
	for count := 1; count <= 3; count++ {
		impl.ErrorsAt(whole[:count], m, 1, 0)
		impl.WorstErrors(whole[:count], m)
		impl.FewestErrors(whole[:count], m)
		impl.MajorityProtocol(whole[:count])
		impl.AndCoins(whole[:count])
		if !slices.Equal(whole, before) {
			t.Fatalf("the list has become %q", whole)
		}
	}
}

// What is found does not depend on what is asked at the same time.
func TestCoinsAtTheSameTime(t *testing.T) {
	m := matrix(t, "1000/0100/0010/0001")
	var all sync.WaitGroup
	for range 8 {
		all.Add(1)
		go func() {
			defer all.Done()
			for range 10 {
				list := impl.AndCoins(impl.EqualCoins(2))
				if n, i := impl.WorstErrors(list, m), impl.FewestErrors(list, m); n != 4 || i != 6 {
					t.Errorf("WorstErrors = %d, FewestErrors = %d", n, i)
				}
				if p, ok := impl.GuessProtocol(m, 2); p != "A020B0201" || !ok {
					t.Errorf("GuessProtocol = %q, %v", p, ok)
				}
			}
		}()
	}
	all.Wait()
}

// shallowProtocol returns a protocol with at most so many bits.
func shallowProtocol(random *rand.Rand, count int) string {
	if count == 0 || random.Intn(6) == 0 {
		return strconv.Itoa(random.Intn(2))
	}
	return fmt.Sprintf("%c%02x%s%s", "AB"[random.Intn(2)], random.Intn(256), shallowProtocol(random, count-1), shallowProtocol(random, count-1))
}

// checkPromiseOfCoins checks that a list of protocols with at most so many bits has no fewer errors on the whole
// than the best guess would have in place of each.
func checkPromiseOfCoins(t *testing.T, list []string, m impl.Matrix, count int) {
	t.Helper()
	fewest := len(m.Bits) - impl.BestGuess(m, count)
	sum := 0
	for _, p := range list {
		n := impl.ErrorsOf(p, m)
		if sum += n; n < fewest || impl.GuessBound(m, n) > impl.BitsOf(p) {
			t.Errorf("%q has %d errors in %+v, the best guess with %d bits %d, GuessBound is %d", p, n, m, count, fewest, impl.GuessBound(m, n))
		}
	}
	at := 0
	for x := range m.Rows {
		for y := range m.Cols {
			at += impl.ErrorsAt(list, m, x, y)
		}
	}
	if at != sum || at < len(list)*fewest {
		t.Errorf("%q has %d errors on the whole in %+v, %d of each protocol, the best guess with %d bits %d", list, at, m, sum, count, fewest)
	}
	if worst := impl.WorstErrors(list, m); worst*len(m.Bits) < len(list)*fewest {
		t.Errorf("%q has %d errors at the worst in %+v, the best guess with %d bits %d", list, worst, m, count, fewest)
	}
	best := list[impl.FewestErrors(list, m)]
	if n := impl.ErrorsOf(best, m); n < fewest || n*len(list) > sum {
		t.Errorf("%q has fewest errors in %+v: %d, the best guess with %d bits %d", best, m, n, count, fewest)
	}
}

// Promise 11: no list of protocols with few bits has fewer errors on the whole than the best guess.
func TestNoListIsBetterThanTheBestGuess(t *testing.T) {
	random := rand.New(rand.NewSource(46))
	for i, m := range exactMatrices() {
		count := i % 8
		var list []string
		for range 1 + random.Intn(16) {
			list = append(list, shallowProtocol(random, count))
		}
		checkPromiseOfCoins(t, list, m, count)
		// The best guess is a list that has no more.
		guess, _ := impl.GuessProtocol(m, count)
		list = slices.Repeat([]string{guess}, 1+random.Intn(16))
		checkPromiseOfCoins(t, list, m, count)
		if n, fewest := impl.ErrorsOf(guess, m), len(m.Bits)-impl.BestGuess(m, count); n != fewest {
			t.Errorf("GuessProtocol(%+v, %d) = %q has %d errors, the best guess %d", m, count, guess, n, fewest)
		}
		list[random.Intn(len(list))] = shallowProtocol(random, count)
		checkPromiseOfCoins(t, list, m, count)
	}
	for n := 1; n <= 2; n++ {
		m, _ := impl.EqualMatrix(1 << n)
		checkPromiseOfCoins(t, impl.EqualCoins(n), m, 2)
		checkPromiseOfCoins(t, impl.AndCoins(impl.EqualCoins(n)), m, 4)
	}
}

// Without bits, a guess finds the entries of one value, and each bit more finds no fewer.
func TestMoreBitsGuessNoLess(t *testing.T) {
	for _, m := range exactMatrices() {
		before := impl.BestGuess(m, 0)
		if most := max(impl.CountOnes(m), len(m.Bits)-impl.CountOnes(m)); before != most {
			t.Errorf("BestGuess(%+v, 0) = %d, want %d", m, before, most)
		}
		for count := 1; count <= 7; count++ {
			n := impl.BestGuess(m, count)
			if n < before {
				t.Errorf("BestGuess(%+v, %d) = %d, but %d with one bit less", m, count, n, before)
			}
			other := otherOf(m)
			turned, _ := impl.TurnMatrix(m)
			if impl.BestGuess(other, count) != n || impl.BestGuess(turned, count) != n {
				t.Errorf("BestGuess(%+v, %d) = %d, but others for the other or the turned matrix", m, count, n)
			}
			before = n
		}
	}
}
