package tests

import (
	"fmt"
	"math"
	"math/bits"
	"math/rand"
	"runtime"
	"slices"
	"strings"
	"sync"
	"testing"
	"time"

	"loop.example/twoplayers/impl"
)

func turnedOf(m impl.Matrix) impl.Matrix {
	turned, _ := impl.TurnMatrix(m)
	return turned
}

// patternsOn returns the different patterns of rows, as texts.
func patternsOn(m impl.Matrix, cols int) []string {
	var list []string
	for x := range m.Rows {
		var pattern strings.Builder
		for _, y := range numbersOf(cols) {
			pattern.WriteByte(m.Bits[x*m.Cols+y])
		}
		list = append(list, pattern.String())
	}
	slices.Sort(list)
	return slices.Compact(list)
}

// hasAllPatterns looks for each pattern of so many entries among some.
func hasAllPatterns(list []string, length int) bool {
	for n := range 1 << length {
		pattern := ""
		if length > 0 {
			pattern = fmt.Sprintf("%0*b", length, n)
		}
		if !slices.Contains(list, pattern) {
			return false
		}
	}
	return true
}

// checkPatterns checks what a matrix has in all sets of columns.
func checkPatterns(t *testing.T, m impl.Matrix) {
	t.Helper()
	var shattered []int
	for cols := range 1 << m.Cols {
		want := patternsOn(m, cols)
		if n := impl.PatternsOn(m, cols); n != len(want) {
			t.Errorf("PatternsOn(%+v, %d) = %d, want %d", m, cols, n, len(want))
		}
		all := hasAllPatterns(want, bits.OnesCount(uint(cols)))
		if got := impl.IsShattered(m, cols); got != all {
			t.Errorf("IsShattered(%+v, %d) = %v", m, cols, got)
		}
		if all {
			shattered = append(shattered, cols)
		}
	}
	// A sort that keeps the order leaves the least one of those with most columns first.
	slices.SortStableFunc(shattered, func(c int, d int) int { return bits.OnesCount(uint(d)) - bits.OnesCount(uint(c)) })
	if n := impl.ShatteredCols(m); n != shattered[0] {
		t.Errorf("ShatteredCols(%+v) = %d, want %d", m, n, shattered[0])
	}
}

func TestPatternsAndShatteredCols(t *testing.T) {
	for _, m := range rankedMatrices(t) {
		checkPatterns(t, m)
	}
}

func TestPatternTexts(t *testing.T) {
	for _, c := range []struct {
		name      string
		m         string
		cols      int
		patterns  int
		shattered bool
		greatest  int
	}{
		{"the empty set", "01/10", 0, 1, true, 1},
		{"the empty set of one entry", "0", 0, 1, true, 0},
		{"the empty set of equal rows", "11/11", 0, 1, true, 0},
		{"the only column", "0/1", 1, 2, true, 1},
		{"a column with one value", "0/0", 1, 1, false, 0},
		{"a column with one value 1", "1", 1, 1, false, 0},
		{"the first of two columns", "00/10", 1, 2, true, 1},
		{"the second of two columns", "00/01", 2, 2, true, 2},
		{"another one of them", "00/01", 1, 1, false, 2},
		{"all patterns of two columns", "00/01/10/11", 3, 4, true, 3},
		{"one pattern missing", "00/01/11", 3, 3, false, 1},
		{"columns that are not side by side", "000/101/001/100", 5, 4, true, 5},
		{"as many patterns in a greater set", "000/101/001/100", 7, 4, false, 5},
		{"the same patterns in another order", "01/10", 3, 2, false, 1},
		{"rows more than once", "0/1/1/0/1", 1, 2, true, 1},
		{"the least one of several", "0001/0010/0100/0111", 10, 4, true, 6},
		{"a lesser number with fewer columns", "0000/0001/0010/0011", 3, 1, false, 12},
		{"all patterns of three", "000/001/010/011/100/101/110/111", 7, 8, true, 7},
		{"one of three missing", "000/001/010/011/100/101/110/110", 7, 7, false, 3},
		{"the last columns of eight", "00000000/00000001/00000010/00000011", 192, 4, true, 192},
		{"all columns of eight", "00000000/00000001/00000010/00000011", 255, 4, false, 192},
	} {
		m := matrix(t, c.m)
		if n := impl.PatternsOn(m, c.cols); n != c.patterns {
			t.Errorf("%s: PatternsOn(%q, %d) = %d, want %d", c.name, c.m, c.cols, n, c.patterns)
		}
		if ok := impl.IsShattered(m, c.cols); ok != c.shattered {
			t.Errorf("%s: IsShattered(%q, %d) = %v", c.name, c.m, c.cols, ok)
		}
		if n := impl.ShatteredCols(m); n != c.greatest {
			t.Errorf("%s: ShatteredCols(%q) = %d, want %d", c.name, c.m, n, c.greatest)
		}
	}
}

func TestPatternsOnNoColumns(t *testing.T) {
	list := []impl.Matrix{matrix(t, "0"), matrix(t, "01/10"), matrix(t, "0/1")}
	for _, m := range append(list, greaterMatrices(t)...) {
		end := 1 << m.Cols
		for _, cols := range []int{-1, -2, -end, 1 - end, end, end + 1, 2*end - 1, 2 * end, 256, 257, 511, 1 << 32, 1<<32 + 1, math.MaxInt, math.MinInt, math.MinInt + 1} {
			if n, ok := impl.PatternsOn(m, cols), impl.IsShattered(m, cols); n != -1 || ok {
				t.Errorf("PatternsOn(%+v, %d) = %d, IsShattered is %v", m, cols, n, ok)
			}
		}
	}
}

func TestOneWayAndTogetherBits(t *testing.T) {
	for _, m := range rankedMatrices(t) {
		rows, cols := differentRows(m), differentRows(turnedOf(m))
		oneWay, other := bits.Len(uint(rows-1)), bits.Len(uint(cols-1))
		if n := impl.OneWayBits(m); n != oneWay {
			t.Errorf("OneWayBits(%+v) = %d, want %d", m, n, oneWay)
		}
		if n := impl.TogetherBits(m); n != oneWay+other {
			t.Errorf("TogetherBits(%+v) = %d, want %d", m, n, oneWay+other)
		}
	}
}

func TestOneWayTexts(t *testing.T) {
	for _, c := range []struct {
		name     string
		m        string
		oneWay   int
		together int
	}{
		{"one entry", "1", 0, 0},
		{"a plain matrix", "000/000", 0, 0},
		{"only b knows", "01/01", 0, 1},
		{"only a knows", "00/11", 1, 1},
		{"two rows and columns", "10/01", 1, 2},
		{"three rows", "100/010/001", 2, 4},
		{"rows more than once", "10/01/10/01/10", 1, 2},
		{"four rows of two columns", "00/01/10/11", 2, 3},
		{"five rows of one column", "0/1/1/0/1", 1, 1},
		{"five rows", "10000/01000/00100/00010/00001", 3, 6},
		{"eight rows", "000/001/010/011/100/101/110/111", 3, 5},
		{"eight columns", "00001111/00110011/01010101", 2, 5},
	} {
		m := matrix(t, c.m)
		if oneWay, together := impl.OneWayBits(m), impl.TogetherBits(m); oneWay != c.oneWay || together != c.together {
			t.Errorf("%s: OneWayBits and TogetherBits(%q) = %d, %d, want %d, %d", c.name, c.m, oneWay, together, c.oneWay, c.together)
		}
	}
}

func TestOneWayOfFamilies(t *testing.T) {
	for n := 1; n <= 8; n++ {
		// All rows of both are different, and all columns.
		equal, _ := impl.EqualMatrix(n)
		greater, _ := impl.GreaterMatrix(n)
		want := bits.Len(uint(n - 1))
		for _, m := range []impl.Matrix{equal, greater} {
			if oneWay, together := impl.OneWayBits(m), impl.TogetherBits(m); oneWay != want || together != 2*want {
				t.Errorf("OneWayBits and TogetherBits(%+v) = %d, %d", m, oneWay, together)
			}
		}
	}
	for n := 1; n <= 3; n++ {
		index, _ := impl.IndexMatrix(n)
		if oneWay, cols := impl.OneWayBits(index), impl.ShatteredCols(index); oneWay != n || cols != 1<<n-1 {
			t.Errorf("IndexMatrix(%d): OneWayBits is %d, ShatteredCols is %d", n, oneWay, cols)
		}
		if back, want := impl.OneWayBits(turnedOf(index)), bits.Len(uint(n-1)); back != want {
			t.Errorf("IndexMatrix(%d) turned: OneWayBits is %d, want %d", n, back, want)
		}
	}
}

// TestMessagesAtTheSameTime checks that players of different calls do not hear each other, and that none is left.
func TestMessagesAtTheSameTime(t *testing.T) {
	before := runtime.NumGoroutine()
	var all sync.WaitGroup
	for _, m := range greaterMatrices(t) {
		want := differentRows(m)
		all.Add(1)
		go func() {
			defer all.Done()
			for range 50 {
				if n := impl.PatternsOn(m, 1<<m.Cols-1); n != want {
					t.Errorf("PatternsOn(%+v, ..) = %d, want %d", m, n, want)
				}
			}
		}()
	}
	all.Wait()
	for tries := 0; runtime.NumGoroutine() > before && tries < 1000; tries++ {
		time.Sleep(time.Millisecond)
	}
	if n := runtime.NumGoroutine(); n > before {
		t.Errorf("%d goroutines are left of %d", n, before)
	}
}

// speakersOn returns the players who speak on a way, in turns.
func speakersOn(w way) []byte {
	var list []byte
	for _, s := range w.steps {
		list = append(list, s.who)
	}
	return slices.Compact(list)
}

// roundsOf returns the most turns of a way.
func roundsOf(ways []way) int {
	most := 0
	for _, w := range ways {
		most = max(most, len(speakersOn(w)))
	}
	return most
}

// messagesOf returns how many messages some ways need if the first one is of a player: it is empty on a way that
// begins with the other one.
func messagesOf(ways []way, who byte) int {
	most := 0
	for _, w := range ways {
		list := speakersOn(w)
		if len(list) > 0 && list[0] != who {
			list = append([]byte{who}, list...)
		}
		most = max(most, len(list))
	}
	return most
}

func TestRoundsOf(t *testing.T) {
	for _, p := range someProtocols() {
		if n, want := impl.RoundsOf(p), roundsOf(waysOf(p)); n != want {
			t.Errorf("RoundsOf(%q) = %d, want %d", p, n, want)
		}
	}
	for _, c := range []struct {
		name string
		p    string
		want int
	}{
		{"an end", "0", 0},
		{"an end 1", "1", 0},
		{"one bit of a", "A0101", 1},
		{"one bit of b", "B0110", 1},
		{"a bit that is always the same", "A0001", 1},
		{"a bit without an effect", "Bff11", 1},
		{"two bits of a", "A0fA0301A0c01", 1},
		{"two bits of b behind 1", "B0f0B0301", 1},
		{"two bits of b behind 0", "B0fB03010", 1},
		{"a and b", "A02B0101B0201", 2},
		{"b and a", "B020A0101", 2},
		{"two bits of each", "A0fA03B0fB0301010", 2},
		{"a, b and a behind 1", "A010B010A0101", 3},
		{"a, b and a behind 0", "A01B01A010101", 3},
		{"b, a and b", "B010A01B01010", 3},
		{"a longer way behind 0 with fewer changes", "A01A02A04A080101B0101", 2},
		{"a longer way behind 1 with fewer changes", "A01B0101A02A04A080101", 2},
		{"most changes where nothing goes", "A000B000A0001", 3},
		{"more rounds than are allowed elsewhere", strings.Repeat("A010B010", 4) + "1", 8},
		{"as many rounds as can be", strings.Repeat("A010B010", 249) + "A0101", 499},
		{"the longest of one player", rightChain(499), 1},
	} {
		if n := impl.RoundsOf(c.p); n != c.want {
			t.Errorf("%s: RoundsOf(%q) = %d, want %d", c.name, c.p, n, c.want)
		}
	}
	for name, p := range noProtocols() {
		if n := impl.RoundsOf(p); n != -1 {
			t.Errorf("%s: RoundsOf = %d", name, n)
		}
	}
}

// partsOfSet returns the ways to part a set.
func partsOfSet(set int) [][]int {
	if set == 0 {
		return [][]int{nil}
	}
	least := set & -set
	var list [][]int
	for part := set; part > 0; part = (part - 1) & set {
		if part&least != 0 {
			for _, others := range partsOfSet(set &^ part) {
				list = append(list, append(others, part))
			}
		}
	}
	return list
}

// A pause is between two messages: what inputs are left, who says the next one, and how many there may be.
type pause struct {
	r      impl.Rect
	who    byte
	rounds int
}

// A messageTable finds least numbers of bits, -1 where there is no protocol, by whole messages.
type messageTable struct {
	m     impl.Matrix
	known map[pause]int
}

func newMessageTable(m impl.Matrix) messageTable { return messageTable{m: m, known: map[pause]int{}} }

func (c messageTable) of(p pause) int {
	if n, ok := c.known[p]; ok {
		return n
	}
	n := c.find(p)
	c.known[p] = n
	return n
}

func (c messageTable) find(p pause) int {
	if isPlain(c.m, p.r, 0) || isPlain(c.m, p.r, 1) {
		return 0
	}
	if p.rounds == 0 {
		return -1
	}
	inputs := p.r.Rows
	if p.who == 'B' {
		inputs = p.r.Cols
	}
	least := -1
	for _, parts := range partsOfSet(inputs) {
		if n := c.bitsWith(p, parts); n >= 0 && (least < 0 || n < least) {
			least = n
		}
	}
	return least
}

// bitsWith returns how many bits are said if the message names one of some parts. Bits can be found for it, none
// of which are the first ones of others, if all parts together have room: each bit halves it.
func (c messageTable) bitsWith(p pause, parts []int) int {
	room := 0
	for _, part := range parts {
		behind := pause{r: reachedBy(p.r, p.who, part, 1), who: 'A' + 'B' - p.who, rounds: p.rounds - 1}
		n := c.of(behind)
		if n < 0 {
			return -1
		}
		room += 1 << n
	}
	return bits.Len(uint(room - 1))
}

// checkRounds checks all least numbers of bits with few rounds of a matrix.
func checkRounds(t *testing.T, m impl.Matrix) {
	t.Helper()
	table, least := newMessageTable(m), newCostTable(m)[wholeOf(m)][inBits]
	needed := -1
	for rounds := range 7 {
		for _, who := range []byte("AB") {
			want := table.of(pause{r: wholeOf(m), who: who, rounds: rounds})
			if n := impl.RoundBits(m, string(who), rounds); n != want {
				t.Errorf("RoundBits(%+v, %c, %d) = %d, want %d", m, who, rounds, n, want)
			}
			if needed < 0 && want == least {
				needed = rounds
			}
		}
	}
	if n := impl.RoundsNeeded(m); n != needed || n < 0 {
		t.Errorf("RoundsNeeded(%+v) = %d, want %d", m, n, needed)
	}
}

func TestRoundBitsAndRoundsNeeded(t *testing.T) {
	for _, m := range exactMatrices() {
		checkRounds(t, m)
	}
	for _, digit := range []string{"0", "1"} {
		for rows := 1; rows <= 5; rows++ {
			for cols := 1; cols <= 5; cols++ {
				checkRounds(t, fullMatrix(rows, cols, digit))
			}
		}
	}
}

// textsWithBits returns all protocols with at most so many bits and all sets of three inputs.
func textsWithBits(count int) []string {
	list := []string{"0", "1"}
	if count == 0 {
		return list
	}
	parts := textsWithBits(count - 1)
	for _, who := range "AB" {
		for set := range 8 {
			for _, zero := range parts {
				for _, one := range parts {
					list = append(list, fmt.Sprintf("%c%02x%s%s", who, set, zero, one))
				}
			}
		}
	}
	return list
}

// leastOfTexts returns the least numbers of bits, up to 2, of protocols with so many messages for so many rows and
// columns, as they are told of each protocol alone.
func leastOfTexts(t *testing.T, rows int, cols int) map[string]int {
	t.Helper()
	least := map[string]int{}
	for _, p := range textsWithBits(2) {
		ways := waysOf(p)
		m := matrixFound(t, ways, rows, cols)
		for _, who := range []byte("AB") {
			for rounds := messagesOf(ways, who); rounds <= 6; rounds++ {
				key := fmt.Sprint(m.Bits, who, rounds)
				if n, ok := least[key]; !ok || n > impl.BitsOf(p) {
					least[key] = impl.BitsOf(p)
				}
			}
		}
	}
	return least
}

// TestRoundBitsOfAllProtocols checks least numbers against all protocols with few bits.
func TestRoundBitsOfAllProtocols(t *testing.T) {
	found := map[[2]int]map[string]int{}
	for _, size := range [][2]int{{1, 1}, {1, 3}, {2, 2}, {3, 2}, {3, 3}} {
		found[size] = leastOfTexts(t, size[0], size[1])
	}
	for _, m := range smallMatrices() {
		least := found[[2]int{m.Rows, m.Cols}]
		for rounds := range 7 {
			for _, who := range []byte("AB") {
				n := impl.RoundBits(m, string(who), rounds)
				want, ok := least[fmt.Sprint(m.Bits, who, rounds)]
				if least != nil && (ok && n != want || !ok && n >= 0 && n <= 2) {
					t.Errorf("RoundBits(%+v, %c, %d) = %d, protocols up to 2 bits: %d, %v", m, who, rounds, n, want, ok)
				}
			}
		}
	}
}

func TestRoundTexts(t *testing.T) {
	for _, c := range []struct {
		name   string
		m      string
		a, b   [7]int
		needed int
	}{
		{"one entry", "0", [7]int{}, [7]int{}, 0},
		{"a plain matrix", "11111/11111/11111/11111/11111", [7]int{}, [7]int{}, 0},
		{"only b knows", "10", [7]int{-1, -1, 1, 1, 1, 1, 1}, [7]int{-1, 1, 1, 1, 1, 1, 1}, 1},
		{"only a knows", "1/0", [7]int{-1, 1, 1, 1, 1, 1, 1}, [7]int{-1, -1, 1, 1, 1, 1, 1}, 1},
		{"both know", "10/00", [7]int{-1, -1, 2, 2, 2, 2, 2}, [7]int{-1, -1, 2, 2, 2, 2, 2}, 2},
		{"a is first", "010/100", [7]int{-1, -1, 2, 2, 2, 2, 2}, [7]int{-1, -1, 3, 2, 2, 2, 2}, 2},
		{"b is first", "01/10/00", [7]int{-1, -1, 3, 2, 2, 2, 2}, [7]int{-1, -1, 2, 2, 2, 2, 2}, 2},
		{"a is first with more bits", "00111/10101/11011", [7]int{-1, -1, 3, 3, 3, 3, 3}, [7]int{-1, -1, 4, 3, 3, 3, 3}, 2},
		{"b is first with more bits", "100/110/010/011/000", [7]int{-1, -1, 4, 3, 3, 3, 3}, [7]int{-1, -1, 3, 3, 3, 3, 3}, 2},
		{"three rounds from a", "11000/00000/10001/01010/10101", [7]int{-1, -1, 4, 3, 3, 3, 3}, [7]int{-1, -1, 4, 4, 3, 3, 3}, 3},
		{"three rounds from b", "10010/00010/01010/00001/11010", [7]int{-1, -1, 4, 4, 3, 3, 3}, [7]int{-1, -1, 4, 3, 3, 3, 3}, 3},
		{"equal inputs", "10000/01000/00100/00010/00001", [7]int{-1, -1, 4, 4, 4, 4, 4}, [7]int{-1, -1, 4, 4, 4, 4, 4}, 2},
	} {
		m := matrix(t, c.m)
		for rounds := range 7 {
			if a, b := impl.RoundBits(m, "A", rounds), impl.RoundBits(m, "B", rounds); a != c.a[rounds] || b != c.b[rounds] {
				t.Errorf("%s: RoundBits(%q, .., %d) = %d and %d, want %d and %d", c.name, c.m, rounds, a, b, c.a[rounds], c.b[rounds])
			}
		}
		if n := impl.RoundsNeeded(m); n != c.needed {
			t.Errorf("%s: RoundsNeeded(%q) = %d, want %d", c.name, c.m, n, c.needed)
		}
	}
	if impl.MaxRounds != 6 {
		t.Errorf("MaxRounds = %d", impl.MaxRounds)
	}
}

// TestTwoRounds checks that the first one of two messages names the row, and the second one the entry if the row has
// both values.
func TestTwoRounds(t *testing.T) {
	for _, m := range exactMatrices() {
		room := 0
		for _, row := range patternsOn(m, 1<<m.Cols-1) {
			if strings.Contains(row, "0") && strings.Contains(row, "1") {
				room++
			}
			room++
		}
		want := bits.Len(uint(room - 1))
		if n := impl.RoundBits(m, "A", 2); n != want || n > impl.OneWayBits(m)+1 {
			t.Errorf("RoundBits(%+v, A, 2) = %d, want %d, OneWayBits is %d", m, n, want, impl.OneWayBits(m))
		}
		if n := impl.RoundBits(turnedOf(m), "B", 2); n != want {
			t.Errorf("RoundBits(%+v, B, 2) = %d, want %d", turnedOf(m), n, want)
		}
	}
}

func TestRoundsOfOtherArguments(t *testing.T) {
	matrices := []impl.Matrix{matrix(t, "0"), matrix(t, "01"), matrix(t, "01/10"), fullMatrix(5, 5, "1")}
	for _, m := range matrices {
		for _, who := range []string{"", "a", "b", "C", "@", "AB", "BA", "AA", "A ", " B", "B\n", "\x00", "A\x00", "\xff", "\u0410", "0", "1"} {
			for rounds := -1; rounds <= 7; rounds++ {
				if n := impl.RoundBits(m, who, rounds); n != -2 {
					t.Errorf("RoundBits(%+v, %q, %d) = %d", m, who, rounds, n)
				}
			}
		}
		for _, rounds := range []int{math.MinInt, -256, -7, -6, -2, -1, 7, 8, 9, 256, 1 << 32, math.MaxInt} {
			for _, who := range []string{"A", "B"} {
				if n := impl.RoundBits(m, who, rounds); n != -2 {
					t.Errorf("RoundBits(%+v, %q, %d) = %d", m, who, rounds, n)
				}
			}
		}
	}
}

// checkNoRounds checks the results for a matrix of which least numbers are not told.
func checkNoRounds(t *testing.T, name string, m impl.Matrix) {
	t.Helper()
	for rounds := range 7 {
		if a, b := impl.RoundBits(m, "A", rounds), impl.RoundBits(m, "B", rounds); a != -2 || b != -2 {
			t.Errorf("%s: RoundBits of %d are %d and %d", name, rounds, a, b)
		}
	}
	if n := impl.RoundsNeeded(m); n != -1 {
		t.Errorf("%s: RoundsNeeded is %d", name, n)
	}
}

func TestOneWayOfInvalidMatrices(t *testing.T) {
	for name, m := range invalidMatrices() {
		if oneWay, together := impl.OneWayBits(m), impl.TogetherBits(m); oneWay != -1 || together != -1 {
			t.Errorf("%s: OneWayBits and TogetherBits are %d and %d", name, oneWay, together)
		}
		for _, cols := range []int{-1, 0, 1, 2, 3, 255, 256} {
			if n, ok := impl.PatternsOn(m, cols), impl.IsShattered(m, cols); n != -1 || ok {
				t.Errorf("%s: PatternsOn %d is %d, IsShattered is %v", name, cols, n, ok)
			}
		}
		if n := impl.ShatteredCols(m); n != -1 {
			t.Errorf("%s: ShatteredCols is %d", name, n)
		}
		checkNoRounds(t, name, m)
	}
}

func TestSizesOfRounds(t *testing.T) {
	random := rand.New(rand.NewSource(19))
	for rows := 1; rows <= 8; rows++ {
		for cols := 1; cols <= 8; cols++ {
			for _, m := range []impl.Matrix{fullMatrix(rows, cols, "0"), fullMatrix(rows, cols, "1"), randomMatrix(random, rows, cols, 50)} {
				if rows > 5 || cols > 5 {
					checkNoRounds(t, fmt.Sprintf("%+v", m), m)
				} else if n := impl.RoundBits(m, "A", 6); n != impl.LeastBits(m) {
					t.Errorf("RoundBits(%+v, A, 6) = %d, LeastBits is %d", m, n, impl.LeastBits(m))
				}
			}
		}
	}
}

// isNoMore reports whether a number of bits is no more than another one, where -1 stands for no protocol.
func isNoMore(n int, other int) bool { return other == -1 || n >= 0 && n <= other }

// TestMoreRoundsNeedNoMoreBits checks the promise: more rounds never need more bits.
func TestMoreRoundsNeedNoMoreBits(t *testing.T) {
	for _, m := range exactMatrices() {
		least, needed := impl.LeastBits(m), impl.RoundsNeeded(m)
		before := [2]int{-1, -1}
		for rounds := range 7 {
			now := [2]int{impl.RoundBits(m, "A", rounds), impl.RoundBits(m, "B", rounds)}
			for i, n := range now {
				// A player who has nothing to say leaves one message less to the other one.
				if !isNoMore(n, before[i]) || !isNoMore(n, before[1-i]) || !isNoMore(least, n) {
					t.Errorf("RoundBits(%+v, .., %d) are %v, with one round less %v, LeastBits is %d", m, rounds, now, before, least)
				}
			}
			if reached := slices.Contains(now[:], least); reached != (rounds >= needed) {
				t.Errorf("RoundBits(%+v, .., %d) are %v, LeastBits is %d, RoundsNeeded is %d", m, rounds, now, least, needed)
			}
			before = now
		}
	}
}

// checkNoFewer checks that no protocol for so many rows and columns has fewer bits than what its rounds allow.
func checkNoFewer(t *testing.T, p string, rows int, cols int) {
	t.Helper()
	m, _ := impl.MatrixOf(p, rows, cols)
	ways := waysOf(p)
	for _, who := range []byte("AB") {
		for rounds := messagesOf(ways, who); rounds <= 6; rounds++ {
			if n := impl.RoundBits(m, string(who), rounds); !isNoMore(n, impl.BitsOf(p)) {
				t.Errorf("RoundBits(%+v, %c, %d) = %d, but %q has %d bits", m, who, rounds, n, p, impl.BitsOf(p))
			}
		}
	}
}

func TestNoProtocolHasFewerBits(t *testing.T) {
	random := rand.New(rand.NewSource(20))
	for _, p := range someProtocols() {
		checkNoFewer(t, p, 1+random.Intn(5), 1+random.Intn(5))
	}
	for ends := 1; ends <= 25; ends++ {
		for range 10 {
			checkNoFewer(t, splitProtocol(random, impl.Rect{Rows: 31, Cols: 31}, ends), 5, 5)
		}
	}
	for _, m := range exactMatrices() {
		name, _ := impl.NameProtocol(m)
		best, _ := impl.BestProtocol(m)
		checkNoFewer(t, name, m.Rows, m.Cols)
		checkNoFewer(t, best, m.Rows, m.Cols)
		if n := impl.RoundsNeeded(m); n > impl.RoundsOf(best) {
			t.Errorf("RoundsNeeded(%+v) = %d, but %q has %d rounds", m, n, best, impl.RoundsOf(best))
		}
	}
}

// TestShatteredColumnsNeedBits checks the promise: shattered columns need as many bits one way.
func TestShatteredColumnsNeedBits(t *testing.T) {
	for _, m := range rankedMatrices(t) {
		oneWay := impl.OneWayBits(m)
		if n := bits.OnesCount(uint(impl.ShatteredCols(m))); n > oneWay || n > m.Cols {
			t.Errorf("ShatteredCols(%+v) = %d, OneWayBits is %d", m, impl.ShatteredCols(m), oneWay)
		}
		for cols := 1; cols < 1<<m.Cols; cols++ {
			part, _ := impl.PickMatrix(m, ascending(m.Rows), numbersOf(cols))
			need := impl.OneWayBits(part)
			if need > oneWay || need != impl.BitsFor(impl.PatternsOn(m, cols)) {
				t.Errorf("OneWayBits(%+v) = %d, of the columns %d of it %d", m, oneWay, cols, need)
			}
			if impl.IsShattered(m, cols) && need != bits.OnesCount(uint(cols)) {
				t.Errorf("the columns %d of %+v are shattered and need %d bits", cols, m, need)
			}
		}
	}
}

// TestRoundsOfChangedMatrices checks that other orders and values need as much, turned ones from the other player,
// and parts no more.
func TestRoundsOfChangedMatrices(t *testing.T) {
	random := rand.New(rand.NewSource(21))
	for _, m := range exactMatrices() {
		shrunk, _ := impl.ShrinkMatrix(m)
		mixed, _ := impl.PickMatrix(m, random.Perm(m.Rows), random.Perm(m.Cols))
		part, _ := impl.PickMatrix(m, indicesOf(random, m.Rows, m.Rows), indicesOf(random, m.Cols, m.Cols))
		for rounds := range 7 {
			a, b := impl.RoundBits(m, "A", rounds), impl.RoundBits(m, "B", rounds)
			for _, n := range []impl.Matrix{shrunk, mixed, otherOf(m)} {
				if impl.RoundBits(n, "A", rounds) != a || impl.RoundBits(n, "B", rounds) != b {
					t.Errorf("RoundBits(.., %d) of %+v are %d and %d, others of %+v", rounds, m, a, b, n)
				}
			}
			if n := turnedOf(m); impl.RoundBits(n, "A", rounds) != b || impl.RoundBits(n, "B", rounds) != a {
				t.Errorf("RoundBits(.., %d) of %+v are %d and %d, others of %+v", rounds, m, a, b, n)
			}
			if !isNoMore(impl.RoundBits(part, "A", rounds), a) || !isNoMore(impl.RoundBits(part, "B", rounds), b) {
				t.Errorf("RoundBits(.., %d) of %+v are %d and %d, more of its part %+v", rounds, m, a, b, part)
			}
		}
	}
}
