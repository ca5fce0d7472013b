package tests

import (
	"fmt"
	"math/rand"
	"slices"
	"strconv"
	"strings"
	"sync"
	"testing"

	"loop.example/twoplayers/impl"
)

// isGame reports whether a text is a protocol of a game: with 0 in place of each 2, in sets
// as well, it is a protocol.
func isGame(s string) bool { return isProtocol(strings.ReplaceAll(s, "2", "0")) }

// withRandomEnds returns a protocol with bits of numbers in place of its ends.
func withRandomEnds(random *rand.Rand, p string) string {
	text := []byte(p)
	for _, w := range waysOf(p) {
		text[w.at] = "012"[random.Intn(3)]
	}
	return string(text)
}

// randomGame returns a protocol of a game with so many bits.
func randomGame(random *rand.Rand, count int) string {
	return withRandomEnds(random, randomProtocol(random, count))
}

// someGames returns protocols of games of many shapes.
func someGames() []string {
	list := []string{"0", "1", "2", "A0002", "Aff20", "B5522", "A002B0110", "B77Aaa01A5501", "A02A02A02A0201210", "A22B2220A2212"}
	random := rand.New(rand.NewSource(29))
	for _, p := range someProtocols() {
		list = append(list, withRandomEnds(random, p))
	}
	return list
}

// noGames returns texts of each kind that is no protocol of a game.
func noGames() map[string]string {
	texts := noProtocols()
	texts["another digit"] = "3"
	texts["a part that is none"] = "A0103"
	texts["a first part that is none"] = "A0131"
	texts["a byte before the digits"] = "A010/"
	texts["more behind the end 2"] = "22"
	texts["a bit behind the end 2"] = "2A0101"
	texts["an end behind a bit"] = "A01022"
	texts["a formula"] = "&|XY|xy"
	texts["a chain with one end more"] = rightChain(499) + "2"
	texts["one bit too many, and ends 2"] = strings.Repeat("Bfe2", 500) + "2"
	return texts
}

// parted returns the numbers of a and of b in the game of a table.
func parted(table string) impl.Rect {
	var r impl.Rect
	for n, c := range table {
		if c == '1' {
			r.Rows |= 1 << n
		} else {
			r.Cols |= 1 << n
		}
	}
	return r
}

// hasNumbers reports whether both players have some numbers.
func hasNumbers(r impl.Rect) bool { return r.Rows != 0 && r.Cols != 0 }

// gameTables returns all tables of all widths that have both values.
func gameTables() []string {
	var list []string
	for width := 1; width <= 3; width++ {
		for _, table := range tablesOf(width) {
			if hasNumbers(parted(table)) {
				list = append(list, table)
			}
		}
	}
	return list
}

// plainTables returns the tables with one value.
func plainTables() []string {
	return []string{"00", "11", "0000", "1111", "00000000", "11111111"}
}

// differentBits returns the bits that are different for each row and each column.
func differentBits(r impl.Rect) []int {
	var list []int
	for bit := range 3 {
		always := true
		for _, x := range numbersOf(r.Rows) {
			for _, y := range numbersOf(r.Cols) {
				always = always && x>>bit&1 != y>>bit&1
			}
		}
		if always {
			list = append(list, bit)
		}
	}
	return list
}

// A finding has the bit that a protocol finds for each two numbers.
type finding [8][8]int

func findingOf(t *testing.T, p string) finding {
	t.Helper()
	var found finding
	ways := waysOf(p)
	for x := range 8 {
		for y := range 8 {
			found[x][y] = wayOf(t, ways, x, y).value
		}
	}
	return found
}

// plays follows the definition of PlaysGame.
func (f finding) plays(table string, width int) bool {
	for x := range len(table) {
		for y := range len(table) {
			bit := f[x][y]
			if table[x] == '1' && table[y] == '0' && (bit >= width || x>>bit&1 == y>>bit&1) {
				return false
			}
		}
	}
	return true
}

// playingGame returns a protocol that plays for the numbers of a rectangle, with bits and
// ends that are not needed.
func playingGame(random *rand.Rand, r impl.Rect) string {
	if !hasNumbers(r) {
		return randomGame(random, random.Intn(3))
	}
	if list := differentBits(r); len(list) > 0 && random.Intn(4) > 0 {
		return strconv.Itoa(list[random.Intn(len(list))])
	}
	who, set := "AB"[random.Intn(2)], random.Intn(256)
	zero, one := playingGame(random, reachedBy(r, who, set, 0)), playingGame(random, reachedBy(r, who, set, 1))
	return fmt.Sprintf("%c%02x%s%s", who, set, zero, one)
}

// changedGame returns a protocol of a game with another end or another set.
func changedGame(random *rand.Rand, p string) string {
	for {
		text := []byte(p)
		text[random.Intn(len(text))] = "012345678AB"[random.Intn(11)]
		if isGame(string(text)) {
			return string(text)
		}
	}
}

func TestGameValid(t *testing.T) {
	for _, p := range someGames() {
		if !isGame(p) || !impl.GameValid(p) {
			t.Errorf("GameValid(%q) is false", p)
		}
	}
	for _, p := range someProtocols() {
		if !impl.GameValid(p) {
			t.Errorf("GameValid(%q) of a protocol is false", p)
		}
	}
	for name, p := range noGames() {
		if isGame(p) || impl.GameValid(p) {
			t.Errorf("%s: GameValid(%q)", name, p)
		}
	}
	for set := range 256 {
		for _, who := range "AB" {
			for ends := range 9 {
				if p := fmt.Sprintf("%c%02x%d%d", who, set, ends/3, ends%3); !impl.GameValid(p) {
					t.Errorf("GameValid(%q) is false", p)
				}
			}
		}
	}
	// The ends of other protocols are values.
	for _, p := range []string{"2", "A0002", "A0120", "B0fA01021"} {
		if impl.ProtocolValid(p) {
			t.Errorf("ProtocolValid(%q)", p)
		}
	}
}

func TestChangedGames(t *testing.T) {
	for _, p := range []string{"0", "2", "A0102", "Bff21", "A02B0121B0202", "AabBcd0Aef02B4512"} {
		for i := range len(p) + 1 {
			for c := range 256 {
				texts := []string{p[:i] + string([]byte{byte(c)}) + p[i:], p[:i]}
				if i < len(p) {
					texts = append(texts, p[:i]+string([]byte{byte(c)})+p[i+1:], p[:i]+p[i+1:])
				}
				for _, s := range texts {
					if ok := impl.GameValid(s); ok != isGame(s) {
						t.Errorf("GameValid(%q) = %v", s, ok)
					}
				}
			}
		}
	}
}

func TestLongestGames(t *testing.T) {
	random := rand.New(rand.NewSource(30))
	chain := strings.Repeat("Bfe2", 499) + "2"
	for _, p := range []string{chain, leftChain(499), randomGame(random, 499)} {
		if len(p) != 1997 || !impl.GameValid(p) || impl.GameEnds(p) != 500 {
			t.Errorf("%d bytes: GameValid is %v, GameEnds is %d", len(p), impl.GameValid(p), impl.GameEnds(p))
		}
		for behind := 1; behind <= 5; behind++ {
			if impl.GameValid(p + strings.Repeat("2", behind)) {
				t.Errorf("%d bytes are valid", len(p)+behind)
			}
		}
		if impl.GameValid("A01" + p + "2") {
			t.Errorf("one bit more than %d bytes is valid", len(p))
		}
	}
	if n := impl.GameBits(chain); n != 499 {
		t.Errorf("GameBits = %d", n)
	}
	if bits, bit := impl.GameTalk(chain, 0, 7); bits != strings.Repeat("1", 499) || bit != 2 {
		t.Errorf("GameTalk = %q, %d", bits, bit)
	}
	if !impl.PlaysGame(chain, "00001111") || impl.PlaysGame(chain, "0011") {
		t.Error("PlaysGame of a chain")
	}
}

func TestGameBitsAndEnds(t *testing.T) {
	for _, p := range someGames() {
		ways := waysOf(p)
		bits := 0
		for _, w := range ways {
			bits = max(bits, len(w.steps))
		}
		if impl.GameBits(p) != bits || impl.GameEnds(p) != len(ways) {
			t.Errorf("GameBits and GameEnds(%q) = %d, %d, want %d, %d", p, impl.GameBits(p), impl.GameEnds(p), bits, len(ways))
		}
	}
	for _, c := range []struct {
		p          string
		bits, ends int
	}{
		{"0", 0, 1}, {"1", 0, 1}, {"2", 0, 1}, {"A0122", 1, 2}, {"B77Aaa01A5501", 2, 4}, {"A002B0110", 2, 3}, {"B00A01212", 2, 3},
		// Bits that are the same for all and ends that are not reached count.
		{"A00A00A000222", 3, 4}, {"AffBff0Aff012", 3, 4},
	} {
		if bits, ends := impl.GameBits(c.p), impl.GameEnds(c.p); bits != c.bits || ends != c.ends {
			t.Errorf("GameBits and GameEnds(%q) = %d, %d, want %d, %d", c.p, bits, ends, c.bits, c.ends)
		}
	}
}

func TestGameTalk(t *testing.T) {
	for _, p := range someGames() {
		ways := waysOf(p)
		for x := range 8 {
			for y := range 8 {
				w := wayOf(t, ways, x, y)
				if bits, bit := impl.GameTalk(p, x, y); bits != w.bits() || bit != w.value {
					t.Fatalf("GameTalk(%q, %d, %d) = %q, %d, want %q, %d", p, x, y, bits, bit, w.bits(), w.value)
				}
			}
		}
	}
	for _, n := range noInputs() {
		for _, p := range []string{"0", "2", "A0102", "B77Aaa01A5501"} {
			for _, pair := range [][2]int{{n, 0}, {0, n}, {n, n}, {7, n}, {n, 7}} {
				if bits, bit := impl.GameTalk(p, pair[0], pair[1]); bits != "" || bit != -1 {
					t.Errorf("GameTalk(%q, %d, %d) = %q, %d", p, pair[0], pair[1], bits, bit)
				}
			}
		}
	}
}

func TestGameTalkTexts(t *testing.T) {
	for _, c := range []struct {
		name string
		p    string
		x, y int
		bits string
		bit  int
	}{
		{"nothing is said", "2", 3, 4, "", 2},
		{"a says 0", "A0120", 1, 0, "0", 2},
		{"a says 1", "A0102", 0, 1, "1", 2},
		{"b says 0", "B0120", 0, 1, "0", 2},
		{"b says 1", "B0102", 1, 0, "1", 2},
		{"the last number", "B8012", 0, 7, "1", 2},
		{"the empty set", "A0021", 0, 0, "0", 2},
		{"the set of all", "Bff12", 5, 5, "1", 2},
		{"both in turns", "B77Aaa01A5501", 1, 3, "01", 1},
		{"the other part", "B77Aaa01A5501", 1, 0, "10", 0},
		{"the other letter", "B77Aaa01A5501", 2, 0, "11", 1},
		{"equal numbers", "B77Aaa01A5501", 3, 3, "01", 1},
		{"numbers that are greater than the width", "B77Aaa01A5501", 6, 7, "00", 0},
	} {
		if bits, bit := impl.GameTalk(c.p, c.x, c.y); bits != c.bits || bit != c.bit {
			t.Errorf("%s: GameTalk(%q, %d, %d) = %q, %d", c.name, c.p, c.x, c.y, bits, bit)
		}
	}
}

// What is found does not depend on what is asked at the same time.
func TestGamesAtTheSameTime(t *testing.T) {
	p := randomGame(rand.New(rand.NewSource(31)), 60)
	var all sync.WaitGroup
	for n := range 8 {
		w := wayOf(t, waysOf(p), n, 7-n)
		all.Add(1)
		go func() {
			defer all.Done()
			for range 20 {
				if bits, bit := impl.GameTalk(p, n, 7-n); bits != w.bits() || bit != w.value {
					t.Errorf("GameTalk(%q, %d, %d) = %q, %d", p, n, 7-n, bits, bit)
				}
				if q, _ := impl.FormulaGame("|&xyz"); q != "A77Baa012" {
					t.Errorf("FormulaGame = %q", q)
				}
				if q, _ := impl.BestGame("0110"); q != "A04B0801B0810" {
					t.Errorf("BestGame = %q", q)
				}
			}
		}()
	}
	all.Wait()
}

func TestTextsThatAreNoGames(t *testing.T) {
	for name, p := range noGames() {
		if impl.GameValid(p) || impl.GameBits(p) != -1 || impl.GameEnds(p) != -1 {
			t.Errorf("%s: GameValid is %v, GameBits %d, GameEnds %d", name, impl.GameValid(p), impl.GameBits(p), impl.GameEnds(p))
		}
		for _, n := range []int{0, 7, 8, -1} {
			if bits, bit := impl.GameTalk(p, n, 0); bits != "" || bit != -1 {
				t.Errorf("%s: GameTalk = %q, %d", name, bits, bit)
			}
		}
		for _, table := range append(plainTables(), "01", "10", "0110", "01101001", "00010111", "", "0", "x") {
			if impl.PlaysGame(p, table) {
				t.Errorf("%s: PlaysGame(%q, %q)", name, p, table)
			}
			f, ok := impl.GameFormula(p, table)
			wantProtocol(t, name+": GameFormula", f, ok, "")
		}
	}
}

func TestPlaysGame(t *testing.T) {
	random := rand.New(rand.NewSource(32))
	tables, plain := gameTables(), plainTables()
	for _, p := range someGames() {
		found := findingOf(t, p)
		for _, table := range append(tables, plain...) {
			if want := found.plays(table, impl.WidthOf(table)); impl.PlaysGame(p, table) != want {
				t.Errorf("PlaysGame(%q, %q) is not %v", p, table, want)
			}
		}
	}
	played := map[bool]int{}
	for _, table := range tables {
		for range 4 {
			p := playingGame(random, parted(table))
			if !impl.PlaysGame(p, table) {
				t.Errorf("PlaysGame(%q, %q) is false", p, table)
			}
			for range 4 {
				q := changedGame(random, p)
				want := findingOf(t, q).plays(table, impl.WidthOf(table))
				if impl.PlaysGame(q, table) != want {
					t.Errorf("PlaysGame(%q, %q) is not %v", q, table, want)
				}
				played[want]++
			}
		}
	}
	if played[true] < 300 || played[false] < 300 {
		t.Errorf("changed protocols play and do not play: %v", played)
	}
}

func TestPlayTexts(t *testing.T) {
	for _, c := range []struct {
		name  string
		p     string
		table string
		want  bool
	}{
		{"one bit", "0", "01", true},
		{"one bit, turned", "0", "10", true},
		{"a bit from the width on", "1", "01", false},
		{"the greatest bit", "2", "00001111", true},
		{"the greatest bit of a narrow table", "2", "0011", false},
		{"the second bit", "1", "0011", true},
		{"the same bit of both", "0", "0011", false},
		{"a bit that is different for some", "0", "0111", false},
		{"both parts", "B77Aaa01A5501", "0110", true},
		{"the parts of another table", "B77Aaa01A5501", "1001", false},
		{"a table that is implied", "B77Aaa01A5501", "0010", true},
		{"with a third bit", "B77Aaa01A5501", "01100110", true},
		{"an end that is wrong, not reached", "A0002", "01", true},
		{"an end that is wrong, reached", "A0020", "01", false},
		{"a bit that is always 1", "Aff20", "01", true},
		{"a bit that is always the same for these numbers", "B0120", "01", true},
		{"a wrong end for other numbers of a", "A0120", "10", true},
		{"a bit of the other player", "B0120", "10", false},
		{"numbers from the table's length on", "A0cA01202", "10", true},
		{"never true", "2", "00", true},
		{"always true", "2", "11", true},
		{"always true, with bits", "A002B0110", "1111", true},
		{"never true of three bits", "B77Aaa01A5501", "00000000", true},
		{"always true of three bits", "0", "11111111", true},
	} {
		if impl.PlaysGame(c.p, c.table) != c.want {
			t.Errorf("%s: PlaysGame(%q, %q) is not %v", c.name, c.p, c.table, c.want)
		}
	}
}

func TestTablesWithOneValue(t *testing.T) {
	for _, table := range plainTables() {
		for _, p := range someGames() {
			if !impl.PlaysGame(p, table) {
				t.Errorf("PlaysGame(%q, %q) is false", p, table)
			}
			f, ok := impl.GameFormula(p, table)
			wantProtocol(t, "GameFormula", f, ok, "")
		}
		if bits, ends := impl.LeastGameBits(table), impl.LeastGameEnds(table); bits != -1 || ends != -1 {
			t.Errorf("LeastGameBits and LeastGameEnds(%q) = %d, %d", table, bits, ends)
		}
		p, ok := impl.BestGame(table)
		wantProtocol(t, "BestGame", p, ok, "")
	}
}

func TestGamesOfNoTables(t *testing.T) {
	for _, table := range append(noTables(), "A0001", "B77Aaa01A5501", strings.Repeat("01", 1<<16)) {
		for _, p := range []string{"0", "1", "2", "A0002", "B77Aaa01A5501"} {
			if impl.PlaysGame(p, table) {
				t.Errorf("PlaysGame(%q, %.20q)", p, table)
			}
			f, ok := impl.GameFormula(p, table)
			wantProtocol(t, "GameFormula", f, ok, "")
		}
		if bits, ends := impl.LeastGameBits(table), impl.LeastGameEnds(table); bits != -1 || ends != -1 {
			t.Errorf("LeastGameBits and LeastGameEnds(%.20q) = %d, %d", table, bits, ends)
		}
		p, ok := impl.BestGame(table)
		wantProtocol(t, "BestGame", p, ok, "")
	}
}

// partsOfFormula returns both parts of a formula of a gate.
func partsOfFormula(f string) (string, string) {
	at := 1
	for missing := 1; missing > 0; at++ {
		if f[at] == '&' || f[at] == '|' {
			missing++
		} else {
			missing--
		}
	}
	return f[1:at], f[at:]
}

// gameText follows the definition of FormulaGame.
func gameText(f string) string {
	if len(f) == 1 {
		return strconv.Itoa(strings.Index("xyz", strings.ToLower(f)))
	}
	first, second := partsOfFormula(f)
	r, _ := readingOf(first, 3)
	if f[0] == '|' {
		return fmt.Sprintf("A%02x%s%s", 255^r.truths, gameText(first), gameText(second))
	}
	return fmt.Sprintf("B%02x%s%s", r.truths, gameText(first), gameText(second))
}

// checkFormulaGame checks the protocol of a text, which plays the game of its table.
func checkFormulaGame(t *testing.T, f string) {
	t.Helper()
	want := ""
	if _, ok := readingOf(f, 3); ok {
		want = gameText(f)
	}
	p, ok := impl.FormulaGame(f)
	wantProtocol(t, fmt.Sprintf("FormulaGame(%q)", f), p, ok, want)
	if !ok {
		return
	}
	if !impl.GameValid(p) || impl.GameBits(p) != impl.DeepOf(f) || impl.GameEnds(p) != impl.SizeOf(f) {
		t.Errorf("FormulaGame(%q) = %q with %d bits and %d ends", f, p, impl.GameBits(p), impl.GameEnds(p))
	}
	for width := 1; width <= 3; width++ {
		if table, ok := impl.TableOf(f, width); ok && !impl.PlaysGame(p, table) {
			t.Errorf("FormulaGame(%q) = %q does not play the game of %q", f, p, table)
		}
	}
}

func TestFormulaGame(t *testing.T) {
	eachText("XYZxyz&|", 5, func(f string) { checkFormulaGame(t, f) })
	for _, f := range append(someFormulas(), noFormulas()...) {
		checkFormulaGame(t, f)
	}
	for letters := 98; letters <= 103; letters++ {
		checkFormulaGame(t, strings.Repeat("&x", letters-1)+"Y")
		checkFormulaGame(t, strings.Repeat("|", letters-1)+strings.Repeat("z", letters))
	}
	for c := range 256 {
		other := string([]byte{byte(c)})
		for _, f := range []string{other, "&x" + other, other + "xy", "|&xy" + other, "|&xyz" + other} {
			checkFormulaGame(t, f)
		}
	}
	for _, f := range []string{"A0001", "B77Aaa01A5501", "01", strings.Repeat("&", 1<<16), strings.Repeat("x", 1<<16)} {
		checkFormulaGame(t, f)
	}
}

func TestFormulaGameTexts(t *testing.T) {
	for _, c := range []struct{ f, want string }{
		{"x", "0"}, {"X", "0"}, {"y", "1"}, {"Y", "1"}, {"z", "2"}, {"Z", "2"},
		{"|xy", "A5501"}, {"|yx", "A3310"}, {"&xy", "Baa01"}, {"&XY", "B5501"}, {"&Zx", "B0f20"},
		{"&|XY|xy", "B77Aaa01A5501"}, {"|&xyz", "A77Baa012"}, {"|x&yz", "A550Bcc12"}, {"&x|yz", "Baa0A3312"},
		// A bit that is always the same, and ends that are not reached.
		{"|xx", "A5500"}, {"&|Xxy", "BffAaa001"}, {"|&Xxy", "AffB55001"},
		{"&", ""}, {"xy", ""}, {"", ""}, {"w", ""},
	} {
		p, ok := impl.FormulaGame(c.f)
		wantProtocol(t, fmt.Sprintf("FormulaGame(%q)", c.f), p, ok, c.want)
	}
}

// formulaText follows the definition of GameFormula for the numbers of a rectangle.
func formulaText(p string, r impl.Rect) string {
	if len(p) == 1 {
		bit := int(p[0] - '0')
		return string("XYZxyz"[numbersOf(r.Rows)[0]>>bit&1*3+bit])
	}
	who, set, zero, one := partsOf(p)
	out, in := reachedBy(r, who, set, 0), reachedBy(r, who, set, 1)
	if !hasNumbers(in) {
		return formulaText(zero, r)
	}
	if !hasNumbers(out) {
		return formulaText(one, r)
	}
	sign := "|"
	if who == 'B' {
		sign = "&"
	}
	return sign + formulaText(zero, out) + formulaText(one, in)
}

// checkGameFormula checks the formula of a protocol of a game.
func checkGameFormula(t *testing.T, p string, table string) {
	t.Helper()
	want := ""
	if findingOf(t, p).plays(table, impl.WidthOf(table)) {
		want = formulaText(p, parted(table))
	}
	f, ok := impl.GameFormula(p, table)
	wantProtocol(t, fmt.Sprintf("GameFormula(%q, %q)", p, table), f, ok, want)
	if !ok {
		return
	}
	if back, _ := impl.TableOf(f, impl.WidthOf(table)); back != table {
		t.Errorf("GameFormula(%q, %q) = %q with the table %q", p, table, f, back)
	}
	// Each letter has a pair of numbers, of which there are at most 16.
	if impl.DeepOf(f) > impl.GameBits(p) || impl.SizeOf(f) > impl.GameEnds(p) || impl.SizeOf(f) > 16 {
		t.Errorf("GameFormula(%q, %q) = %q is deeper or has more letters", p, table, f)
	}
}

func TestGameFormula(t *testing.T) {
	random := rand.New(rand.NewSource(33))
	for _, table := range gameTables() {
		for range 6 {
			p := playingGame(random, parted(table))
			checkGameFormula(t, p, table)
			checkGameFormula(t, changedGame(random, p), table)
			checkGameFormula(t, randomGame(random, random.Intn(4)), table)
		}
		f, _ := impl.FlattestFormula(table)
		p, _ := impl.FormulaGame(f)
		checkGameFormula(t, p, table)
	}
	for _, f := range someFormulas() {
		p, _ := impl.FormulaGame(f)
		for width := 1; width <= 3; width++ {
			if table, ok := impl.TableOf(f, width); ok && hasNumbers(parted(table)) {
				checkGameFormula(t, p, table)
			}
		}
	}
}

func TestGameFormulaTexts(t *testing.T) {
	for _, c := range []struct{ name, p, table, want string }{
		{"a letter", "0", "01", "x"},
		{"a great letter", "0", "10", "X"},
		{"the second bit", "1", "1100", "Y"},
		{"the third bit", "2", "00001111", "z"},
		{"both parts", "B77Aaa01A5501", "0110", "&|XY|xy"},
		{"a table that is implied", "B77Aaa01A5501", "0010", "&Xy"},
		{"a gate of a", "A0401", "0111", "|xy"},
		{"a gate of b", "B0201", "0001", "&xy"},
		{"the other half first", "A0a10", "0111", "|yx"},
		{"a set with other numbers", "Af401", "0111", "|xy"},
		{"a bit that is always 0", "A0002", "01", "x"},
		{"a bit that is always 1", "Aff20", "01", "x"},
		{"a bit that is the same for the numbers of b", "B0120", "01", "x"},
		{"a bit that is the same for the numbers left", "A04A0401A0421", "0111", "|xy"},
		{"what follows the other bit is long", "BffA01A02A0401220", "01", "x"},
		{"equal letters", "A0400", "0101", "x"},
		{"equal letters that are both reached", "A0800", "0101", "|xx"},
		{"a long chain that does not play", rightChain(499), "0011", ""},
		{"a long chain of bits that are the same", strings.Repeat("Bff2", 499) + "1", "0011", "y"},
		{"a protocol that does not play", "0", "0110", ""},
		{"a bit from the width on", "2", "01", ""},
		{"a wrong end", "A0410", "0111", ""},
		{"one value", "0", "11", ""},
		{"one value of three bits", "B77Aaa01A5501", "00000000", ""},
	} {
		f, ok := impl.GameFormula(c.p, c.table)
		wantProtocol(t, fmt.Sprintf("%s: GameFormula(%q, %q)", c.name, c.p, c.table), f, ok, c.want)
	}
}

// A gameCosts has the least costs of protocols that play for the numbers of rectangles.
type gameCosts map[impl.Rect]costPair

func (c gameCosts) of(r impl.Rect) costPair {
	if cost, ok := c[r]; ok {
		return cost
	}
	cost := costPair{0, 1}
	if len(differentBits(r)) == 0 {
		cost = costPair{1000, 1000}
		for _, who := range []byte("AB") {
			inputs := inputsIn(r, who == 'B')
			for set := (inputs - 1) & inputs; set > 0; set = (set - 1) & inputs {
				said := joined(c.of(reachedBy(r, who, set, 0)), c.of(reachedBy(r, who, set, 1)))
				cost = costPair{min(cost[inBits], said[inBits]), min(cost[inEnds], said[inEnds])}
			}
		}
	}
	c[r] = cost
	return cost
}

// bestText follows the definition of BestGame in a rectangle.
func (c gameCosts) bestText(r impl.Rect) string {
	if list := differentBits(r); len(list) > 0 {
		return strconv.Itoa(list[0])
	}
	for _, who := range []byte("AB") {
		inputs := inputsIn(r, who == 'B')
		for set := 1; set < inputs; set++ {
			if set&^inputs != 0 || slices.Contains(numbersOf(set), numbersOf(inputs)[0]) {
				continue
			}
			zero, one := reachedBy(r, who, set, 0), reachedBy(r, who, set, 1)
			if joined(c.of(zero), c.of(one))[inBits] == c.of(r)[inBits] {
				return fmt.Sprintf("%c%02x%s%s", who, set, c.bestText(zero), c.bestText(one))
			}
		}
	}
	return "none"
}

func TestLeastAndBestGames(t *testing.T) {
	for _, table := range gameTables() {
		costs, all := gameCosts{}, parted(table)
		want := costs.of(all)
		if bits, ends := impl.LeastGameBits(table), impl.LeastGameEnds(table); bits != want[inBits] || ends != want[inEnds] {
			t.Errorf("LeastGameBits and LeastGameEnds(%q) = %d, %d, want %d", table, bits, ends, want)
		}
		p, ok := impl.BestGame(table)
		wantProtocol(t, fmt.Sprintf("BestGame(%q)", table), p, ok, costs.bestText(all))
		if !impl.PlaysGame(p, table) || impl.GameBits(p) != want[inBits] || impl.GameEnds(p) < want[inEnds] {
			t.Errorf("BestGame(%q) = %q has %d bits and %d ends", table, p, impl.GameBits(p), impl.GameEnds(p))
		}
		if trimmed := trimmedWithin(p, all); p != trimmed {
			t.Errorf("BestGame(%q) = %q, but %q when it is trimmed", table, p, trimmed)
		}
	}
}

func TestLeastAndBestGameTexts(t *testing.T) {
	for _, c := range []struct {
		table      string
		bits, ends int
		best       string
	}{
		{"01", 0, 1, "0"}, {"10", 0, 1, "0"}, {"0101", 0, 1, "0"}, {"0011", 0, 1, "1"}, {"1100", 0, 1, "1"}, {"00001111", 0, 1, "2"},
		{"0001", 1, 2, "B0201"}, {"0111", 1, 2, "A0401"}, {"1000", 1, 2, "B0401"}, {"1110", 1, 2, "A0201"},
		{"0110", 2, 4, "A04B0801B0810"}, {"1001", 2, 4, "A08B0401B0410"},
		{"00010001", 1, 2, "B2201"}, {"00000001", 2, 3, "B08B22012"}, {"01111111", 2, 3, "A04A50021"},
		// The first protocol with as few bits as possible has more ends than needed.
		{"00010111", 3, 5, "A20A40B0201B0412B0202"},
		{"01101001", 4, 10, "A14A80B08B20021B08B20012A10B08B40120B20B40210"},
	} {
		if bits, ends := impl.LeastGameBits(c.table), impl.LeastGameEnds(c.table); bits != c.bits || ends != c.ends {
			t.Errorf("LeastGameBits and LeastGameEnds(%q) = %d, %d, want %d, %d", c.table, bits, ends, c.bits, c.ends)
		}
		if p, ok := impl.BestGame(c.table); p != c.best || !ok {
			t.Errorf("BestGame(%q) = %q, %v, want %q", c.table, p, ok, c.best)
		}
	}
}

// pairsIn returns all pairs of a number of a and one of b in the game of a table.
func pairsIn(table string) [][2]int {
	var pairs [][2]int
	for _, x := range numbersOf(parted(table).Rows) {
		for _, y := range numbersOf(parted(table).Cols) {
			pairs = append(pairs, [2]int{x, y})
		}
	}
	return pairs
}

// leastOfAllGames returns the least number of bits with which a protocol plays for some
// pairs of numbers. What protocols find is a text with a bit for each pair: with one bit
// more, it is put together of any two that are found before.
func leastOfAllGames(pairs [][2]int) int {
	found := map[string]bool{}
	for bit := range 3 {
		found[strings.Repeat(strconv.Itoa(bit), len(pairs))] = true
	}
	wrong := func(text string) bool {
		for i, pair := range pairs {
			if (pair[0]^pair[1])>>(text[i]-'0')&1 == 0 {
				return true
			}
		}
		return false
	}
	for count := 0; ; count++ {
		more := map[string]bool{}
		for zero := range found {
			if !wrong(zero) {
				return count
			}
			for one := range found {
				for set := range 16 {
					more[joinedTexts(pairs, 0, set, zero, one)] = true
					more[joinedTexts(pairs, 1, set, zero, one)] = true
				}
			}
		}
		found = more
	}
}

// joinedTexts returns what is found if the player of this index says first whether their
// number is in a set.
func joinedTexts(pairs [][2]int, player int, set int, zero string, one string) string {
	text := []byte(zero)
	for i, pair := range pairs {
		if set>>pair[player]&1 == 1 {
			text[i] = one[i]
		}
	}
	return string(text)
}

// TestLeastGamesOfAllProtocols checks least numbers of bits without rectangles.
func TestLeastGamesOfAllProtocols(t *testing.T) {
	for _, table := range gameTables() {
		if len(table) == 8 {
			continue
		}
		if n, want := impl.LeastGameBits(table), leastOfAllGames(pairsIn(table)); n != want {
			t.Errorf("LeastGameBits(%q) = %d, want %d", table, n, want)
		}
	}
}

// Promise 10: the game of a function needs exactly as many bits as its formulas are deep.
func TestGamesNeedTheDepthOfFormulas(t *testing.T) {
	for _, table := range gameTables() {
		deep, size := impl.LeastDeep(table), impl.LeastSize(table)
		if bits, ends := impl.LeastGameBits(table), impl.LeastGameEnds(table); bits != deep || ends != size {
			t.Errorf("LeastGameBits and LeastGameEnds(%q) = %d, %d, LeastDeep and LeastSize %d, %d", table, bits, ends, deep, size)
		}
		flat, _ := impl.FlattestFormula(table)
		p, ok := impl.FormulaGame(flat)
		if !ok || !impl.PlaysGame(p, table) || impl.GameBits(p) != deep {
			t.Errorf("FormulaGame(%q) = %q with %d bits, want %d", flat, p, impl.GameBits(p), deep)
		}
		best, _ := impl.BestGame(table)
		f, ok := impl.GameFormula(best, table)
		if back, _ := impl.TableOf(f, impl.WidthOf(table)); !ok || back != table || impl.DeepOf(f) != deep {
			t.Errorf("GameFormula(%q, %q) = %q, %v with the depth %d, want %d", best, table, f, ok, impl.DeepOf(f), deep)
		}
		other := otherTable(table)
		if impl.LeastGameBits(other) != deep || impl.LeastGameEnds(other) != size {
			t.Errorf("the games of %q and %q differ", table, other)
		}
	}
}

// No protocol that plays has fewer bits than formulas are deep, or fewer ends than letters.
func TestNoGameIsBetter(t *testing.T) {
	random := rand.New(rand.NewSource(34))
	for _, table := range gameTables() {
		deep, size := impl.LeastDeep(table), impl.LeastSize(table)
		for range 8 {
			p := playingGame(random, parted(table))
			if impl.GameBits(p) < deep || impl.GameEnds(p) < size {
				t.Errorf("%q plays the game of %q with %d bits and %d ends, fewer than %d and %d", p, table, impl.GameBits(p), impl.GameEnds(p), deep, size)
			}
		}
	}
	for _, f := range someFormulas() {
		p, _ := impl.FormulaGame(f)
		table, _ := impl.TableOf(f, 3)
		if impl.GameBits(p) < impl.LeastGameBits(table) || impl.GameEnds(p) < impl.LeastGameEnds(table) {
			t.Errorf("the game of %q has %d bits and %d ends", f, impl.GameBits(p), impl.GameEnds(p))
		}
	}
}

// The game of the dual of a formula is that of the formula with both players exchanged.
func TestGamesOfDuals(t *testing.T) {
	exchange := strings.NewReplacer("A", "B", "B", "A")
	for _, f := range someFormulas() {
		dual, _ := impl.DualFormula(f)
		p, _ := impl.FormulaGame(f)
		q, _ := impl.FormulaGame(dual)
		if q != exchange.Replace(p) {
			t.Errorf("the games of %q and its dual are %q and %q", f, p, q)
		}
		for x := range 8 {
			bits, bit := impl.GameTalk(p, x, 7-x)
			if said, found := impl.GameTalk(q, 7-x, x); said != bits || found != bit {
				t.Errorf("GameTalk(%q, %d, %d) = %q, %d, want %q, %d", q, 7-x, x, said, found, bits, bit)
			}
		}
	}
}
