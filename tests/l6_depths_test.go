package tests

import (
	"fmt"
	"math"
	"math/bits"
	"math/rand"
	"slices"
	"strconv"
	"strings"
	"testing"

	"loop.example/twoplayers/impl"
)

// What protocols cost, as indices of costs.
const (
	inBits = iota
	inEnds
)

// A costPair has a number of bits and a number of ends.
type costPair [2]int

// joined returns what a first bit costs with what follows it.
func joined(zero costPair, one costPair) costPair {
	return costPair{1 + max(zero[inBits], one[inBits]), zero[inEnds] + one[inEnds]}
}

// reachedBy returns what is left of a rectangle when a bit is said with a set.
func reachedBy(r impl.Rect, who byte, set int, bit int) impl.Rect {
	if bit == 0 {
		set ^= 255
	}
	if who == 'A' {
		r.Rows &= set
	} else {
		r.Cols &= set
	}
	return r
}

// isSaid reports whether a bit is 0 for some inputs of a rectangle, and 1 for some.
func isSaid(r impl.Rect, who byte, set int) bool {
	return impl.AreaOf(reachedBy(r, who, set, 0)) > 0 && impl.AreaOf(reachedBy(r, who, set, 1)) > 0
}

// A costTable has the least costs for each rectangle of a matrix.
type costTable map[impl.Rect]costPair

// newCostTable finds costs from those of lesser rectangles, which stand before them.
func newCostTable(m impl.Matrix) costTable {
	table := costTable{}
	for _, r := range rectsWithin(m.Rows, m.Cols) {
		if isPlain(m, r, 0) || isPlain(m, r, 1) {
			table[r] = costPair{0, 1}
			continue
		}
		least := costPair{math.MaxInt, math.MaxInt}
		for set := 1; set < 1<<max(m.Rows, m.Cols); set++ {
			for _, who := range []byte("AB") {
				if isSaid(r, who, set) {
					cost := joined(table[reachedBy(r, who, set, 0)], table[reachedBy(r, who, set, 1)])
					least = costPair{min(least[inBits], cost[inBits]), min(least[inEnds], cost[inEnds])}
				}
			}
		}
		table[r] = least
	}
	return table
}

// bestText follows the definition of BestProtocol, or of FewestEnds, in a rectangle.
func (c costTable) bestText(m impl.Matrix, r impl.Rect, kind int) string {
	for bit := range 2 {
		if isPlain(m, r, bit) {
			return strconv.Itoa(bit)
		}
	}
	for _, who := range []byte("AB") {
		inputs := r.Rows
		if who == 'B' {
			inputs = r.Cols
		}
		for set := 1; set < inputs; set++ {
			if set&^inputs != 0 || set>>numbersOf(inputs)[0]&1 == 1 {
				continue
			}
			zero, one := reachedBy(r, who, set, 0), reachedBy(r, who, set, 1)
			if joined(c[zero], c[one])[kind] == c[r][kind] {
				return fmt.Sprintf("%c%02x%s%s", who, set, c.bestText(m, zero, kind), c.bestText(m, one, kind))
			}
		}
	}
	return "none"
}

func wholeOf(m impl.Matrix) impl.Rect { return impl.Rect{Rows: 1<<m.Rows - 1, Cols: 1<<m.Cols - 1} }

// checkBest checks the least numbers of a matrix and both protocols that have them.
func checkBest(t *testing.T, m impl.Matrix) {
	t.Helper()
	table, all := newCostTable(m), wholeOf(m)
	if n := impl.LeastBits(m); n != table[all][inBits] {
		t.Errorf("LeastBits(%+v) = %d, want %d", m, n, table[all][inBits])
	}
	if n := impl.LeastEnds(m); n != table[all][inEnds] {
		t.Errorf("LeastEnds(%+v) = %d, want %d", m, n, table[all][inEnds])
	}
	p, ok := impl.BestProtocol(m)
	wantProtocol(t, fmt.Sprintf("BestProtocol(%+v)", m), p, ok, table.bestText(m, all, inBits))
	if impl.BitsOf(p) != table[all][inBits] || !impl.Computes(p, m) {
		t.Errorf("BestProtocol(%+v) = %q says %d bits, Computes is %v", m, p, impl.BitsOf(p), impl.Computes(p, m))
	}
	q, ok := impl.FewestEnds(m)
	wantProtocol(t, fmt.Sprintf("FewestEnds(%+v)", m), q, ok, table.bestText(m, all, inEnds))
	if impl.LeavesOf(q) != table[all][inEnds] || !impl.Computes(q, m) {
		t.Errorf("FewestEnds(%+v) = %q has %d ends, Computes is %v", m, q, impl.LeavesOf(q), impl.Computes(q, m))
	}
	for _, text := range []string{p, q} {
		trimmed, ok := impl.TrimProtocol(text, m.Rows, m.Cols)
		wantProtocol(t, "TrimProtocol", trimmed, ok, text)
	}
}

func TestLeastNumbersAndBestProtocols(t *testing.T) {
	for _, m := range exactMatrices() {
		checkBest(t, m)
	}
}

// saidSets returns the entries of a matrix of so many rows and columns for which a bit is 1, for each first bit.
func saidSets(rows int, cols int) []entrySet {
	var list []entrySet
	full := fullMatrix(rows, cols, "0")
	for set := range 1 << rows {
		list = append(list, entriesOf(full, impl.Rect{Rows: set, Cols: 1<<cols - 1}))
	}
	for set := range 1 << cols {
		list = append(list, entriesOf(full, impl.Rect{Rows: 1<<rows - 1, Cols: set}))
	}
	return list
}

// foundWithBits returns for all matrices of so many rows and columns, told by their ones, the least number of
// bits with which a protocol finds them: each one is put together of any two that are found with fewer.
func foundWithBits(rows int, cols int) map[entrySet]int {
	found := map[entrySet]int{0: 0, 1<<(rows*cols) - 1: 0}
	for count := 1; len(found) < 1<<(rows*cols); count++ {
		var before []entrySet
		for m := range found {
			before = append(before, m)
		}
		for _, said := range saidSets(rows, cols) {
			for _, zero := range before {
				for _, one := range before {
					if m := zero&^said | one&said; !slices.Contains(before, m) {
						found[m] = count
					}
				}
			}
		}
	}
	return found
}

// foundWithEnds returns the least numbers of ends in the same way.
func foundWithEnds(rows int, cols int) map[entrySet]int {
	found := map[entrySet]int{0: 1, 1<<(rows*cols) - 1: 1}
	with := [][]entrySet{nil, {0, 1<<(rows*cols) - 1}}
	for len(found) < 1<<(rows*cols) {
		count := len(with)
		with = append(with, nil)
		for few := 1; few < count; few++ {
			for _, zero := range with[few] {
				for _, one := range with[count-few] {
					for _, said := range saidSets(rows, cols) {
						m := zero&^said | one&said
						if _, ok := found[m]; !ok {
							found[m] = count
							with[count] = append(with[count], m)
						}
					}
				}
			}
		}
	}
	return found
}

// TestLeastNumbersOfAllProtocols checks least numbers against protocols with all sets, without rectangles.
func TestLeastNumbersOfAllProtocols(t *testing.T) {
	withBits, withEnds := map[[2]int]map[entrySet]int{}, map[[2]int]map[entrySet]int{}
	for rows := 1; rows <= 3; rows++ {
		for cols := 1; cols <= 3; cols++ {
			size := [2]int{rows, cols}
			withBits[size], withEnds[size] = foundWithBits(rows, cols), foundWithEnds(rows, cols)
		}
	}
	for _, m := range smallMatrices() {
		size := [2]int{m.Rows, m.Cols}
		if n, want := impl.LeastBits(m), withBits[size][entriesWith(m, 1)]; n != want {
			t.Errorf("LeastBits(%+v) = %d, want %d", m, n, want)
		}
		if n, want := impl.LeastEnds(m), withEnds[size][entriesWith(m, 1)]; n != want {
			t.Errorf("LeastEnds(%+v) = %d, want %d", m, n, want)
		}
	}
}

func TestBestTexts(t *testing.T) {
	for _, c := range []struct {
		name       string
		m          string
		bits, ends int
		best, few  string
	}{
		{"one entry 0", "0", 0, 1, "0", "0"},
		{"one entry 1", "1", 0, 1, "1", "1"},
		{"a plain matrix", "000/000", 0, 1, "0", "0"},
		{"the greatest plain matrix", "11111/11111/11111/11111/11111", 0, 1, "1", "1"},
		{"only b knows", "01/01", 1, 2, "B0201", "B0201"},
		{"only a knows", "0/1", 1, 2, "A0201", "A0201"},
		{"the least row says 0", "1/0", 1, 2, "A0210", "A0210"},
		{"the set of all other rows", "1/0/0/0/0", 1, 2, "A1e10", "A1e10"},
		{"the least column says 0", "10000", 1, 2, "B1e10", "B1e10"},
		{"the set without the least row", "101/010/101/010", 2, 4, "A0aB0210B0201", "A0aB0210B0201"},
		{"a set of the last ones", "00011", 1, 2, "B1801", "B1801"},
		{"a before b", "01/10", 2, 4, "A02B0201B0210", "A02B0201B0210"},
		{"b before a second bit of a", "00/01", 2, 3, "A020B0201", "A020B0201"},
		{"b first", "01/01/00", 2, 3, "A04B02010", "A04B02010"},
		{"equal rows together", "100/011/100", 2, 4, "A02B0610B0601", "A02B0610B0601"},
		// The first set with few bits is 6; with 2, 3 bits have no more ends.
		{"fewer bits with as many ends", "100/111/000", 2, 4, "A06B0610A0410", "A02A04B061001"},
		{"fewer ends with as many bits", "110/010/100", 3, 5, "A02A04B0410B0610B0201", "B02A02B04100A0410"},
		{"fewer ends with more bits", "1111/1011/0011/1000", 3, 6, "A06A081B0e10A04B0210B0c01", "A0e1B02B0cA0410A08100"},
		{"sets of five", "100/101/111/010/001", 3, 6, "A0eA10B0610B0401B02A0810A0c01", "B02B04A1810A1601A0c01"},
	} {
		m := matrix(t, c.m)
		if n := impl.LeastBits(m); n != c.bits {
			t.Errorf("%s: LeastBits(%q) = %d, want %d", c.name, c.m, n, c.bits)
		}
		if n := impl.LeastEnds(m); n != c.ends {
			t.Errorf("%s: LeastEnds(%q) = %d, want %d", c.name, c.m, n, c.ends)
		}
		p, ok := impl.BestProtocol(m)
		wantProtocol(t, c.name+": BestProtocol", p, ok, c.best)
		p, ok = impl.FewestEnds(m)
		wantProtocol(t, c.name+": FewestEnds", p, ok, c.few)
	}
}

func TestLeastNumbersOfFamilies(t *testing.T) {
	for _, c := range []struct {
		name string
		make func(int) (impl.Matrix, bool)
		n    int
		bits int
		ends int
	}{
		{"EqualMatrix", impl.EqualMatrix, 1, 0, 1},
		{"EqualMatrix", impl.EqualMatrix, 2, 2, 4},
		{"EqualMatrix", impl.EqualMatrix, 3, 3, 6},
		{"EqualMatrix", impl.EqualMatrix, 4, 3, 8},
		{"EqualMatrix", impl.EqualMatrix, 5, 4, 10},
		{"EqualMatrix", impl.EqualMatrix, 6, -1, -1},
		{"GreaterMatrix", impl.GreaterMatrix, 1, 0, 1},
		{"GreaterMatrix", impl.GreaterMatrix, 2, 2, 3},
		{"GreaterMatrix", impl.GreaterMatrix, 3, 3, 5},
		{"GreaterMatrix", impl.GreaterMatrix, 4, 3, 7},
		{"GreaterMatrix", impl.GreaterMatrix, 5, 4, 9},
		{"DisjointMatrix", impl.DisjointMatrix, 0, 0, 1},
		{"DisjointMatrix", impl.DisjointMatrix, 1, 2, 3},
		{"DisjointMatrix", impl.DisjointMatrix, 2, 3, 7},
		{"DisjointMatrix", impl.DisjointMatrix, 3, -1, -1},
		{"IndexMatrix", impl.IndexMatrix, 1, 1, 2},
		{"IndexMatrix", impl.IndexMatrix, 2, 2, 4},
		{"IndexMatrix", impl.IndexMatrix, 3, -1, -1},
	} {
		m, _ := c.make(c.n)
		if bits, ends := impl.LeastBits(m), impl.LeastEnds(m); bits != c.bits || ends != c.ends {
			t.Errorf("%s(%d): LeastBits %d, LeastEnds %d, want %d, %d", c.name, c.n, bits, ends, c.bits, c.ends)
		}
	}
}

// lowerBounds follows the definition of LowerBounds with what the tests of the chapters before find.
func lowerBounds(m impl.Matrix) []int {
	fooling, covers, ranks := 0, 0, 0
	for bit := range 2 {
		fooling += len(greatestFooling(m, bit))
		covers += newPieceCount(m, plainRects(m, bit), false).of(entriesWith(m, bit))
		ranks += minorsOf(entriesOver([]impl.Matrix{m, otherOf(m)}[bit], 0)).rank(m.Rows)
	}
	return []int{bits.Len(uint(fooling - 1)), bits.Len(uint(ranks - 1)), bits.Len(uint(covers - 1))}
}

func TestLowerBounds(t *testing.T) {
	for _, m := range exactMatrices() {
		if got, want := impl.LowerBounds(m), lowerBounds(m); !slices.Equal(got, want) {
			t.Errorf("LowerBounds(%+v) = %v, want %v", m, got, want)
		}
	}
	for _, c := range []struct {
		name string
		m    string
		want []int
	}{
		{"one entry", "0", []int{0, 0, 0}},
		{"a plain matrix", "11111/11111/11111/11111/11111", []int{0, 0, 0}},
		{"both values", "01", []int{1, 1, 1}},
		{"equal inputs", "1000/0100/0010/0001", []int{3, 3, 3}},
		{"a greater rank", "00010/00010/00000/00000/10100", []int{2, 3, 2}},
		{"a lesser fooling set", "00100/10100/00011/00010/01100", []int{3, 4, 4}},
		{"a lesser rank", "01110/10001/01001/01010/10010", []int{4, 3, 4}},
		{"a rank alone", "11110/10100/00011/01111/10001", []int{3, 4, 3}},
	} {
		if got := impl.LowerBounds(matrix(t, c.m)); !slices.Equal(got, c.want) {
			t.Errorf("%s: LowerBounds(%q) = %v, want %v", c.name, c.m, got, c.want)
		}
	}
}

func TestLowerBoundsAreNew(t *testing.T) {
	m, _ := impl.EqualMatrix(4)
	for range 2 {
		list := impl.LowerBounds(m)
		if !slices.Equal(list, []int{3, 3, 3}) {
			t.Errorf("LowerBounds = %v", list)
		}
		clear(list[:cap(list)])
	}
}

// checkNoLeast checks the results for a matrix of which least numbers are not told.
func checkNoLeast(t *testing.T, name string, m impl.Matrix) {
	t.Helper()
	if bits, ends := impl.LeastBits(m), impl.LeastEnds(m); bits != -1 || ends != -1 {
		t.Errorf("%s: LeastBits and LeastEnds are %d and %d", name, bits, ends)
	}
	p, ok := impl.BestProtocol(m)
	wantProtocol(t, name+": BestProtocol", p, ok, "")
	p, ok = impl.FewestEnds(m)
	wantProtocol(t, name+": FewestEnds", p, ok, "")
	if list := impl.LowerBounds(m); len(list) != 0 {
		t.Errorf("%s: LowerBounds are %v", name, list)
	}
}

func TestLeastNumbersOfInvalidMatrices(t *testing.T) {
	for name, m := range invalidMatrices() {
		checkNoLeast(t, name, m)
	}
}

func TestSizesOfLeastNumbers(t *testing.T) {
	random := rand.New(rand.NewSource(12))
	for rows := 1; rows <= 8; rows++ {
		for cols := 1; cols <= 8; cols++ {
			list := []impl.Matrix{fullMatrix(rows, cols, "0"), fullMatrix(rows, cols, "1"), randomMatrix(random, rows, cols, 50)}
			for _, m := range list {
				if rows <= 5 && cols <= 5 {
					checkBest(t, m)
				} else {
					checkNoLeast(t, fmt.Sprintf("%+v", m), m)
				}
			}
		}
	}
}

// firstWord returns the first bit or the end with which a text begins, and what is behind it.
func firstWord(p string) (string, string) {
	if p[0] == 'A' || p[0] == 'B' {
		return p[:3], p[3:]
	}
	return p[:1], p[1:]
}

// firstPart returns the protocol with which a text begins: the ends are one more than the bits before them.
func firstPart(p string) string {
	rest := p
	for missing := 1; missing > 0; {
		var word string
		if word, rest = firstWord(rest); len(word) == 1 {
			missing--
		} else {
			missing++
		}
	}
	return p[:len(p)-len(rest)]
}

// partsOf returns the first bit of a protocol and both protocols that follow it.
func partsOf(p string) (who byte, set int, zero string, one string) {
	word, rest := firstWord(p)
	n, _ := strconv.ParseUint(word[1:], 16, 8)
	zero = firstPart(rest)
	return word[0], int(n), zero, rest[len(zero):]
}

// endsOf returns the number of ends of a protocol, which has one bit less, of three bytes each.
func endsOf(p string) int { return (len(p) + 3) / 4 }

// trimmedWithin returns a protocol without the bits that are the same for all inputs of a rectangle.
func trimmedWithin(p string, r impl.Rect) string {
	if endsOf(p) == 1 {
		return p
	}
	who, set, zero, one := partsOf(p)
	out, in := reachedBy(r, who, set, 0), reachedBy(r, who, set, 1)
	if impl.AreaOf(in) < 0 {
		return trimmedWithin(zero, r)
	}
	if impl.AreaOf(out) < 0 {
		return trimmedWithin(one, r)
	}
	said := in.Rows
	if who == 'B' {
		said = in.Cols
	}
	return fmt.Sprintf("%c%02x%s%s", who, said, trimmedWithin(zero, out), trimmedWithin(one, in))
}

// heavyPart follows the definition of HeavyRect for a protocol that is trimmed in a rectangle. It returns where
// the part begins, where it ends, and the rectangle of the inputs that reach it.
func heavyPart(p string, r impl.Rect) (int, int, impl.Rect) {
	from, part := 0, p
	for 3*endsOf(part) > 2*endsOf(p) {
		who, set, zero, one := partsOf(part)
		if endsOf(one) > endsOf(zero) {
			from, part, r = from+3+len(zero), one, reachedBy(r, who, set, 1)
		} else {
			from, part, r = from+3, zero, reachedBy(r, who, set, 0)
		}
	}
	return from, from + len(part), r
}

// balancedText follows the definition of BalanceProtocol in a rectangle.
func balancedText(p string, r impl.Rect) string {
	p = trimmedWithin(p, r)
	if endsOf(p) <= 2 {
		return p
	}
	from, end, q := heavyPart(p, r)
	inside, outside := balancedText(p[from:end], q), balancedText(p[:from]+"0"+p[end:], r)
	byRows, byCols := fmt.Sprintf("A%02x%s", q.Rows, outside), fmt.Sprintf("B%02x%s", q.Cols, outside)
	if q.Cols == r.Cols {
		return byRows + inside
	}
	if q.Rows == r.Rows {
		return byCols + inside
	}
	return byRows + byCols + inside
}

// balancedMost returns the most bits and ends that are found for a protocol before it is trimmed again, for each
// number of its ends.
func balancedMost() []costPair {
	most := []costPair{{}, {0, 1}, {1, 2}}
	for ends := 3; ends <= 16; ends++ {
		var greatest costPair
		for part := ends/3 + 1; 3*part <= 2*ends; part++ {
			outside, inside := most[ends-part+1], most[part]
			greatest[inBits] = max(greatest[inBits], 2+max(outside[inBits], inside[inBits]))
			greatest[inEnds] = max(greatest[inEnds], 2*outside[inEnds]+inside[inEnds])
		}
		most = append(most, greatest)
	}
	return most
}

// checkHeavy checks HeavyRect of a protocol that becomes another one when it is trimmed.
func checkHeavy(t *testing.T, p string, trimmed string, rows int, cols int) {
	t.Helper()
	name := fmt.Sprintf("HeavyRect(%q, %d, %d)", p, rows, cols)
	q, ok := impl.HeavyRect(p, rows, cols)
	if endsOf(trimmed) == 1 {
		wantRect(t, name, q, ok, "")
		return
	}
	_, _, want := heavyPart(trimmed, impl.Rect{Rows: 1<<rows - 1, Cols: 1<<cols - 1})
	wantRect(t, name, q, ok, impl.FormatRect(want))
	inside, all := 0, impl.LeafRects(p, rows, cols)
	for _, r := range all {
		if isInside(r, q) {
			inside++
		}
	}
	if 3*inside > 2*len(all) || 3*inside <= len(all) {
		t.Errorf("%s = %s has %d of %d ends", name, impl.FormatRect(q), inside, len(all))
	}
}

// checkBalanced checks BalanceProtocol of a protocol that becomes another one when it is trimmed.
func checkBalanced(t *testing.T, p string, trimmed string, rows int, cols int) {
	t.Helper()
	name := fmt.Sprintf("BalanceProtocol(%q, %d, %d)", p, rows, cols)
	q, ok := impl.BalanceProtocol(p, rows, cols)
	ends := endsOf(trimmed)
	if ends > 16 {
		wantProtocol(t, name, q, ok, "")
		return
	}
	all := impl.Rect{Rows: 1<<rows - 1, Cols: 1<<cols - 1}
	found, most := balancedText(p, all), balancedMost()[ends]
	wantProtocol(t, name, q, ok, trimmedWithin(found, all))
	m, _ := impl.MatrixOf(p, rows, cols)
	if !impl.Computes(q, m) {
		t.Errorf("%s = %q finds other values than %s", name, q, impl.FormatMatrix(m))
	}
	if n := impl.BitsOf(q); n > most[inBits] || endsOf(found) > most[inEnds] {
		t.Errorf("%s = %q says %d bits and has %d ends before it is trimmed, more than %v", name, q, n, endsOf(found), most)
	}
	again, ok := impl.TrimProtocol(q, rows, cols)
	wantProtocol(t, "TrimProtocol of "+name, again, ok, q)
}

// checkHeavyAndBalanced checks both functions for a protocol and so many rows and columns.
func checkHeavyAndBalanced(t *testing.T, p string, rows int, cols int) {
	t.Helper()
	trimmed, _ := impl.TrimProtocol(p, rows, cols)
	checkHeavy(t, p, trimmed, rows, cols)
	checkBalanced(t, p, trimmed, rows, cols)
}

// splitProtocol returns a protocol that is trimmed in a rectangle and has so many ends, at most one for each entry.
func splitProtocol(random *rand.Rand, r impl.Rect, ends int) string {
	if ends == 1 {
		return strconv.Itoa(random.Intn(2))
	}
	for {
		who, set, few := "AB"[random.Intn(2)], random.Intn(256), 1+random.Intn(ends-1)*random.Intn(2)
		out, in := reachedBy(r, who, set, 0), reachedBy(r, who, set, 1)
		if impl.AreaOf(out) >= ends-few && impl.AreaOf(in) >= few {
			p := fmt.Sprintf("%c%02x%s%s", who, set, splitProtocol(random, out, ends-few), splitProtocol(random, in, few))
			return trimmedWithin(p, r)
		}
	}
}

// stairs returns a protocol with so many ends, up to 15, in which a and b say in turns whether their input is the next one.
func stairs(ends int) string {
	p := strconv.Itoa((ends - 1) % 2)
	for k := ends - 2; k >= 0; k-- {
		p = fmt.Sprintf("%c%02x%d%s", "AB"[k%2], 254<<(k/2)&255, k%2, p)
	}
	return p
}

func TestHeavyRectAndBalanceProtocol(t *testing.T) {
	for _, p := range someProtocols() {
		for _, size := range sidesFor(p) {
			checkHeavyAndBalanced(t, p, size[0], size[1])
		}
	}
	random := rand.New(rand.NewSource(13))
	for _, size := range [][2]int{{8, 8}, {8, 1}, {1, 8}, {5, 5}, {3, 7}, {6, 2}, {2, 2}} {
		for ends := 1; ends <= min(20, size[0]*size[1]); ends++ {
			for range 15 {
				p := splitProtocol(random, impl.Rect{Rows: 1<<size[0] - 1, Cols: 1<<size[1] - 1}, ends)
				checkHeavyAndBalanced(t, p, size[0], size[1])
				checkHeavyAndBalanced(t, p, 1+random.Intn(8), 1+random.Intn(8))
			}
		}
	}
	for ends := 2; ends <= 15; ends++ {
		for rows := 1; rows <= 8; rows++ {
			checkHeavyAndBalanced(t, stairs(ends), rows, 9-rows)
			checkHeavyAndBalanced(t, stairs(ends), rows, rows)
		}
	}
}

func TestEndsThatCanBeBalanced(t *testing.T) {
	all := impl.Rect{Rows: 255, Cols: 255}
	random := rand.New(rand.NewSource(14))
	for ends := 1; ends <= 64; ends++ {
		p := splitProtocol(random, all, ends)
		if impl.LeavesOf(p) != ends || len(impl.LeafRects(p, 8, 8)) != ends {
			t.Fatalf("splitProtocol makes %q with %d ends", p, impl.LeavesOf(p))
		}
		// What is never said does not count, as long as the text is not too long.
		for _, text := range []string{p, strings.Repeat("Aff0", 20) + p, strings.Repeat("B00", 400) + p + strings.Repeat("1", 400)} {
			if q, ok := impl.BalanceProtocol(text, 8, 8); ok != (ends <= 16) {
				t.Errorf("BalanceProtocol(%q, 8, 8) = %q, %v with %d ends", text, q, ok, ends)
			}
			checkHeavyAndBalanced(t, text, 8, 8)
		}
	}
	for _, p := range []string{leftChain(499), rightChain(499), strings.Repeat("Aff0", 484) + splitProtocol(random, all, 16)} {
		if len(p) != 1997 {
			t.Errorf("%d bytes", len(p))
		}
		q, ok := impl.BalanceProtocol(p, 8, 8)
		if m, _ := impl.MatrixOf(p, 8, 8); !ok || !impl.Computes(q, m) {
			t.Errorf("BalanceProtocol(%q, 8, 8) = %q, %v", p, q, ok)
		}
		if q, ok := impl.BalanceProtocol(p+"0000", 8, 8); q != "" || ok {
			t.Errorf("BalanceProtocol of 2001 bytes = %q, %v", q, ok)
		}
	}
}

// TestBalancedAreNeverTooLong checks that no result is past the limit, not even before it is trimmed again, when
// it has at most one end for each input.
func TestBalancedAreNeverTooLong(t *testing.T) {
	random := rand.New(rand.NewSource(18))
	if most := balancedMost()[16]; 4*most[inEnds]-3 > impl.MaxProtocol {
		t.Errorf("16 ends become %d", most[inEnds])
	}
	longest := 0
	for range 2000 {
		p := splitProtocol(random, impl.Rect{Rows: 255, Cols: 255}, 16)
		q, ok := impl.BalanceProtocol(p, 8, 8)
		if !ok || !impl.ProtocolValid(q) || impl.LeavesOf(q) > 64 {
			t.Errorf("BalanceProtocol(%q, 8, 8) = %q, %v", p, q, ok)
		}
		longest = max(longest, len(q))
	}
	if longest <= 61 {
		t.Errorf("no result is longer than 16 ends, but at most %d bytes", longest)
	}
}

// A sidedText has a protocol, numbers of rows and columns, and the text of what a function finds for them.
type sidedText struct {
	name       string
	p          string
	rows, cols int
	want       string
}

func TestHeavyTexts(t *testing.T) {
	for _, c := range []sidedText{
		{"an end", "0", 2, 2, ""},
		{"one end once it is trimmed", "A0401", 2, 2, ""},
		{"one entry", "A02B0101B0201", 1, 1, ""},
		{"two ends: the first one", "A0201", 2, 2, "0:01"},
		{"two ends of b", "B0310", 1, 3, "0:2"},
		{"two of three", "A020B0201", 2, 2, "1:01"},
		{"two of three first", "A02B02010", 2, 2, "0:01"},
		{"as many: the first one", "A02B0101B0201", 2, 2, "0:01"},
		{"four of five, and as many further on", "A1e0A18A0401A1001", 5, 1, "12:0"},
		{"four of six", "A0cA0201A08B0201B0210", 4, 2, "23:01"},
		{"five of six", "A0e0A0cB0201A08B02010", 4, 2, "23:01"},
		{"five of seven", "A0cA0201A08B0201B04B02010", 4, 3, "3:012"},
		{"three of four", "A0e0B0e1A0c01", 4, 4, "123:123"},
		{"a chain", "A01A02A04A0801010", 5, 1, "234:0"},
		{"a chain of b", "B01B02B04B0801010", 1, 5, "0:234"},
		{"rows that are not there", "A80A0201B01B02B04B0801010", 2, 8, "0:01234567"},
		{"sets past the rows and columns", "Afe0Bfe01", 3, 3, "12:012"},
		{"bits that are the same for all", "A0f0Af0AfcA0201A08011", 4, 1, "01:0"},
	} {
		q, ok := impl.HeavyRect(c.p, c.rows, c.cols)
		wantRect(t, fmt.Sprintf("%s: HeavyRect(%q, %d, %d)", c.name, c.p, c.rows, c.cols), q, ok, c.want)
	}
}

func TestBalancedTexts(t *testing.T) {
	for _, c := range []sidedText{
		{"an end", "1", 2, 2, "1"},
		{"one end once it is trimmed", "A0401", 2, 2, "0"},
		{"two ends", "A0201", 2, 2, "A0201"},
		{"two ends once it is trimmed", "Af0A0601B01B02B04B0801010", 3, 8, "A0601"},
		{"two ends of b with one value", "B0311", 2, 3, "B0311"},
		{"a chain", "A01A02A04A0801010", 5, 1, "A1cA0201A180A0801"},
		{"a chain of b", "B01B02B04B0801010", 1, 5, "B1cB0201B180B0801"},
		{"as short, with the set of the first part", "A02B0101B0201", 2, 2, "A01B0201B0101"},
		{"short with three ends", "A020B0201", 2, 2, "A020B0201"},
		{"stairs of five", "A0e0B0e1A0c0B0c01", 4, 4, "A0e0B0e1A0c0B0c01"},
		{"stairs of seven", "Afe0Bfe1Afc0Bfc1Af80Bf810", 8, 8, "AfcA020Bfe10Bfe1Af8Bfc10Bfc1Bf810"},
	} {
		q, ok := impl.BalanceProtocol(c.p, c.rows, c.cols)
		wantProtocol(t, fmt.Sprintf("%s: BalanceProtocol(%q, %d, %d)", c.name, c.p, c.rows, c.cols), q, ok, c.want)
	}
}

func TestHeavyAndBalancedOfNoProtocols(t *testing.T) {
	for name, p := range noProtocols() {
		q, ok := impl.HeavyRect(p, 2, 2)
		wantRect(t, name+": HeavyRect", q, ok, "")
		b, ok := impl.BalanceProtocol(p, 2, 2)
		wantProtocol(t, name+": BalanceProtocol", b, ok, "")
	}
}

func TestHeavyAndBalancedOfNoSides(t *testing.T) {
	for _, n := range []int{math.MinInt, -8, -1, 0, 9, 10, 16, 63, 64, 65, 1 << 32, math.MaxInt} {
		for _, size := range [][2]int{{n, 1}, {1, n}, {n, 8}, {8, n}, {n, n}} {
			for _, p := range []string{"0", "A0201", "A02B0101B0201"} {
				q, ok := impl.HeavyRect(p, size[0], size[1])
				wantRect(t, fmt.Sprintf("HeavyRect(%q, %v)", p, size), q, ok, "")
				b, ok := impl.BalanceProtocol(p, size[0], size[1])
				wantProtocol(t, fmt.Sprintf("BalanceProtocol(%q, %v)", p, size), b, ok, "")
			}
		}
	}
}

// checkNoBetter checks that a protocol for so many rows and columns is no better than the least numbers of the
// matrix that it finds, and these no better than what bounds them.
func checkNoBetter(t *testing.T, p string, rows int, cols int) {
	t.Helper()
	m, _ := impl.MatrixOf(p, rows, cols)
	least, ends := impl.LeastBits(m), impl.LeastEnds(m)
	if impl.BitsOf(p) < least || impl.LeavesOf(p) < ends {
		t.Errorf("%q has %d bits and %d ends, the least numbers of %+v are %d and %d", p, impl.BitsOf(p), impl.LeavesOf(p), m, least, ends)
	}
	bounds := impl.LowerBounds(m)
	if len(bounds) != 3 || slices.Max(bounds) > least {
		t.Errorf("LowerBounds(%+v) = %v, LeastBits = %d", m, bounds, least)
	}
	// Each of these counts rectangles of which the ends of a protocol have no fewer.
	covers := impl.CoverNumber(m, 0) + impl.CoverNumber(m, 1)
	fooling := len(impl.GreatestFooling(m, 0)) + len(impl.GreatestFooling(m, 1))
	ranks := impl.RankOf(m) + impl.RankOf(otherOf(m))
	if ends < max(covers, fooling, impl.PartitionNumber(m)) || ends < ranks || impl.BitsFor(ends) > least {
		t.Errorf("%+v: LeastEnds is %d, covers have %d, fooling sets %d, ranks are %d, PartitionNumber is %d, LeastBits %d", m, ends, covers, fooling, ranks, impl.PartitionNumber(m), least)
	}
}

// TestNoProtocolIsBetter checks the promise: no protocol is better than what fooling sets, ranks and covers allow.
func TestNoProtocolIsBetter(t *testing.T) {
	random := rand.New(rand.NewSource(15))
	for _, p := range someProtocols() {
		for range 5 {
			checkNoBetter(t, p, 1+random.Intn(5), 1+random.Intn(5))
		}
	}
	for ends := 1; ends <= 25; ends++ {
		for range 20 {
			checkNoBetter(t, splitProtocol(random, impl.Rect{Rows: 31, Cols: 31}, ends), 5, 5)
		}
	}
	for _, m := range exactMatrices() {
		name, _ := impl.NameProtocol(m)
		best, _ := impl.BestProtocol(m)
		few, _ := impl.FewestEnds(m)
		for _, p := range []string{name, best, few} {
			checkNoBetter(t, p, m.Rows, m.Cols)
		}
	}
}

// TestBalancedProtocolsFindTheSame checks the promise: balanced protocols find the same values.
func TestBalancedProtocolsFindTheSame(t *testing.T) {
	random := rand.New(rand.NewSource(16))
	for range 500 {
		rows, cols := 1+random.Intn(8), 1+random.Intn(8)
		p := splitProtocol(random, impl.Rect{Rows: 1<<rows - 1, Cols: 1<<cols - 1}, 1+random.Intn(min(16, rows*cols)))
		q, ok := impl.BalanceProtocol(p, rows, cols)
		if !ok {
			t.Errorf("BalanceProtocol(%q, %d, %d) is false", p, rows, cols)
		}
		for x := range rows {
			for y := range cols {
				_, want := impl.TalkOf(p, x, y)
				if _, value := impl.TalkOf(q, x, y); value != want {
					t.Errorf("BalanceProtocol(%q, %d, %d) = %q: %d, %d find %d", p, rows, cols, q, x, y, value)
				}
			}
		}
	}
	// Chains of 14 bits become short.
	for p, most := range map[string]int{stairs(15): 9, "A01A02A04A08A10A20A40B01B02B04B08B10B20B40010101010101010": 8} {
		if q, ok := impl.BalanceProtocol(p, 8, 8); !ok || impl.BitsOf(p) != 14 || impl.BitsOf(q) > most {
			t.Errorf("BalanceProtocol(%q, 8, 8) = %q, %v, of %d bits and %d", p, q, ok, impl.BitsOf(p), impl.BitsOf(q))
		}
	}
}

// TestLeastNumbersOfChangedMatrices checks that other orders, values and sides need as much, and parts no more.
func TestLeastNumbersOfChangedMatrices(t *testing.T) {
	random := rand.New(rand.NewSource(17))
	for _, m := range exactMatrices() {
		least, ends := impl.LeastBits(m), impl.LeastEnds(m)
		turned, _ := impl.TurnMatrix(m)
		shrunk, _ := impl.ShrinkMatrix(m)
		mixed, _ := impl.PickMatrix(m, random.Perm(m.Rows), random.Perm(m.Cols))
		for _, n := range []impl.Matrix{turned, shrunk, mixed, otherOf(m)} {
			if impl.LeastBits(n) != least || impl.LeastEnds(n) != ends {
				t.Errorf("LeastBits and LeastEnds of %+v are %d and %d, of %+v %d and %d", m, least, ends, n, impl.LeastBits(n), impl.LeastEnds(n))
			}
		}
		part, _ := impl.PickMatrix(m, indicesOf(random, 5, m.Rows), indicesOf(random, 5, m.Cols))
		if impl.LeastBits(part) > least || impl.LeastEnds(part) > ends {
			t.Errorf("LeastBits and LeastEnds of %+v are %d and %d, of its part %+v %d and %d", m, least, ends, part, impl.LeastBits(part), impl.LeastEnds(part))
		}
	}
}
