package tests

import (
	"fmt"
	"maps"
	"math"
	"math/bits"
	"math/rand"
	"slices"
	"strings"
	"testing"

	"loop.example/twoplayers/impl"
)

// noInputs returns numbers that are no row and no column of any matrix.
func noInputs() []int {
	return []int{-1, -2, -8, 8, 9, 16, 31, 32, 63, 64, 65, 255, 256, 1 << 32, math.MaxInt, math.MinInt, math.MinInt + 1}
}

// inputsIn returns the columns or the rows of a rectangle.
func inputsIn(r impl.Rect, cols bool) int {
	if cols {
		return r.Cols
	}
	return r.Rows
}

// liveRects follows the definition of LiveRects.
func liveRects(list []impl.Rect, r impl.Rect, cols bool) []impl.Rect {
	var live []impl.Rect
	for _, s := range list {
		if inputsIn(s, cols)&inputsIn(r, cols) != 0 {
			live = append(live, s)
		}
	}
	return live
}

// choiceOf follows the definition of ChoiceOf.
func choiceOf(ones []impl.Rect, live []impl.Rect, input int, cols bool) int {
	for i, r := range ones {
		if slices.Contains(numbersOf(inputsIn(r, cols)), input) && 2*len(liveRects(live, r, cols)) <= len(live) {
			return i
		}
	}
	return -1
}

// randomRects returns rectangles within so many rows and columns, some of them more than once.
func randomRects(random *rand.Rand, count int, rows int, cols int) []impl.Rect {
	var list []impl.Rect
	for len(list) < count {
		r := impl.Rect{Rows: 1 + random.Intn(1<<rows-1), Cols: 1 + random.Intn(1<<cols-1)}
		// Rectangles with few rows and columns have nothing in common with many others.
		for random.Intn(2) == 0 {
			r = impl.Rect{Rows: 1 << numbersOf(r.Rows)[0], Cols: r.Cols & -r.Cols}
		}
		list = append(list, r)
		if random.Intn(8) == 0 {
			list = append(list, list[random.Intn(len(list))])
		}
	}
	return list[:count]
}

// someLists returns lists of rectangles of all lengths up to 12.
func someLists() [][]impl.Rect {
	random := rand.New(rand.NewSource(22))
	var lists [][]impl.Rect
	for count := range 13 {
		for range 20 {
			lists = append(lists, randomRects(random, count, 1+random.Intn(8), 1+random.Intn(8)))
		}
	}
	return lists
}

// withRect returns the list with another rectangle at a place.
func withRect(list []impl.Rect, at int, r impl.Rect) []impl.Rect {
	return slices.Insert(slices.Clone(list), at, r)
}

// checkProofs checks what is found in a list for all rows and columns, and beyond them.
func checkProofs(t *testing.T, list []impl.Rect) {
	t.Helper()
	for x := -1; x <= 9; x++ {
		for y := -1; y <= 9; y++ {
			first := -1
			for proof := -1; proof <= len(list)+1; proof++ {
				row, col := false, false
				if proof >= 0 && proof < len(list) {
					row, col = slices.Contains(numbersOf(list[proof].Rows), x), slices.Contains(numbersOf(list[proof].Cols), y)
				}
				if impl.AcceptsRow(list, proof, x) != row || impl.AcceptsCol(list, proof, y) != col {
					t.Fatalf("AcceptsRow(%s, %d, %d) is not %v or AcceptsCol(.., %d) is not %v", formatRects(list), proof, x, row, y, col)
				}
				if row && col && first < 0 {
					first = proof
				}
			}
			if n := impl.ProofOf(list, x, y); n != first {
				t.Fatalf("ProofOf(%s, %d, %d) = %d, want %d", formatRects(list), x, y, n, first)
			}
		}
	}
}

func TestProofs(t *testing.T) {
	for _, list := range someLists() {
		checkProofs(t, list)
	}
	for _, c := range []struct {
		name string
		list string
		x, y int
		want int
	}{
		{"no rectangles", "", 0, 0, -1},
		{"the only one", "0:0", 0, 0, 0},
		{"another row", "0:0", 1, 0, -1},
		{"another column", "0:0", 0, 1, -1},
		{"the first of two", "01:0 0:01", 0, 0, 0},
		{"the second of two", "01:0 0:01", 0, 1, 1},
		{"the row of one and the column of another", "0:0 1:1", 0, 1, -1},
		{"the same one twice", "1:1 0:0 0:0", 0, 0, 1},
		{"the last row and column", "0:0 7:7", 7, 7, 1},
		{"beyond them", "01234567:01234567", 8, 7, -1},
		{"the tenth", "0:0 0:0 0:0 0:0 0:0 0:0 0:0 0:0 0:0 3:4 3:4", 3, 4, 9},
	} {
		if n := impl.ProofOf(rects(t, c.list), c.x, c.y); n != c.want {
			t.Errorf("%s: ProofOf(%s, %d, %d) = %d, want %d", c.name, c.list, c.x, c.y, n, c.want)
		}
	}
}

func TestProofsOfOtherArguments(t *testing.T) {
	list := rects(t, "01234567:01234567 0:01234567 01234567:0 7:7")
	for _, n := range noInputs() {
		if impl.ProofOf(list, n, 0) != -1 || impl.ProofOf(list, 0, n) != -1 || impl.ProofOf(list, n, n) != -1 {
			t.Errorf("ProofOf knows the row or the column %d", n)
		}
		for proof := range list {
			if impl.AcceptsRow(list, proof, n) || impl.AcceptsCol(list, proof, n) {
				t.Errorf("AcceptsRow or AcceptsCol of %d and %d", proof, n)
			}
		}
	}
	for _, proof := range []int{-1, -2, -4, 4, 5, 8, 256, 1 << 32, math.MaxInt, math.MinInt} {
		for i := range 8 {
			if impl.AcceptsRow(list, proof, i) || impl.AcceptsCol(list, proof, i) || impl.AcceptsRow(nil, proof, i) || impl.AcceptsCol(nil, proof, i) {
				t.Errorf("AcceptsRow or AcceptsCol of %d and %d", proof, i)
			}
		}
	}
	if impl.AcceptsRow(nil, 0, 0) || impl.AcceptsCol([]impl.Rect{}, 0, 0) || impl.ProofOf(nil, 0, 0) != -1 || impl.ProofOf([]impl.Rect{}, 0, 0) != -1 {
		t.Error("proofs of empty lists")
	}
}

// TestProofsBesideNoRects checks that what is no rectangle is no proof, but others of the list are.
func TestProofsBesideNoRects(t *testing.T) {
	good := rect(t, "01234567:01234567")
	for _, r := range noRects() {
		for i := range 8 {
			if n := impl.ProofOf([]impl.Rect{r}, i, i); n != -1 {
				t.Errorf("ProofOf(%+v, %d, %d) = %d", r, i, i, n)
			}
			for at := range 2 {
				list := withRect([]impl.Rect{good}, at, r)
				if n := impl.ProofOf(list, i, i); n != 1-at {
					t.Errorf("ProofOf(%+v, %d, %d) = %d, want %d", list, i, i, n, 1-at)
				}
				if impl.AcceptsRow(list, at, i) || impl.AcceptsCol(list, at, i) || !impl.AcceptsRow(list, 1-at, i) || !impl.AcceptsCol(list, 1-at, i) {
					t.Errorf("AcceptsRow or AcceptsCol of %+v and %d", list, i)
				}
			}
		}
	}
}

func TestDisjointNumber(t *testing.T) {
	for _, m := range partedMatrices() {
		both := 0
		for bit := range 2 {
			want := newPieceCount(m, plainRects(m, bit), true).of(entriesWith(m, bit))
			if n := impl.DisjointNumber(m, bit); n != want {
				t.Errorf("DisjointNumber(%+v, %d) = %d, want %d", m, bit, n, want)
			}
			if n := impl.CoverNumber(m, bit); n > want {
				t.Errorf("CoverNumber(%+v, %d) = %d, DisjointNumber is %d", m, bit, n, want)
			}
			both += want
		}
		if n := impl.PartitionNumber(m); n != both {
			t.Errorf("PartitionNumber(%+v) = %d, both values need %d", m, n, both)
		}
	}
	for s, want := range map[string][2]int{
		"0": {1, 0}, "1": {0, 1}, "01": {1, 1}, "0000/0000/0000": {1, 0}, "111111/111111": {0, 1},
		"10/01": {2, 2}, "11/10": {1, 2}, "100/010/001": {3, 3}, "000/100/110": {3, 2}, "010/111/010": {1, 2}, "101/000/101": {2, 1},
		// Two rectangles cover the value of the entry in the middle, but both have that entry.
		"110/111/011": {2, 3}, "001/000/100": {3, 2},
		"01010101": {1, 1}, "1/1/1/0/0/0/1/0": {1, 1}, "1010/0101/1010": {2, 2}, "1000/0100/0010": {3, 3},
	} {
		m := matrix(t, s)
		if got := [2]int{impl.DisjointNumber(m, 0), impl.DisjointNumber(m, 1)}; got != want {
			t.Errorf("DisjointNumber of %q = %v, want %v", s, got, want)
		}
	}
}

// TestDisjointLists checks least numbers against all lists of rectangles that have each entry with a value once.
func TestDisjointLists(t *testing.T) {
	for _, m := range smallMatrices() {
		if len(m.Bits) > 4 {
			continue
		}
		least := [2]int{100, 100}
		for _, chosen := range choicesOf(rectsWithin(m.Rows, m.Cols)) {
			for bit := range 2 {
				twice := slices.ContainsFunc(timesIn(m, chosen), func(n int) bool { return n > 1 })
				if impl.IsCover(m, bit, chosen) && !twice {
					least[bit] = min(least[bit], len(chosen))
				}
			}
		}
		if got := [2]int{impl.DisjointNumber(m, 0), impl.DisjointNumber(m, 1)}; got != least {
			t.Errorf("DisjointNumber of %+v = %v, want %v", m, got, least)
		}
	}
}

func TestDisjointNumberOfOtherArguments(t *testing.T) {
	for rows := 1; rows <= 8; rows++ {
		for cols := 1; cols <= 8; cols++ {
			for bit, digit := range []string{"0", "1"} {
				want, other := 1, 0
				if rows*cols > 12 {
					want, other = -1, -1
				}
				m := fullMatrix(rows, cols, digit)
				if n, k := impl.DisjointNumber(m, bit), impl.DisjointNumber(m, 1-bit); n != want || k != other {
					t.Errorf("DisjointNumber(%+v, ..) = %d, of the other value %d", m, n, k)
				}
				for _, no := range noBits() {
					if n := impl.DisjointNumber(m, no); n != -1 {
						t.Errorf("DisjointNumber(%+v, %d) = %d", m, no, n)
					}
				}
			}
		}
	}
	for name, m := range invalidMatrices() {
		for _, bit := range append(noBits(), 0, 1) {
			if n := impl.DisjointNumber(m, bit); n != -1 {
				t.Errorf("%s: DisjointNumber of %d = %d", name, bit, n)
			}
		}
	}
}

func TestLiveRects(t *testing.T) {
	random := rand.New(rand.NewSource(23))
	for _, list := range someLists() {
		for _, r := range append(randomRects(random, 10, 8, 8), list...) {
			for _, cols := range []bool{false, true} {
				if got, want := impl.LiveRects(list, r, cols), liveRects(list, r, cols); !slices.Equal(got, want) {
					t.Errorf("LiveRects(%s, %s, %v) = %s, want %s", formatRects(list), impl.FormatRect(r), cols, formatRects(got), formatRects(want))
				}
			}
		}
	}
	for _, c := range []struct {
		name string
		list string
		r    string
		rows string
		cols string
	}{
		{"no rectangles", "", "01:01", "", ""},
		{"the same one", "1:2", "1:2", "1:2", "1:2"},
		{"a row alone", "1:2", "1:0", "1:2", ""},
		{"a column alone", "1:2", "0:2", "", "1:2"},
		{"nothing", "1:2", "2:1", "", ""},
		{"one of some rows", "01:0 23:0", "12:7", "01:0 23:0", ""},
		{"one of some columns", "0:01 0:23", "7:12", "", "0:01 0:23"},
		{"in order", "7:0 1:1 0:7 7:0 0:1", "07:7", "7:0 0:7 7:0 0:1", "0:7"},
		{"the same one twice", "0:0 0:0 1:0", "0:1", "0:0 0:0", ""},
		{"the last row and column", "7:7 6:6", "7:7", "7:7", "7:7"},
	} {
		list, r := rects(t, c.list), rect(t, c.r)
		if rows, cols := formatRects(impl.LiveRects(list, r, false)), formatRects(impl.LiveRects(list, r, true)); rows != c.rows || cols != c.cols {
			t.Errorf("%s: LiveRects(%s, %s, ..) = %s by rows, %s by columns", c.name, c.list, c.r, rows, cols)
		}
	}
}

func TestLiveRectsOfNoRects(t *testing.T) {
	good := rects(t, "0:0 01234567:01234567 7:7")
	for _, r := range noRects() {
		for _, cols := range []bool{false, true} {
			if list := impl.LiveRects(good, r, cols); len(list) != 0 {
				t.Errorf("LiveRects(.., %+v, %v) = %v", r, cols, list)
			}
			for at := range len(good) + 1 {
				if list := impl.LiveRects(withRect(good, at, r), good[1], cols); len(list) != 0 {
					t.Errorf("LiveRects of a list with %+v at %d = %v", r, at, list)
				}
			}
		}
	}
}

func TestLiveRectsAreNew(t *testing.T) {
	list := rects(t, "0:0 0:1 1:0 0:2")
	kept := slices.Clone(list)
	for range 2 {
		for _, part := range [][]impl.Rect{list, list[:2]} {
			live := impl.LiveRects(part, rect(t, "0:0"), false)
			if !slices.Equal(live, liveRects(part, rect(t, "0:0"), false)) {
				t.Errorf("LiveRects = %s", formatRects(live))
			}
			clear(live[:cap(live)])
			if !slices.Equal(list, kept) {
				t.Fatalf("LiveRects made of its list %v", list)
			}
		}
	}
}

func TestChoiceOf(t *testing.T) {
	random := rand.New(rand.NewSource(24))
	lists := someLists()
	for _, ones := range lists {
		live := lists[random.Intn(len(lists))]
		for input := range 8 {
			for _, cols := range []bool{false, true} {
				if got, want := impl.ChoiceOf(ones, live, input, cols), choiceOf(ones, live, input, cols); got != want {
					t.Errorf("ChoiceOf(%s, %s, %d, %v) = %d, want %d", formatRects(ones), formatRects(live), input, cols, got, want)
				}
			}
		}
	}
	for _, c := range []struct {
		name  string
		ones  string
		live  string
		input int
		row   int
		col   int
	}{
		{"no rectangles of ones", "", "0:0", 0, -1, -1},
		{"nothing is live", "01:01", "", 1, 0, 0},
		{"nothing at all", "", "", 0, -1, -1},
		{"another input", "0:0", "1:1", 1, -1, -1},
		{"none of one", "0:0", "1:1", 0, 0, 0},
		{"one of one", "0:0", "0:0", 0, -1, -1},
		{"one of two", "0:0", "0:1 1:0", 0, 0, 0},
		{"both of two", "0:0", "0:1 0:2", 0, -1, 0},
		{"one of three", "0:0", "0:1 1:2 2:0", 0, 0, 0},
		{"two of three", "0:0", "0:1 0:2 1:0", 0, -1, 0},
		{"two of four", "0:0", "0:1 0:2 1:3 1:3", 0, 0, 0},
		{"the same one counts twice", "0:0", "0:1 0:1 1:0", 0, -1, 0},
		{"by columns alone", "01:0", "0:1 1:2 1:0", 0, -1, 0},
		{"by rows alone", "0:01", "1:0 2:1 0:1", 0, 0, -1},
		{"the first one of several", "0:0 0:0 0:0", "1:1", 0, 0, 0},
		{"the first one that fits", "01:01 0:0", "1:1", 0, 1, 1},
		{"the first one with the input", "1:1 0:0", "2:2", 0, 1, 1},
		{"the last input", "0:0 7:7", "6:6", 7, 1, 1},
	} {
		ones, live := rects(t, c.ones), rects(t, c.live)
		if row, col := impl.ChoiceOf(ones, live, c.input, false), impl.ChoiceOf(ones, live, c.input, true); row != c.row || col != c.col {
			t.Errorf("%s: ChoiceOf(%s, %s, %d, ..) = %d by rows, %d by columns", c.name, c.ones, c.live, c.input, row, col)
		}
	}
}

func TestChoiceOfOtherArguments(t *testing.T) {
	ones, live := rects(t, "01234567:01234567 0:0 7:7"), rects(t, "1:1 2:2")
	lists := [][]impl.Rect{nil, live}
	for _, input := range noInputs() {
		for _, cols := range []bool{false, true} {
			for _, list := range lists {
				if n := impl.ChoiceOf(ones, list, input, cols); n != -1 {
					t.Errorf("ChoiceOf(.., %d, %v) = %d", input, cols, n)
				}
			}
		}
	}
	for _, r := range noRects() {
		for _, cols := range []bool{false, true} {
			// The rectangle of the choice may stand before what is none, and what is none may be live or not.
			for at := range len(ones) + 1 {
				if n := impl.ChoiceOf(withRect(ones, at, r), live, 0, cols); n != -1 {
					t.Errorf("ChoiceOf of ones with %+v at %d = %d", r, at, n)
				}
			}
			for at := range len(live) + 1 {
				if n := impl.ChoiceOf(ones, withRect(live, at, r), 0, cols); n != -1 {
					t.Errorf("ChoiceOf of live rectangles with %+v at %d = %d", r, at, n)
				}
			}
			if n := impl.ChoiceOf(nil, []impl.Rect{r}, 0, cols); n != -1 {
				t.Errorf("ChoiceOf(nil, %+v, 0, %v) = %d", r, cols, n)
			}
		}
	}
}

// A phaseText writes protocols of two covers.
type phaseText struct {
	rows, cols int
	ones       []impl.Rect
}

// of follows the definition of CoverProtocol with some live rectangles, before the result is trimmed.
func (c phaseText) of(live []impl.Rect) string {
	if len(live) == 0 {
		return "1"
	}
	return c.choices(live, false)
}

// choices writes what begins with the choice of one player.
func (c phaseText) choices(live []impl.Rect, cols bool) string {
	count := c.rows
	if cols {
		count = c.cols
	}
	with := map[int]int{} // the sets of the inputs with each choice
	for input := range count {
		with[choiceOf(c.ones, live, input, cols)] |= 1 << input
	}
	var sets []int
	var texts []string
	for _, choice := range slices.Sorted(maps.Keys(with)) {
		sets = append(sets, with[choice])
		switch {
		case choice >= 0:
			texts = append(texts, c.of(liveRects(live, c.ones[choice], cols)))
		case cols:
			texts = append(texts, "0")
		default:
			texts = append(texts, c.choices(live, true))
		}
	}
	return inHalves(map[bool]string{false: "A", true: "B"}[cols], sets, texts)
}

// inHalves writes the bits of a player that name one of some sets, and the text of each one behind them.
func inHalves(who string, sets []int, texts []string) string {
	if len(sets) == 1 {
		return texts[0]
	}
	half, set := len(sets)-len(sets)/2, 0
	for _, s := range sets[half:] {
		set += s
	}
	return fmt.Sprintf("%s%02x%s%s", who, set, inHalves(who, sets[:half], texts[:half]), inHalves(who, sets[half:], texts[half:]))
}

// cellRects returns a rectangle for each entry with the value.
func cellRects(m impl.Matrix, bit int) []impl.Rect {
	var list []impl.Rect
	for i := range m.Bits {
		if int(m.Bits[i]-'0') == bit {
			list = append(list, impl.Rect{Rows: 1 << (i / m.Cols), Cols: 1 << (i % m.Cols)})
		}
	}
	return list
}

// mixedCover returns a cover of up to 8 rectangles in any order, some of which are not needed, or lesser ones.
func mixedCover(random *rand.Rand, m impl.Matrix, bit int) []impl.Rect {
	list := impl.GreedyCover(m, bit)
	for maximal := impl.MaximalRects(m, bit); len(maximal) > 0 && len(list) < 8 && random.Intn(5) > 0; {
		r := maximal[random.Intn(len(maximal))]
		if s, ok := impl.MeetRects(r, randomRects(random, 1, m.Rows, m.Cols)[0]); ok && random.Intn(2) == 0 {
			r = s
		}
		list = append(list, r)
	}
	random.Shuffle(len(list), func(i int, j int) { list[i], list[j] = list[j], list[i] })
	return list
}

// coversOf returns covers of a value with at most 8 rectangles, without those that would have more.
func coversOf(random *rand.Rand, m impl.Matrix, bit int) [][]impl.Rect {
	lists := [][]impl.Rect{impl.GreedyCover(m, bit), impl.MaximalRects(m, bit), cellRects(m, bit), mixedCover(random, m, bit)}
	if m.Rows <= 5 && m.Cols <= 5 {
		lists = append(lists, impl.BestCover(m, bit))
	}
	return slices.DeleteFunc(lists, func(list []impl.Rect) bool { return len(list) > 8 })
}

// coverableMatrices returns matrices of all sizes, some of which have few rectangles of both values.
func coverableMatrices(t *testing.T) []impl.Matrix {
	t.Helper()
	list := rankedMatrices(t)
	random := rand.New(rand.NewSource(25))
	for ends := 2; ends <= 16; ends++ {
		for range 6 {
			m, ok := impl.MatrixOf(splitProtocol(random, impl.Rect{Rows: 255, Cols: 255}, ends), 8, 8)
			if !ok {
				t.Fatal("MatrixOf fails")
			}
			list = append(list, m)
		}
	}
	for count := 1; count <= 8; count++ {
		for range 6 {
			ones := entrySet(0)
			m := fullMatrix(3+random.Intn(6), 3+random.Intn(6), "0")
			for _, r := range randomRects(random, count, m.Rows, m.Cols) {
				ones |= entriesOf(m, r)
			}
			m = changedEntries(m, uint64(ones))
			list = append(list, m, otherOf(m))
		}
	}
	return list
}

// checkCoverProtocol checks the protocol of two covers, and the promise: what has short proofs of both values has a
// short protocol.
func checkCoverProtocol(t *testing.T, m impl.Matrix, zeros []impl.Rect, ones []impl.Rect) {
	t.Helper()
	name := fmt.Sprintf("CoverProtocol(%s, %s, %s)", impl.FormatMatrix(m), formatRects(zeros), formatRects(ones))
	p, ok := impl.CoverProtocol(m, zeros, ones)
	text := phaseText{rows: m.Rows, cols: m.Cols, ones: ones}.of(zeros)
	wantProtocol(t, name, p, ok, trimmedWithin(text, wholeOf(m)))
	if !impl.Computes(p, m) {
		t.Errorf("%s = %q finds other values", name, p)
	}
	if bits, bound := impl.BitsOf(p), impl.CoverBound(len(zeros), len(ones)); bits > bound {
		t.Errorf("%s = %q says %d bits, CoverBound is %d", name, p, bits, bound)
	}
	trimmed, ok := impl.TrimProtocol(p, m.Rows, m.Cols)
	wantProtocol(t, "TrimProtocol of "+name, trimmed, ok, p)
	if n := impl.LeavesOf(p); n > m.Rows*m.Cols {
		t.Errorf("%s = %q has %d ends", name, p, n)
	}
}

func TestCoverProtocol(t *testing.T) {
	random := rand.New(rand.NewSource(26))
	count, greater := 0, 0
	for _, m := range coverableMatrices(t) {
		zeros, ones := coversOf(random, m, 0), coversOf(random, m, 1)
		for _, zero := range zeros {
			for _, one := range ones {
				checkCoverProtocol(t, m, zero, one)
				count++
				if m.Rows > 5 && m.Cols > 5 && len(zero) > 4 && len(one) > 4 {
					greater++
				}
			}
		}
	}
	if count < 10000 || greater < 200 {
		t.Errorf("%d pairs of covers, %d of them great", count, greater)
	}
}

// TestCoverProtocolsOfAllCovers checks all lists of different rectangles of matrices with up to 4 entries.
func TestCoverProtocolsOfAllCovers(t *testing.T) {
	for _, m := range smallMatrices() {
		if len(m.Bits) > 4 {
			continue
		}
		var covers [2][][]impl.Rect
		lists := choicesOf(rectsWithin(m.Rows, m.Cols))
		for bit := range covers {
			covers[bit] = slices.DeleteFunc(slices.Clone(lists), func(list []impl.Rect) bool { return len(list) > 8 || !impl.IsCover(m, bit, list) })
		}
		for _, zeros := range covers[0] {
			for _, ones := range covers[1] {
				checkCoverProtocol(t, m, zeros, ones)
				slices.Reverse(ones)
				checkCoverProtocol(t, m, zeros, ones)
			}
		}
		for _, list := range lists {
			if !impl.IsCover(m, 0, list) {
				checkNoCoverProtocol(t, m, list, covers[1][0])
			}
			if !impl.IsCover(m, 1, list) {
				checkNoCoverProtocol(t, m, covers[0][0], list)
			}
		}
	}
}

func TestCoverProtocolTexts(t *testing.T) {
	for _, c := range []struct {
		name  string
		m     string
		zeros string
		ones  string
		want  string
	}{
		{"no rectangles of zeros", "11/11", "", "01:01", "1"},
		{"no rectangles of zeros, and some of ones", "1/1", "", "0:0 1:0", "1"},
		{"no rectangles of ones", "00/00", "01:01", "", "0"},
		{"no rectangles of ones, and some of zeros", "000", "0:0 0:12 0:01", "", "0"},
		{"only b speaks", "01", "0:0", "0:1", "B0201"},
		{"only a speaks", "0/1", "0:0", "1:0", "A0201"},
		{"equal inputs", "10/01", "0:1 1:0", "0:0 1:1", "A02B0101B0201"},
		{"ones in another order", "10/01", "0:1 1:0", "1:1 0:0", "A01B0201B0101"},
		{"zeros twice", "10/01", "0:1 0:1 1:0 1:0", "0:0 1:1", "A02B0101B0201"},
		{"zeros of a row more often", "10/01", "0:1 1:0 0:1", "0:0 1:1", "A02B0101B0201"},
		{"three choices", "100/010/001", "0:12 1:02 2:01", "0:0 1:1 2:2", "A04A02B0101B0201B0401"},
		{"a choice that several rows share", "10/10/01", "01:1 2:0", "01:0 2:1", "A04B0101B0201"},
		{"a choice that several columns share", "110/000", "1:012 0:2", "0:01", "A01B0300B0301"},
		{"a choice that all rows share", "01/01", "01:0", "01:1", "B0201"},
		{"a phase that ends at once", "01/11", "0:0", "1:01 0:1", "A02B02011"},
		{"a phase without a bit of a", "001/001", "01:0 01:1", "01:2", "B0401"},
		{"rectangles that rule out no half", "011/101/110", "0:0 1:1 2:2", "0:12 1:02 2:01", "A04A02B0601B0501B0301"},
	} {
		m, zeros, ones := matrix(t, c.m), rects(t, c.zeros), rects(t, c.ones)
		p, ok := impl.CoverProtocol(m, zeros, ones)
		wantProtocol(t, fmt.Sprintf("%s: CoverProtocol(%q, %s, %s)", c.name, c.m, c.zeros, c.ones), p, ok, c.want)
		checkCoverProtocol(t, m, zeros, ones)
	}
	equal, _ := impl.EqualMatrix(4)
	p, ok := impl.CoverProtocol(equal, impl.GreedyCover(equal, 0), impl.GreedyCover(equal, 1))
	wantProtocol(t, "CoverProtocol of EqualMatrix of 4", p, ok, "A0cA02B06B0101B0400B0aB0100B0810A08B0cB0100B0810B0cB0200B0801")
}

// checkNoCoverProtocol checks the result for lists of which no protocol is made.
func checkNoCoverProtocol(t *testing.T, m impl.Matrix, zeros []impl.Rect, ones []impl.Rect) {
	t.Helper()
	if p, ok := impl.CoverProtocol(m, zeros, ones); p != "" || ok {
		t.Errorf("CoverProtocol(%+v, %d rectangles, %d rectangles) = %q, %v", m, len(zeros), len(ones), p, ok)
	}
}

// repeated returns so many rectangles, again and again those of a list.
func repeated(list []impl.Rect, count int) []impl.Rect {
	return slices.Repeat(list, count/len(list)+1)[:count]
}

func TestLengthsOfCovers(t *testing.T) {
	for _, s := range []string{"10/01", "01", "0/1", "1000/0100/0010/0001", "00000001"} {
		m := matrix(t, s)
		zeros, ones := impl.GreedyCover(m, 0), impl.GreedyCover(m, 1)
		for _, n := range []int{4, 5, 6, 7, 8, 9, 10, 16, 256, 300000} {
			for _, k := range []int{4, 7, 8, 9, 10, 255, 300000} {
				if n <= 8 && k <= 8 {
					checkCoverProtocol(t, m, repeated(zeros, n), repeated(ones, k))
				} else {
					checkNoCoverProtocol(t, m, repeated(zeros, n), repeated(ones, k))
				}
			}
		}
	}
	full := fullMatrix(8, 8, "1")
	all := []impl.Rect{wholeOf(full)}
	checkCoverProtocol(t, full, nil, repeated(all, 8))
	checkCoverProtocol(t, otherOf(full), repeated(all, 8), nil)
	checkNoCoverProtocol(t, full, nil, repeated(all, 9))
	checkNoCoverProtocol(t, otherOf(full), repeated(all, 9), nil)
	equal, _ := impl.EqualMatrix(8)
	checkCoverProtocol(t, equal, impl.GreedyCover(equal, 0), impl.GreedyCover(equal, 1))
}

func TestListsThatAreNoCovers(t *testing.T) {
	for _, s := range []string{"01", "10/01", "011/101/110", "11/10", "0001/0010/0100/1000"} {
		m := matrix(t, s)
		zeros, ones := impl.GreedyCover(m, 0), impl.GreedyCover(m, 1)
		checkNoCoverProtocol(t, m, ones, zeros)
		checkNoCoverProtocol(t, m, nil, ones)
		checkNoCoverProtocol(t, m, zeros, nil)
		checkNoCoverProtocol(t, m, nil, nil)
		checkNoCoverProtocol(t, m, zeros[1:], ones)
		checkNoCoverProtocol(t, m, zeros, ones[1:])
		others := append(noRects(), impl.Rect{Rows: 1 << m.Rows, Cols: 1}, impl.Rect{Rows: 1, Cols: 1 << m.Cols}, wholeOf(m))
		for _, r := range others {
			for at := range len(zeros) + 1 {
				checkNoCoverProtocol(t, m, withRect(zeros, at, r), ones)
			}
			for at := range len(ones) + 1 {
				checkNoCoverProtocol(t, m, zeros, withRect(ones, at, r))
			}
		}
		checkNoCoverProtocol(t, m, withRect(zeros, 0, ones[0]), ones)
		checkNoCoverProtocol(t, m, zeros, withRect(ones, 0, zeros[0]))
	}
	one := matrix(t, "1")
	checkNoCoverProtocol(t, one, rects(t, "0:0"), rects(t, "0:0"))
	checkNoCoverProtocol(t, one, nil, nil)
	checkNoCoverProtocol(t, matrix(t, "0"), nil, nil)
}

func TestCoverProtocolsOfInvalidMatrices(t *testing.T) {
	lists := [][]impl.Rect{nil, {}, {{Rows: 1, Cols: 1}}, {{Rows: 3, Cols: 3}}, {{}}}
	for _, m := range invalidMatrices() {
		for _, zeros := range lists {
			for _, ones := range lists {
				checkNoCoverProtocol(t, m, zeros, ones)
			}
		}
	}
}

func TestListsOfGuessesStay(t *testing.T) {
	m := matrix(t, "011/101/110")
	zeros, ones := rects(t, "2:2 1:1 0:0 7:7")[:3], rects(t, "12:0 02:1 01:2 7:7")[:3]
	keptZeros, keptOnes := slices.Clone(zeros[:4]), slices.Clone(ones[:4])
	for range 2 {
		if p, ok := impl.CoverProtocol(m, zeros, ones); !ok || !impl.Computes(p, m) {
			t.Errorf("CoverProtocol = %q, %v", p, ok)
		}
		for i := range 3 {
			if n := impl.ChoiceOf(ones, zeros, i, true); n != choiceOf(ones, zeros, i, true) {
				t.Errorf("ChoiceOf = %d", n)
			}
			if n := impl.ProofOf(ones, i, (i+1)%3); n != (i+1)%3 || !impl.AcceptsRow(ones, n, i) || !impl.AcceptsCol(ones, n, (i+1)%3) {
				t.Errorf("ProofOf = %d", n)
			}
		}
		if !slices.Equal(zeros[:4], keptZeros) || !slices.Equal(ones[:4], keptOnes) {
			t.Fatalf("lists became %v and %v", zeros[:4], ones[:4])
		}
	}
}

func TestCoverBound(t *testing.T) {
	for zeros := -1; zeros <= 1001; zeros++ {
		for ones := -1; ones <= 1001; ones++ {
			want := 2 * bits.Len(uint(zeros)) * bits.Len(uint(ones))
			if zeros < 0 || zeros > 1000 || ones < 0 || ones > 1000 {
				want = -1
			}
			if n := impl.CoverBound(zeros, ones); n != want {
				t.Fatalf("CoverBound(%d, %d) = %d, want %d", zeros, ones, n, want)
			}
		}
	}
	for pair, want := range map[[2]int]int{
		{0, 0}: 0, {0, 1000}: 0, {1000, 0}: 0, {1, 1}: 2, {1, 2}: 4, {2, 1}: 4, {3, 3}: 8, {3, 4}: 12, {4, 4}: 18, {8, 8}: 32, {7, 8}: 24,
		{1000, 1000}: 200, {511, 512}: 180, {1001, 1}: -1, {1, 1001}: -1, {-1, 0}: -1, {0, -1}: -1,
	} {
		if n := impl.CoverBound(pair[0], pair[1]); n != want {
			t.Errorf("CoverBound(%d, %d) = %d, want %d", pair[0], pair[1], n, want)
		}
	}
	for _, n := range []int{math.MinInt, -1000, -2, 1023, 1024, 1000000, 1 << 32, math.MaxInt} {
		for _, k := range []int{n, 0, 1, 1000} {
			if impl.CoverBound(n, k) != -1 || impl.CoverBound(k, n) != -1 {
				t.Errorf("CoverBound of %d and %d is told", n, k)
			}
		}
	}
}

// TestProofsShowValues checks that each entry has a proof of its value, which both players accept, and none of the other.
func TestProofsShowValues(t *testing.T) {
	for _, m := range coverableMatrices(t) {
		for bit := range 2 {
			cover := impl.GreedyCover(m, bit)
			for i := range m.Bits {
				x, y := i/m.Cols, i%m.Cols
				proof := impl.ProofOf(cover, x, y)
				if (proof >= 0) != (int(m.Bits[i]-'0') == bit) {
					t.Errorf("ProofOf(%s, %d, %d) = %d in %s", formatRects(cover), x, y, proof, impl.FormatMatrix(m))
				}
				accepted := slices.IndexFunc(ascending(len(cover)), func(k int) bool {
					return impl.AcceptsRow(cover, k, x) && impl.AcceptsCol(cover, k, y)
				})
				if accepted != proof {
					t.Errorf("ProofOf(%s, %d, %d) = %d, both accept %d", formatRects(cover), x, y, proof, accepted)
				}
			}
		}
	}
}

// TestShortProofsShortProtocols checks the promise for least numbers: they are bounded by what advice of both values needs.
func TestShortProofsShortProtocols(t *testing.T) {
	for _, m := range exactMatrices() {
		zeros, ones := impl.BestCover(m, 0), impl.BestCover(m, 1)
		bound := impl.CoverBound(len(zeros), len(ones))
		p, ok := impl.CoverProtocol(m, zeros, ones)
		if least := impl.LeastBits(m); !ok || least > impl.BitsOf(p) || impl.BitsOf(p) > bound {
			t.Errorf("LeastBits(%+v) = %d, CoverProtocol is %q, %v, CoverBound is %d", m, least, p, ok, bound)
		}
		// A number of rectangles that advice names is at most a power of 2, and BitsFor one more has one bit more.
		if most := 2 * (impl.AdviceBits(m, 0) + 1) * (impl.AdviceBits(m, 1) + 1); bound > most {
			t.Errorf("CoverBound(%d, %d) = %d, advice would allow %d", len(zeros), len(ones), bound, most)
		}
	}
}

// TestGuessesOfChangedMatrices checks that a turned matrix has turned proofs, and needs as many disjoint rectangles.
func TestGuessesOfChangedMatrices(t *testing.T) {
	turned := func(list []impl.Rect) []impl.Rect {
		list = slices.Clone(list)
		for i, r := range list {
			list[i] = impl.Rect{Rows: r.Cols, Cols: r.Rows}
		}
		return list
	}
	random := rand.New(rand.NewSource(27))
	for _, list := range someLists() {
		live, x, y := randomRects(random, random.Intn(10), 8, 8), random.Intn(8), random.Intn(8)
		if impl.ProofOf(list, x, y) != impl.ProofOf(turned(list), y, x) {
			t.Errorf("ProofOf(%s, %d, %d) is another one turned", formatRects(list), x, y)
		}
		if impl.ChoiceOf(list, live, x, false) != impl.ChoiceOf(turned(list), turned(live), x, true) {
			t.Errorf("ChoiceOf(%s, %s, %d, ..) is another one turned", formatRects(list), formatRects(live), x)
		}
	}
	for _, m := range partedMatrices() {
		for bit := range 2 {
			n := impl.DisjointNumber(m, bit)
			shrunk, _ := impl.ShrinkMatrix(m)
			if impl.DisjointNumber(turnedOf(m), bit) != n || impl.DisjointNumber(otherOf(m), 1-bit) != n || impl.DisjointNumber(shrunk, bit) != n {
				t.Errorf("DisjointNumber(%+v, %d) = %d, another number of a changed one", m, bit, n)
			}
		}
	}
}

// TestLongLists checks that lists may be long where the document has no limit for them.
func TestLongLists(t *testing.T) {
	list := append(repeated(rects(t, "0:0 1:1"), 200000), rect(t, "2:2"))
	if n := impl.ProofOf(list, 2, 2); n != 200000 {
		t.Errorf("ProofOf = %d", n)
	}
	if !impl.AcceptsRow(list, 200000, 2) || impl.AcceptsCol(list, 200001, 2) {
		t.Error("AcceptsRow or AcceptsCol of a long list")
	}
	if live := impl.LiveRects(list, rect(t, "12:7"), false); len(live) != 100001 || live[100000] != rect(t, "2:2") {
		t.Errorf("LiveRects has %d", len(live))
	}
	for input, want := range []int{0, 1, 2, -1} {
		if n := impl.ChoiceOf(rects(t, "0:0 1:1 2:2"), list[:200000], input, false); n != want {
			t.Errorf("ChoiceOf of %d = %d", input, n)
		}
	}
	if p, ok := impl.CoverProtocol(matrix(t, strings.Repeat("1", 8)), nil, rects(t, strings.Repeat("0:01234567 ", 8))); p != "1" || !ok {
		t.Errorf("CoverProtocol = %q, %v", p, ok)
	}
}
