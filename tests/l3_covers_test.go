package tests

import (
	"math"
	"math/bits"
	"math/rand"
	"slices"
	"strconv"
	"strings"
	"testing"

	"loop.example/twoplayers/impl"
)

// noBits returns numbers that are no value of an entry.
func noBits() []int {
	return []int{-2, -1, 2, 3, '0', '1', 256, 257, 1 << 32, 1<<32 + 1, math.MaxInt, math.MinInt, math.MinInt + 1}
}

// fullMatrix returns the matrix of so many rows and columns with the same value everywhere.
func fullMatrix(rows int, cols int, digit string) impl.Matrix {
	return impl.Matrix{Rows: rows, Cols: cols, Bits: strings.Repeat(digit, rows*cols)}
}

// exactMatrices returns matrices of which exact numbers are told.
func exactMatrices() []impl.Matrix {
	list := smallMatrices()
	for _, f := range families() {
		for n := f.least; n <= f.greatest; n++ {
			if f.rows(n) <= 5 && f.cols(n) <= 5 {
				m, _ := f.make(n)
				list = append(list, m)
			}
		}
	}
	random := rand.New(rand.NewSource(3))
	for rows := 1; rows <= 5; rows++ {
		for cols := 1; cols <= 5; cols++ {
			for ones := 20; ones <= 90; ones += 10 {
				list = append(list, randomMatrix(random, rows, cols, ones))
			}
		}
	}
	return list
}

// partedMatrices returns matrices with few enough entries for partitions.
func partedMatrices() []impl.Matrix {
	list := smallMatrices()
	random := rand.New(rand.NewSource(4))
	for rows := 1; rows <= 8; rows++ {
		for cols := 1; cols <= 8 && rows*cols <= 12; cols++ {
			for ones := 10; ones <= 90; ones += 10 {
				list = append(list, randomMatrix(random, rows, cols, ones))
			}
		}
	}
	return list
}

// An entrySet is a set of numbers of entries.
type entrySet uint64

func (s entrySet) has(i int) bool { return s>>i&1 == 1 }

// entriesOf returns the entries of a rectangle of a matrix.
func entriesOf(m impl.Matrix, r impl.Rect) entrySet {
	var s entrySet
	for i, n := range timesIn(m, []impl.Rect{r}) {
		s |= entrySet(n) << i
	}
	return s
}

// entriesWith returns the entries of a matrix that have the value.
func entriesWith(m impl.Matrix, bit int) entrySet {
	var s entrySet
	for i := range m.Bits {
		if int(m.Bits[i]-'0') == bit {
			s |= 1 << i
		}
	}
	return s
}

// A pieceCount finds how few pieces have all entries of a set, and, if they must
// be apart, have each of them once and no others. It has the entries from the
// last one on, and knows what it has found before.
type pieceCount struct {
	pieces []entrySet
	apart  bool
	known  map[entrySet]int
}

func newPieceCount(m impl.Matrix, list []impl.Rect, apart bool) pieceCount {
	c := pieceCount{apart: apart, known: map[entrySet]int{0: 0}}
	for _, r := range list {
		c.pieces = append(c.pieces, entriesOf(m, r))
	}
	return c
}

func (c pieceCount) of(left entrySet) int {
	if n, ok := c.known[left]; ok {
		return n
	}
	least := 1000
	for _, p := range c.pieces {
		if p.has(bits.Len64(uint64(left))-1) && (!c.apart || p&^left == 0) {
			least = min(least, 1+c.of(left&^p))
		}
	}
	c.known[left] = least
	return least
}

// A coverText has the texts of a matrix and of the rectangles that cover a value.
type coverText struct {
	m    string
	bit  int
	want string
}

// greedyCover follows the definition of GreedyCover.
func greedyCover(m impl.Matrix, bit int, list []impl.Rect) []impl.Rect {
	var cover []impl.Rect
	for left := entriesWith(m, bit); left != 0; {
		var best impl.Rect
		most := 0
		for _, r := range list {
			if n := bits.OnesCount64(uint64(entriesOf(m, r) & left)); n > most {
				most, best = n, r
			}
		}
		cover = append(cover, best)
		left &^= entriesOf(m, best)
	}
	return cover
}

func TestGreedyCover(t *testing.T) {
	for _, m := range append(exactMatrices(), greaterMatrices(t)...) {
		for bit := range 2 {
			want := greedyCover(m, bit, impl.MaximalRects(m, bit))
			got := impl.GreedyCover(m, bit)
			if !slices.Equal(got, want) || !impl.IsCover(m, bit, got) {
				t.Errorf("GreedyCover(%+v, %d) = %s, want %s", m, bit, formatRects(got), formatRects(want))
			}
		}
	}
	for _, c := range []coverText{
		{"1", 1, "0:0"},
		{"1", 0, ""},
		{"0", 0, "0:0"},
		{"0", 1, ""},
		{"0000/0000", 1, ""},
		{"11/11", 1, "01:01"},
		{"011/101/110", 1, "0:12 1:02 2:01"},
		{"011/101/110", 0, "0:0 1:1 2:2"},
		// The first one of those with most entries is one too many.
		{"001/011/010", 1, "1:12 01:2 12:1"},
		{"110/100/010", 1, "0:01 01:0 02:1"},
		// The greatest one comes first, not the one with the first entry.
		{"10000/10111/00111", 1, "12:234 01:0"},
		// After the first one, the rectangle 01:0123 has more entries, but fewer that are left.
		{"1111/1111/1110/0001", 1, "012:012 013:3"},
		{"11111111", 1, "0:01234567"},
		{"1/0/1/0/1/0/1/0", 0, "1357:0"},
		{"11001/11010/10110/00100/01111", 1, "01:01 4:1234 2:023 0:014 1:013 234:2"},
	} {
		if got := formatRects(impl.GreedyCover(matrix(t, c.m), c.bit)); got != c.want {
			t.Errorf("GreedyCover(%q, %d) = %s, want %s", c.m, c.bit, got, c.want)
		}
	}
}

// checkBestCover checks the least number of rectangles, and that each one of the
// best cover is the first with which the others can be as few.
func checkBestCover(t *testing.T, m impl.Matrix, bit int) {
	t.Helper()
	number := newPieceCount(m, plainRects(m, bit), false)
	left := entriesWith(m, bit)
	if n := impl.CoverNumber(m, bit); n != number.of(left) {
		t.Errorf("CoverNumber(%+v, %d) = %d, want %d", m, bit, n, number.of(left))
	}
	if n := impl.AdviceBits(m, bit); n != impl.BitsFor(number.of(left)) {
		t.Errorf("AdviceBits(%+v, %d) = %d of %d rectangles", m, bit, n, number.of(left))
	}
	got := impl.BestCover(m, bit)
	var want []impl.Rect
	for left != 0 {
		k := slices.IndexFunc(impl.MaximalRects(m, bit), func(r impl.Rect) bool {
			return entriesOf(m, r).has(bits.TrailingZeros64(uint64(left))) && number.of(left&^entriesOf(m, r)) == number.of(left)-1
		})
		want = append(want, impl.MaximalRects(m, bit)[k])
		left &^= entriesOf(m, want[len(want)-1])
	}
	if !slices.Equal(got, want) || !impl.IsCover(m, bit, got) {
		t.Errorf("BestCover(%+v, %d) = %s, want %s", m, bit, formatRects(got), formatRects(want))
	}
}

func TestBestCoverAndCoverNumber(t *testing.T) {
	for _, m := range exactMatrices() {
		for bit := range 2 {
			checkBestCover(t, m, bit)
		}
	}
	for _, c := range []coverText{
		{"1", 1, "0:0"},
		{"1", 0, ""},
		{"0", 1, ""},
		{"0", 0, "0:0"},
		{"00/00", 1, ""},
		{"01/10", 1, "0:1 1:0"},
		{"011/101/110", 1, "0:12 1:02 2:01"},
		{"001/011/010", 1, "01:2 12:1"},
		// The rectangles overlap: without that there would be three.
		{"110/111/011", 1, "01:01 12:12"},
		{"010/111/010", 1, "012:1 1:012"},
		// The first rectangle with the first entry would need two others.
		{"111/101/110", 1, "01:02 02:01"},
		{"111/010/101", 1, "02:02 01:1"},
		{"11111/11111/11111/11111/11111", 1, "01234:01234"},
		{"11111", 1, "0:01234"},
		{"0/1/0/1/0", 0, "024:0"},
		{"11000/11000/00100/00011/00011", 1, "01:01 2:2 34:34"},
	} {
		m := matrix(t, c.m)
		if got := formatRects(impl.BestCover(m, c.bit)); got != c.want {
			t.Errorf("BestCover(%q, %d) = %s, want %s", c.m, c.bit, got, c.want)
		}
		if n := impl.CoverNumber(m, c.bit); n != len(rects(t, c.want)) {
			t.Errorf("CoverNumber(%q, %d) = %d, want %s", c.m, c.bit, n, c.want)
		}
	}
}

func TestCoverNumbersOfFamilies(t *testing.T) {
	for _, c := range []struct {
		make   func(int) (impl.Matrix, bool)
		n      int
		covers [2]int
		advice [2]int
	}{
		{impl.EqualMatrix, 1, [2]int{0, 1}, [2]int{0, 0}},
		{impl.EqualMatrix, 2, [2]int{2, 2}, [2]int{1, 1}},
		{impl.EqualMatrix, 3, [2]int{3, 3}, [2]int{2, 2}},
		{impl.EqualMatrix, 4, [2]int{4, 4}, [2]int{2, 2}},
		{impl.EqualMatrix, 5, [2]int{4, 5}, [2]int{2, 3}},
		{impl.EqualMatrix, 6, [2]int{-1, -1}, [2]int{-1, -1}},
		{impl.GreaterMatrix, 1, [2]int{1, 0}, [2]int{0, 0}},
		{impl.GreaterMatrix, 4, [2]int{4, 3}, [2]int{2, 2}},
		{impl.GreaterMatrix, 5, [2]int{5, 4}, [2]int{3, 2}},
		{impl.DisjointMatrix, 0, [2]int{0, 1}, [2]int{0, 0}},
		{impl.DisjointMatrix, 1, [2]int{1, 2}, [2]int{0, 1}},
		{impl.DisjointMatrix, 2, [2]int{2, 4}, [2]int{1, 2}},
		{impl.IndexMatrix, 2, [2]int{2, 2}, [2]int{1, 1}},
		{impl.IndexMatrix, 3, [2]int{-1, -1}, [2]int{-1, -1}},
	} {
		m, _ := c.make(c.n)
		for bit := range 2 {
			if n := impl.CoverNumber(m, bit); n != c.covers[bit] {
				t.Errorf("CoverNumber(%+v, %d) = %d, want %d", m, bit, n, c.covers[bit])
			}
			if n := impl.AdviceBits(m, bit); n != c.advice[bit] {
				t.Errorf("AdviceBits(%+v, %d) = %d, want %d", m, bit, n, c.advice[bit])
			}
		}
	}
}

// areApart follows the definition for two entries with the value.
func areApart(m impl.Matrix, i int, j int, bit int) bool {
	first := impl.EntryOf(m, i/m.Cols, j%m.Cols)
	second := impl.EntryOf(m, j/m.Cols, i%m.Cols)
	return first == 1-bit || second == 1-bit
}

// isFooling follows the definition of a fooling set.
func isFooling(m impl.Matrix, bit int, cells []int) bool {
	for k, i := range cells {
		if i < 0 || i >= len(m.Bits) || int(m.Bits[i]-'0') != bit {
			return false
		}
		for _, j := range cells[:k] {
			if !areApart(m, i, j, bit) {
				return false
			}
		}
	}
	return true
}

// eachList calls check with all lists of at most count numbers that are not less than from and less than end.
func eachList(from int, end int, count int, check func(list []int)) {
	var extend func(list []int)
	extend = func(list []int) {
		check(list)
		for i := from; i < end && len(list) < count; i++ {
			extend(append(slices.Clone(list), i))
		}
	}
	extend(nil)
}

func TestIsFooling(t *testing.T) {
	for _, m := range smallMatrices() {
		longest := 2
		if len(m.Bits) <= 4 {
			longest = 4
		}
		for bit := range 2 {
			eachList(-1, len(m.Bits)+1, longest, func(list []int) {
				if impl.IsFooling(m, bit, list) != isFooling(m, bit, list) {
					t.Errorf("IsFooling(%+v, %d, %v) is %v", m, bit, list, !isFooling(m, bit, list))
				}
			})
		}
	}
	random := rand.New(rand.NewSource(5))
	for _, m := range greaterMatrices(t) {
		for bit := range 2 {
			var list []int
			for _, i := range random.Perm(len(m.Bits)) {
				longer := append(slices.Clone(list), i)
				if impl.IsFooling(m, bit, longer) != isFooling(m, bit, longer) {
					t.Errorf("IsFooling(%+v, %d, %v) is %v", m, bit, longer, !isFooling(m, bit, longer))
				}
				if isFooling(m, bit, longer) {
					list = longer
				}
			}
		}
	}
}

func TestFoolingLists(t *testing.T) {
	for _, c := range []struct {
		m     string
		bit   int
		cells []int
		want  bool
	}{
		{"1", 1, nil, true},
		{"1", 1, []int{}, true},
		{"1", 0, nil, true},
		{"1", 1, []int{0}, true},
		{"1", 0, []int{0}, false},
		{"1", 1, []int{1}, false},
		{"1", 1, []int{-1}, false},
		{"1", 1, []int{0, 0}, false},
		{"01/10", 1, []int{1, 2}, true},
		{"01/10", 1, []int{2, 1}, true},
		{"01/10", 1, []int{1, 2, 1}, false},
		{"01/10", 1, []int{1, 2, 4}, false},
		{"01/10", 1, []int{1, 2, -1}, false},
		{"01/10", 1, []int{1, 3}, false},
		{"01/10", 0, []int{0, 3}, true},
		{"01/10", 0, []int{0, 1}, false},
		// One of the two other corners has the other value.
		{"11/01", 1, []int{0, 3}, true},
		{"11/01", 1, []int{3, 0}, true},
		{"10/11", 1, []int{0, 3}, true},
		{"11/10", 1, []int{1, 2}, true},
		{"11/11", 1, []int{0, 3}, false},
		// Entries of one row or one column are never apart.
		{"101", 1, []int{0, 2}, false},
		{"1/0/1", 1, []int{2, 0}, false},
		{"01/10/01", 1, []int{1, 2, 5}, false},
		{"1000/0100/0010/0001", 1, []int{15, 0, 10, 5}, true},
		{"1000/0100/0010/0001", 1, []int{0, 5, 10, 15, 16}, false},
		{"1000/0100/0010/0001", 1, []int{0, 5, 10, 15, 0}, false},
		{"1000/0100/0010/0001", 0, []int{1, 4}, true},
		{"1000/0100/0010/0001", 0, []int{1, 11}, false},
		{"1000/0100/0010/0001", 0, []int{1, 6, 8}, true},
		{"1", 1, []int{math.MinInt}, false},
		{"1", 1, []int{math.MaxInt}, false},
		{"1", 1, []int{1 << 32}, false},
		{"1", 1, make([]int, 1000000), false},
		{"00/00", 0, slices.Repeat([]int{0, 3}, 100000), false},
	} {
		if impl.IsFooling(matrix(t, c.m), c.bit, c.cells) != c.want {
			t.Errorf("IsFooling(%q, %d, %v) is %v", c.m, c.bit, c.cells[:min(len(c.cells), 8)], !c.want)
		}
	}
	m, _ := impl.EqualMatrix(8)
	if !impl.IsFooling(m, 1, []int{0, 9, 18, 27, 36, 45, 54, 63}) || impl.IsFooling(m, 1, []int{0, 9, 18, 27, 36, 45, 54, 62}) {
		t.Error("IsFooling of the ones of EqualMatrix of 8")
	}
}

// greatestFooling returns the alphabetically first one of the longest ascending fooling sets.
func greatestFooling(m impl.Matrix, bit int) []int {
	var longest []int
	// As a part of a fooling set is one, a longer one has one with a number less.
	sets := [][]int{nil}
	for len(sets) > 0 {
		longest = slices.MinFunc(sets, slices.Compare[[]int])
		var longer [][]int
		for _, set := range sets {
			for i := range m.Bits {
				next := append(slices.Clone(set), i)
				if slices.IsSorted(next) && isFooling(m, bit, next) {
					longer = append(longer, next)
				}
			}
		}
		sets = longer
	}
	return longest
}

func TestGreatestFooling(t *testing.T) {
	for _, m := range exactMatrices() {
		for bit := range 2 {
			got, want := impl.GreatestFooling(m, bit), greatestFooling(m, bit)
			if !slices.Equal(got, want) || !impl.IsFooling(m, bit, got) {
				t.Errorf("GreatestFooling(%+v, %d) = %v, want %v", m, bit, got, want)
			}
		}
	}
	for _, c := range []struct {
		m    string
		bit  int
		want []int
	}{
		{"1", 1, []int{0}},
		{"1", 0, nil},
		{"0", 1, nil},
		{"000/000", 1, nil},
		{"000/000", 0, []int{0}},
		{"01/10", 1, []int{1, 2}},
		{"01/10", 0, []int{0, 3}},
		{"11/10", 1, []int{1, 2}},
		{"00111", 1, []int{2}},
		{"0/1/1/0/0", 1, []int{1}},
		{"011/101/110", 1, []int{1, 5, 6}},
		{"000/100/110", 1, []int{3, 7}},
		{"000/100/110", 0, []int{0, 4, 8}},
		// The set that begins with the first entry is smaller.
		{"110/100/000", 1, []int{1, 3}},
		{"111/110/100", 1, []int{2, 4, 6}},
		{"10000/01000/00100/00010/00001", 1, []int{0, 6, 12, 18, 24}},
		// Four rectangles are needed, but no more than three entries are apart.
		{"01111/10111/11011/11101/11110", 1, []int{1, 7, 10}},
	} {
		if got := impl.GreatestFooling(matrix(t, c.m), c.bit); !slices.Equal(got, c.want) {
			t.Errorf("GreatestFooling(%q, %d) = %v, want %v", c.m, c.bit, got, c.want)
		}
	}
}

func TestPartitionNumber(t *testing.T) {
	for _, m := range partedMatrices() {
		number := newPieceCount(m, append(plainRects(m, 0), plainRects(m, 1)...), true)
		if n := impl.PartitionNumber(m); n != number.of(1<<len(m.Bits)-1) {
			t.Errorf("PartitionNumber(%+v) = %d, want %d", m, n, number.of(1<<len(m.Bits)-1))
		}
	}
	for s, want := range map[string]int{
		"0": 1, "1": 1, "01": 2, "0/1/0": 2, "01010101": 2, "0000/0000/0000": 1, "111111/111111": 1,
		"10/01": 4, "11/10": 3, "100/010/001": 6, "000/100/110": 5,
		"010/111/010": 3, "101/000/101": 3,
		// Two rectangles cover the value of the entry in the middle, but both have that entry.
		"110/111/011": 5, "001/000/100": 5,
		"1010/0101/1010": 4, "1000/0100/0010": 6, "100000/011111": 4, "10/10/10/01/01/01": 4,
		"11110000": 2, "1/1/1/0/0/0/1/0": 2,
	} {
		if n := impl.PartitionNumber(matrix(t, s)); n != want {
			t.Errorf("PartitionNumber(%q) = %d, want %d", s, n, want)
		}
	}
}

func TestSizesOfExactNumbers(t *testing.T) {
	for rows := 1; rows <= 8; rows++ {
		for cols := 1; cols <= 8; cols++ {
			for bit := range 2 {
				m := fullMatrix(rows, cols, strconv.Itoa(bit))
				checkFull(t, m, bit, rows <= 5 && cols <= 5)
				want := -1
				if rows*cols <= 12 {
					want = 1
				}
				if n := impl.PartitionNumber(m); n != want {
					t.Errorf("PartitionNumber(%+v) = %d, want %d", m, n, want)
				}
			}
		}
	}
	if impl.MaxExact != 5 || impl.MaxParted != 12 {
		t.Errorf("MaxExact = %d, MaxParted = %d", impl.MaxExact, impl.MaxParted)
	}
}

// checkFull checks the results for a matrix that has only one value, and of which exact numbers are told or not.
func checkFull(t *testing.T, m impl.Matrix, bit int, told bool) {
	t.Helper()
	number, other, advice, cover, cells := 1, 0, 0, 1, 1
	if !told {
		number, other, advice, cover, cells = -1, -1, -1, 0, 0
	}
	if impl.CoverNumber(m, bit) != number || impl.CoverNumber(m, 1-bit) != other {
		t.Errorf("CoverNumber(%+v, ..) = %d, %d", m, impl.CoverNumber(m, bit), impl.CoverNumber(m, 1-bit))
	}
	if impl.AdviceBits(m, bit) != advice || impl.AdviceBits(m, 1-bit) != advice {
		t.Errorf("AdviceBits(%+v, ..) = %d, %d", m, impl.AdviceBits(m, bit), impl.AdviceBits(m, 1-bit))
	}
	if len(impl.BestCover(m, bit)) != cover || len(impl.BestCover(m, 1-bit)) != 0 {
		t.Errorf("BestCover(%+v, ..) = %v, %v", m, impl.BestCover(m, bit), impl.BestCover(m, 1-bit))
	}
	if len(impl.GreatestFooling(m, bit)) != cells || len(impl.GreatestFooling(m, 1-bit)) != 0 {
		t.Errorf("GreatestFooling(%+v, ..) = %v, %v", m, impl.GreatestFooling(m, bit), impl.GreatestFooling(m, 1-bit))
	}
	// Greedy covers and given fooling sets are told of all sizes.
	if len(impl.GreedyCover(m, bit)) != 1 || len(impl.GreedyCover(m, 1-bit)) != 0 {
		t.Errorf("GreedyCover(%+v, ..) = %v, %v", m, impl.GreedyCover(m, bit), impl.GreedyCover(m, 1-bit))
	}
	last := len(m.Bits) - 1
	if !impl.IsFooling(m, bit, []int{last}) || impl.IsFooling(m, bit, []int{last + 1}) || impl.IsFooling(m, 1-bit, []int{last}) || !impl.IsFooling(m, 1-bit, nil) {
		t.Errorf("IsFooling(%+v, ..) of the last entry", m)
	}
}

// checkNoCovers checks the results for a matrix that is not valid or a bit that is none.
func checkNoCovers(t *testing.T, name string, m impl.Matrix, bit int) {
	t.Helper()
	if list := impl.GreedyCover(m, bit); len(list) != 0 {
		t.Errorf("%s: GreedyCover of %d = %+v", name, bit, list)
	}
	if n := impl.CoverNumber(m, bit); n != -1 {
		t.Errorf("%s: CoverNumber of %d = %d", name, bit, n)
	}
	if list := impl.BestCover(m, bit); len(list) != 0 {
		t.Errorf("%s: BestCover of %d = %+v", name, bit, list)
	}
	for _, cells := range [][]int{nil, {}, {0}, {-1}, {0, 0}, {0, 1}} {
		if impl.IsFooling(m, bit, cells) {
			t.Errorf("%s: IsFooling of %d and %v", name, bit, cells)
		}
	}
	if list := impl.GreatestFooling(m, bit); len(list) != 0 {
		t.Errorf("%s: GreatestFooling of %d = %v", name, bit, list)
	}
	if n := impl.AdviceBits(m, bit); n != -1 {
		t.Errorf("%s: AdviceBits of %d = %d", name, bit, n)
	}
}

func TestCoversOfInvalidMatrices(t *testing.T) {
	for name, m := range invalidMatrices() {
		for _, bit := range append(noBits(), 0, 1) {
			checkNoCovers(t, name, m, bit)
		}
		if n := impl.PartitionNumber(m); n != -1 {
			t.Errorf("%s: PartitionNumber = %d", name, n)
		}
	}
}

func TestCoversOfNoBits(t *testing.T) {
	for _, s := range []string{"0", "1", "01/10", "11/11", "00000000", strings.Repeat("01100110/", 7) + "11110000"} {
		for _, bit := range noBits() {
			checkNoCovers(t, s, matrix(t, s), bit)
		}
	}
}

func TestBitsFor(t *testing.T) {
	k := 0
	for n := range 1000001 {
		if 1<<k < n {
			k++
		}
		if got := impl.BitsFor(n); got != k {
			t.Fatalf("BitsFor(%d) = %d, want %d", n, got, k)
		}
	}
	for n, want := range map[int]int{0: 0, 1: 0, 2: 1, 3: 2, 4: 2, 5: 3, 8: 3, 9: 4, 524288: 19, 524289: 20, 1000000: 20} {
		if got := impl.BitsFor(n); got != want {
			t.Errorf("BitsFor(%d) = %d, want %d", n, got, want)
		}
	}
	for _, n := range []int{-1, -2, -1000000, 1000001, 1 << 20, 1 << 32, 1 << 62, math.MaxInt, math.MinInt} {
		if got := impl.BitsFor(n); got != -1 {
			t.Errorf("BitsFor(%d) = %d", n, got)
		}
	}
}

func TestCoversAreNew(t *testing.T) {
	m := matrix(t, "011/101/110")
	for range 2 {
		for name, list := range map[string][]impl.Rect{"GreedyCover": impl.GreedyCover(m, 1), "BestCover": impl.BestCover(m, 1)} {
			if got := formatRects(list); got != "0:12 1:02 2:01" {
				t.Errorf("%s = %s", name, got)
			}
			clear(list[:cap(list)])
		}
		list := impl.GreatestFooling(m, 1)
		if !slices.Equal(list, []int{1, 5, 6}) {
			t.Errorf("GreatestFooling = %v", list)
		}
		clear(list[:cap(list)])
	}
	cells := []int{5, 1, 6, 7, 7}
	if !impl.IsFooling(m, 1, cells[:2]) || !slices.Equal(cells, []int{5, 1, 6, 7, 7}) {
		t.Errorf("IsFooling made of its list %v", cells)
	}
}

// TestCoversAndFoolingSets checks the promise: no cover is smaller than a fooling set, and no partition than both covers.
func TestCoversAndFoolingSets(t *testing.T) {
	for _, m := range append(exactMatrices(), partedMatrices()...) {
		exact := m.Rows <= 5 && m.Cols <= 5
		both := 0
		for bit := range 2 {
			cells, best, greedy := impl.GreatestFooling(m, bit), impl.BestCover(m, bit), impl.GreedyCover(m, bit)
			if exact && (len(cells) > len(best) || len(best) != impl.CoverNumber(m, bit)) || len(best) > len(greedy) {
				t.Errorf("%+v, %d: %v are apart, the covers are %s and %s", m, bit, cells, formatRects(best), formatRects(greedy))
			}
			// A rectangle of a cover has at most one entry of a fooling set.
			for _, r := range append(best, greedy...) {
				inside := slices.DeleteFunc(slices.Clone(cells), func(i int) bool { return !impl.InRect(r, i/m.Cols, i%m.Cols) })
				if len(inside) > 1 {
					t.Errorf("%+v, %d: %v are apart and in %s", m, bit, inside, impl.FormatRect(r))
				}
			}
			both += max(impl.CoverNumber(m, bit), 0)
		}
		if n := impl.PartitionNumber(m); n != -1 && n < both {
			t.Errorf("PartitionNumber(%+v) = %d, both covers have %d", m, n, both)
		}
	}
}

// TestLeastLists checks least numbers against all lists that IsCover and IsPartition accept.
func TestLeastLists(t *testing.T) {
	for _, m := range smallMatrices() {
		if len(m.Bits) > 4 {
			continue
		}
		least, parts := [2]int{100, 100}, 100
		for _, chosen := range choicesOf(rectsWithin(m.Rows, m.Cols)) {
			for bit := range 2 {
				if impl.IsCover(m, bit, chosen) {
					least[bit] = min(least[bit], len(chosen))
				}
			}
			if impl.IsPartition(m, chosen) {
				parts = min(parts, len(chosen))
			}
		}
		if least != [2]int{impl.CoverNumber(m, 0), impl.CoverNumber(m, 1)} || parts != impl.PartitionNumber(m) {
			t.Errorf("%+v: the least covers have %v, the least partition %d", m, least, parts)
		}
	}
}

// TestCoversOfChangedMatrices checks that turning, exchanging the values and leaving out equal rows and columns change no least number.
func TestCoversOfChangedMatrices(t *testing.T) {
	for _, m := range append(exactMatrices(), partedMatrices()...) {
		turned, _ := impl.TurnMatrix(m)
		other, _ := impl.OtherMatrix(m)
		shrunk, _ := impl.ShrinkMatrix(m)
		exact := m.Rows <= 5 && m.Cols <= 5
		for bit := range 2 {
			n, cells := impl.CoverNumber(m, bit), len(impl.GreatestFooling(m, bit))
			if impl.CoverNumber(turned, bit) != n || impl.CoverNumber(other, 1-bit) != n || exact && impl.CoverNumber(shrunk, bit) != n {
				t.Errorf("CoverNumber(%+v, %d) = %d", m, bit, n)
			}
			if len(impl.GreatestFooling(turned, bit)) != cells || len(impl.GreatestFooling(other, 1-bit)) != cells || exact && len(impl.GreatestFooling(shrunk, bit)) != cells {
				t.Errorf("GreatestFooling(%+v, %d) has %d entries", m, bit, cells)
			}
		}
		n := impl.PartitionNumber(m)
		if impl.PartitionNumber(turned) != n || impl.PartitionNumber(other) != n || n != -1 && impl.PartitionNumber(shrunk) != n {
			t.Errorf("PartitionNumber(%+v) = %d", m, n)
		}
	}
}
