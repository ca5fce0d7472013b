package tests

import (
	"math/bits"
	"math/rand"
	"slices"
	"strconv"
	"strings"
	"testing"

	"loop.example/twoplayers/impl"
)

// rankedMatrices returns matrices of all sizes, some of which have rows of zeros, equal rows and low ranks.
func rankedMatrices(t *testing.T) []impl.Matrix {
	t.Helper()
	list := append(exactMatrices(), greaterMatrices(t)...)
	random := rand.New(rand.NewSource(6))
	for rows := 1; rows <= 8; rows++ {
		for cols := 1; cols <= 8; cols++ {
			m := randomMatrix(random, rows, cols, 50)
			list = append(list, m, withZeroRow(m, random.Intn(rows)))
			picked, ok := impl.PickMatrix(m, indicesOf(random, 8, rows), indicesOf(random, 8, cols))
			if !ok {
				t.Fatalf("PickMatrix(%+v, ..) fails", m)
			}
			list = append(list, picked)
		}
	}
	return list
}

// indicesOf returns so many numbers less than end.
func indicesOf(random *rand.Rand, count int, end int) []int {
	list := make([]int, count)
	for i := range list {
		list[i] = random.Intn(end)
	}
	return list
}

// withZeroRow returns the matrix with zeros in all of a row.
func withZeroRow(m impl.Matrix, x int) impl.Matrix {
	m.Bits = m.Bits[:x*m.Cols] + strings.Repeat("0", m.Cols) + m.Bits[(x+1)*m.Cols:]
	return m
}

// entriesOver returns the entries of a matrix as numbers, with zero in place of each 0.
func entriesOver(m impl.Matrix, zero int) [][]int {
	rows := make([][]int, m.Rows)
	for i := range m.Bits {
		n := zero
		if m.Bits[i] == '1' {
			n = 1
		}
		rows[i/m.Cols] = append(rows[i/m.Cols], n)
	}
	return rows
}

// A minorTable has the determinant of each set of rows and set of as many columns.
type minorTable [][]int

// minorsOf finds determinants from smaller ones: along the first row of each, with signs in turn.
func minorsOf(rows [][]int) minorTable {
	table := make(minorTable, 1<<len(rows))
	for r := range table {
		table[r] = make([]int, 1<<len(rows[0]))
		for c := range table[r] {
			if r == 0 || bits.OnesCount(uint(r)) != bits.OnesCount(uint(c)) {
				continue
			}
			x, sign := bits.TrailingZeros(uint(r)), 1
			for _, y := range numbersOf(c) {
				table[r][c] += sign * rows[x][y] * table[r&^(1<<x)][c&^(1<<y)]
				sign = -sign
			}
		}
		if r == 0 {
			table[0][0] = 1
		}
	}
	return table
}

// rank returns the size of the greatest determinant within the first rows that is not 0.
func (d minorTable) rank(rows int) int {
	greatest := 0
	for r := range 1 << rows {
		if slices.ContainsFunc(d[r], func(n int) bool { return n != 0 }) {
			greatest = max(greatest, bits.OnesCount(uint(r)))
		}
	}
	return greatest
}

// rankTwo counts the different sums of rows modulo 2: each row of a greatest set doubles them.
func rankTwo(m impl.Matrix) int {
	sums := map[uint64]bool{0: true}
	for x := range m.Rows {
		row, _ := strconv.ParseUint(m.Bits[x*m.Cols:(x+1)*m.Cols], 2, 64)
		var more []uint64
		for sum := range sums {
			more = append(more, sum^row)
		}
		for _, sum := range more {
			sums[sum] = true
		}
	}
	return bits.Len(uint(len(sums))) - 1
}

func differentRows(m impl.Matrix) int {
	rows := strings.Split(impl.FormatMatrix(m), "/")
	slices.Sort(rows)
	return len(slices.Compact(rows))
}

// otherOf returns the matrix with both values exchanged.
func otherOf(m impl.Matrix) impl.Matrix {
	m.Bits = strings.NewReplacer("0", "1", "1", "0").Replace(m.Bits)
	return m
}

// checkRanks checks all numbers of a matrix against the determinants of its parts.
func checkRanks(t *testing.T, m impl.Matrix) {
	t.Helper()
	minors := minorsOf(entriesOver(m, 0))
	rank := minors.rank(m.Rows)
	if n := impl.RankOf(m); n != rank {
		t.Errorf("RankOf(%+v) = %d, want %d", m, n, rank)
	}
	if n := impl.RankTwo(m); n != rankTwo(m) {
		t.Errorf("RankTwo(%+v) = %d, want %d", m, n, rankTwo(m))
	}
	if n, want := impl.SignRankOf(m), minorsOf(entriesOver(m, -1)).rank(m.Rows); n != want {
		t.Errorf("SignRankOf(%+v) = %d, want %d", m, n, want)
	}
	if n := impl.DifferentRows(m); n != differentRows(m) {
		t.Errorf("DifferentRows(%+v) = %d, want %d", m, n, differentRows(m))
	}
	both := rank + minorsOf(entriesOver(otherOf(m), 0)).rank(m.Rows)
	if n := impl.RankBound(m); n != bits.Len(uint(both-1)) {
		t.Errorf("RankBound(%+v) = %d of the ranks %d", m, n, both)
	}
	determinant := 0
	if m.Rows == m.Cols {
		determinant = minors[1<<m.Rows-1][1<<m.Cols-1]
	}
	if d, ok := impl.DeterminantOf(m); d != determinant || ok != (m.Rows == m.Cols) {
		t.Errorf("DeterminantOf(%+v) = %d, %v, want %d", m, d, ok, determinant)
	}
	var pivots []int
	for x := range m.Rows {
		if minors.rank(x+1) > minors.rank(x) {
			pivots = append(pivots, x)
		}
	}
	if list := impl.PivotsOf(m); !slices.Equal(list, pivots) {
		t.Errorf("PivotsOf(%+v) = %v, want %v", m, list, pivots)
	}
}

func TestRanksOfAllKinds(t *testing.T) {
	for _, m := range rankedMatrices(t) {
		checkRanks(t, m)
	}
}

func TestRankTexts(t *testing.T) {
	for _, c := range []struct {
		m                           string
		rank, two, sign, rows, bits int
		pivots                      []int
	}{
		{"0", 0, 0, 1, 1, 0, nil},
		{"1", 1, 1, 1, 1, 0, []int{0}},
		{"01", 1, 1, 1, 1, 1, []int{0}},
		{"0/1", 1, 1, 1, 2, 1, []int{1}},
		{"00000000", 0, 0, 1, 1, 0, nil},
		{"00000001", 1, 1, 1, 1, 1, []int{0}},
		{"0/0/0/0/0/0/0/0", 0, 0, 1, 1, 0, nil},
		{"0/0/0/0/0/0/0/1", 1, 1, 1, 2, 1, []int{7}},
		{"1/0/1/1/0/0/1/0", 1, 1, 1, 2, 1, []int{0}},
		{"11/11", 1, 1, 1, 1, 0, []int{0}},
		{"01/10", 2, 2, 1, 2, 2, []int{0, 1}},
		{"11/10", 2, 2, 2, 2, 2, []int{0, 1}},
		// Rows of zeros, first, between and last.
		{"000/000/101", 1, 1, 2, 2, 2, []int{2}},
		{"101/000/011/000", 2, 2, 3, 3, 3, []int{0, 2}},
		{"000/110/000/011/000/101", 3, 2, 3, 4, 3, []int{1, 3, 5}},
		// Rows that must be exchanged, once and again, and columns without a pivot.
		{"00/01", 1, 1, 2, 2, 2, []int{1}},
		{"001/010/100", 3, 3, 3, 3, 3, []int{0, 1, 2}},
		{"0001/0001/0110/0111/1000", 3, 3, 3, 4, 3, []int{0, 2, 4}},
		{"00011/00011/00101/00110", 3, 2, 3, 3, 3, []int{0, 2, 3}},
		// Only modulo 2 is the last row the sum of the others.
		{"110/011/101", 3, 2, 3, 3, 3, []int{0, 1, 2}},
		{"1110/1101/1011/1000", 4, 3, 4, 4, 3, []int{0, 1, 2, 3}},
		// The last row is a sum with a negative multiple, or with fractions.
		{"1100/0110/0011/1001", 3, 3, 2, 4, 3, []int{0, 1, 2}},
		{"110/011/101/111", 3, 3, 3, 4, 3, []int{0, 1, 2}},
		// The ranks of both values are 4 and 5, one of them only 4 modulo 2, so that the bound is 4.
		{"10111/00010/00001/00100/10001", 4, 4, 5, 5, 4, []int{0, 1, 2, 3}},
		{"01010/01100/10100/00111/11111", 5, 4, 5, 5, 4, []int{0, 1, 2, 3, 4}},
		{"0110/0110/1001", 2, 2, 1, 2, 2, []int{0, 2}},
		{"011/101", 2, 2, 2, 2, 2, []int{0, 1}},
		{"01/10/11", 2, 2, 2, 3, 2, []int{0, 1}},
	} {
		m := matrix(t, c.m)
		if n, two, sign := impl.RankOf(m), impl.RankTwo(m), impl.SignRankOf(m); n != c.rank || two != c.two || sign != c.sign {
			t.Errorf("%s: RankOf, RankTwo and SignRankOf are %d, %d and %d, want %d, %d and %d", c.m, n, two, sign, c.rank, c.two, c.sign)
		}
		if n, k := impl.DifferentRows(m), impl.RankBound(m); n != c.rows || k != c.bits {
			t.Errorf("%s: DifferentRows and RankBound are %d and %d, want %d and %d", c.m, n, k, c.rows, c.bits)
		}
		if list := impl.PivotsOf(m); !slices.Equal(list, c.pivots) {
			t.Errorf("PivotsOf(%q) = %v, want %v", c.m, list, c.pivots)
		}
	}
}

func TestRanksOfFamilies(t *testing.T) {
	for n := 1; n <= 8; n++ {
		same, _ := impl.EqualMatrix(n)
		great, _ := impl.GreaterMatrix(n)
		if impl.RankOf(same) != n || impl.RankTwo(same) != n || impl.DifferentRows(same) != n {
			t.Errorf("EqualMatrix(%d): %d, %d, %d", n, impl.RankOf(same), impl.RankTwo(same), impl.DifferentRows(same))
		}
		if impl.RankOf(great) != n-1 || impl.RankTwo(great) != n-1 || impl.SignRankOf(great) != n || impl.DifferentRows(great) != n {
			t.Errorf("GreaterMatrix(%d): %d, %d, %d", n, impl.RankOf(great), impl.RankTwo(great), impl.SignRankOf(great))
		}
		if list := impl.PivotsOf(great); len(list) != n-1 || n > 1 && (list[0] != 1 || list[n-2] != n-1) {
			t.Errorf("PivotsOf GreaterMatrix(%d) = %v", n, list)
		}
	}
	for n := 0; n <= 3; n++ {
		sets := 1 << n
		apart, _ := impl.DisjointMatrix(n)
		if impl.RankOf(apart) != sets || impl.RankTwo(apart) != sets || impl.RankBound(apart) != min(n, 1)*(n+1) {
			t.Errorf("DisjointMatrix(%d): %d, %d, %d", n, impl.RankOf(apart), impl.RankTwo(apart), impl.RankBound(apart))
		}
		inner, _ := impl.InnerMatrix(n)
		if impl.RankOf(inner) != sets-1 || impl.RankTwo(inner) != n || impl.SignRankOf(inner) != sets {
			t.Errorf("InnerMatrix(%d): %d, %d, %d", n, impl.RankOf(inner), impl.RankTwo(inner), impl.SignRankOf(inner))
		}
	}
	for n := 1; n <= 3; n++ {
		index, _ := impl.IndexMatrix(n)
		if impl.RankOf(index) != n || impl.RankTwo(index) != n || impl.DifferentRows(index) != 1<<n {
			t.Errorf("IndexMatrix(%d): %d, %d, %d", n, impl.RankOf(index), impl.RankTwo(index), impl.DifferentRows(index))
		}
	}
}

func TestDeterminantTexts(t *testing.T) {
	for s, want := range map[string]int{
		"0": 0, "1": 1,
		"00/00": 0, "11/11": 0, "10/01": 1, "01/10": -1, "11/10": -1, "11/01": 1, "01/11": -1,
		"011/101/110": 2, "110/011/101": 2, "101/011/110": -2,
		// Rows are exchanged an odd and an even number of times.
		"001/010/100": -1, "010/001/100": 1, "010/100/001": -1,
		"000/010/100": 0, "100/000/001": 0, "110/001/110": 0, "100/100/011": 0,
		"0111/1011/1101/1110": -3, "0001/0010/0100/1000": 1, "1111/0111/0011/0001": 1,
		// Determinants of 8 by 8 matrices: 56 is the greatest of all.
		"11100100/10011101/00101110/01111000/01010111/11001011/10110010/00100001": 56,
		"10011101/11100100/00101110/01111000/01010111/11001011/10110010/00100001": -56,
		"11100100/10011101/00101110/01111000/01010111/11001011/10110010/10110010": 0,
		"01111111/10111111/11011111/11101111/11110111/11111011/11111101/11111110": -7,
		"00000001/00000010/00000100/00001000/00010000/00100000/01000000/10000000": 1,
		"00000010/00000001/00000100/00001000/00010000/00100000/01000000/10000000": -1,
		"01000000/00100000/00010000/00001000/00000100/00000010/00000001/10000000": -1,
		"00000000/11111111/11111111/11111111/11111111/11111111/11111111/11111111": 0,
		"1010101/0110011/1100110/0001111/1011010/0111100/1101001":                 -32,
		"01010101/00110011/01100110/00001111/01011010/00111100/01101001/00000000": 0,
		"11111111/10101010/11001100/10011001/11110000/10100101/11000011/10010110": 32,
	} {
		if d, ok := impl.DeterminantOf(matrix(t, s)); d != want || !ok {
			t.Errorf("DeterminantOf(%q) = %d, %v, want %d", s, d, ok, want)
		}
	}
	for _, s := range []string{"01", "1/0", "011/101", "01/10/11", "00000000", "1/1/1/1/1/1/1/1", strings.Repeat("10000000/", 6) + "01111111", strings.Repeat("1000000/", 7) + "0111111"} {
		if d, ok := impl.DeterminantOf(matrix(t, s)); d != 0 || ok {
			t.Errorf("DeterminantOf(%q) = %d, %v", s, d, ok)
		}
	}
}

// TestDeterminantsOfExchangedRows checks that rows in another order have the sign of that order.
func TestDeterminantsOfExchangedRows(t *testing.T) {
	random := rand.New(rand.NewSource(7))
	for range 200 {
		n := 1 + random.Intn(8)
		m, order := randomMatrix(random, n, n, 60), random.Perm(n)
		sign := 1
		for i, x := range order {
			for _, before := range order[:i] {
				if before > x {
					sign = -sign
				}
			}
		}
		d, _ := impl.DeterminantOf(m)
		for _, lists := range [][2][]int{{order, ascending(n)}, {ascending(n), order}} {
			picked, _ := impl.PickMatrix(m, lists[0], lists[1])
			if got, ok := impl.DeterminantOf(picked); got != sign*d || !ok {
				t.Errorf("DeterminantOf(%+v) = %d, %v, want %d", picked, got, ok, sign*d)
			}
		}
	}
}

// ascending returns the numbers less than end.
func ascending(end int) []int {
	var list []int
	for i := range end {
		list = append(list, i)
	}
	return list
}

func TestRanksOfFullMatrices(t *testing.T) {
	for rows := 1; rows <= 8; rows++ {
		for cols := 1; cols <= 8; cols++ {
			for bit := range 2 {
				m := fullMatrix(rows, cols, strconv.Itoa(bit))
				if impl.RankOf(m) != bit || impl.RankTwo(m) != bit || impl.SignRankOf(m) != 1 || impl.DifferentRows(m) != 1 || impl.RankBound(m) != 0 {
					t.Errorf("%+v: %d, %d, %d, %d, %d", m, impl.RankOf(m), impl.RankTwo(m), impl.SignRankOf(m), impl.DifferentRows(m), impl.RankBound(m))
				}
				if list := impl.PivotsOf(m); !slices.Equal(list, []int{0}[:bit]) {
					t.Errorf("PivotsOf(%+v) = %v", m, list)
				}
				determinant := 0
				if rows == 1 && cols == 1 {
					determinant = bit
				}
				if d, ok := impl.DeterminantOf(m); d != determinant || ok != (rows == cols) {
					t.Errorf("DeterminantOf(%+v) = %d, %v", m, d, ok)
				}
			}
		}
	}
}

func TestRanksOfInvalidMatrices(t *testing.T) {
	for name, m := range invalidMatrices() {
		for what, f := range map[string]func(impl.Matrix) int{
			"RankOf": impl.RankOf, "RankTwo": impl.RankTwo, "SignRankOf": impl.SignRankOf,
			"DifferentRows": impl.DifferentRows, "RankBound": impl.RankBound,
		} {
			if n := f(m); n != -1 {
				t.Errorf("%s: %s = %d", name, what, n)
			}
		}
		if d, ok := impl.DeterminantOf(m); d != 0 || ok {
			t.Errorf("%s: DeterminantOf = %d, %v", name, d, ok)
		}
		if list := impl.PivotsOf(m); len(list) != 0 {
			t.Errorf("%s: PivotsOf = %v", name, list)
		}
	}
}

func TestPivotsAreNew(t *testing.T) {
	m := matrix(t, "000/110/110/011")
	for range 2 {
		list := impl.PivotsOf(m)
		if !slices.Equal(list, []int{1, 3}) {
			t.Errorf("PivotsOf = %v", list)
		}
		clear(list[:cap(list)])
	}
}

// checkRankLaws checks what the ranks of a matrix tell of each other.
func checkRankLaws(t *testing.T, m impl.Matrix) {
	t.Helper()
	rank, two, sign := impl.RankOf(m), impl.RankTwo(m), impl.SignRankOf(m)
	other, _ := impl.OtherMatrix(m)
	if two > rank || rank > min(impl.DifferentRows(m), m.Cols) {
		t.Errorf("%+v: RankTwo %d, RankOf %d, DifferentRows %d", m, two, rank, impl.DifferentRows(m))
	}
	// Each of these matrices is another one plus or minus one of all ones, or twice that.
	if max(rank-sign, sign-rank, rank-impl.RankOf(other), impl.RankOf(other)-rank, two-impl.RankTwo(other), impl.RankTwo(other)-two) > 1 || impl.SignRankOf(other) != sign {
		t.Errorf("%+v: the ranks are %d, %d and %d, those of the other one %d, %d and %d", m, rank, two, sign, impl.RankOf(other), impl.RankTwo(other), impl.SignRankOf(other))
	}
	turned, _ := impl.TurnMatrix(m)
	shrunk, _ := impl.ShrinkMatrix(m)
	for _, n := range []impl.Matrix{turned, shrunk} {
		if impl.RankOf(n) != rank || impl.RankTwo(n) != two || impl.SignRankOf(n) != sign || impl.RankBound(n) != impl.RankBound(m) {
			t.Errorf("the ranks of %+v are %d, %d and %d, those of %+v %d, %d and %d", m, rank, two, sign, n, impl.RankOf(n), impl.RankTwo(n), impl.SignRankOf(n))
		}
	}
	if impl.DifferentRows(shrunk) != shrunk.Rows || shrunk.Rows != impl.DifferentRows(m) {
		t.Errorf("DifferentRows(%+v) = %d, of %+v it is %d", m, impl.DifferentRows(m), shrunk, impl.DifferentRows(shrunk))
	}
	if d, ok := impl.DeterminantOf(m); ok && ((d != 0) != (rank == m.Rows) || d%2 != 0 != (two == m.Rows)) {
		t.Errorf("%+v: RankOf %d, RankTwo %d, DeterminantOf %d", m, rank, two, d)
	}
	d, _ := impl.DeterminantOf(m)
	if e, _ := impl.DeterminantOf(turned); e != d {
		t.Errorf("DeterminantOf(%+v) = %d, turned %d", m, d, e)
	}
}

func TestRankLaws(t *testing.T) {
	for _, m := range rankedMatrices(t) {
		checkRankLaws(t, m)
		pivots := impl.PivotsOf(m)
		if len(pivots) != impl.RankOf(m) {
			t.Errorf("RankOf(%+v) = %d, PivotsOf are %v", m, impl.RankOf(m), pivots)
		}
		if len(pivots) == 0 {
			continue
		}
		// The pivots alone have the rank of all rows.
		picked, _ := impl.PickMatrix(m, pivots, ascending(m.Cols))
		if impl.RankOf(picked) != len(pivots) || !slices.Equal(impl.PivotsOf(picked), ascending(len(pivots))) {
			t.Errorf("RankOf(%+v) = %d, PivotsOf are %v", picked, impl.RankOf(picked), impl.PivotsOf(picked))
		}
	}
}

func TestRanksOfPairs(t *testing.T) {
	list := smallMatrices()
	for i, m := range list {
		n := list[(i*i+5)%len(list)]
		if both, ok := impl.PairMatrices("and", m, n); ok {
			if rank := impl.RankOf(both); rank != impl.RankOf(m)*impl.RankOf(n) {
				t.Errorf("RankOf(%+v) = %d, of %+v it is %d, of %+v %d", both, rank, m, impl.RankOf(m), n, impl.RankOf(n))
			}
		}
		if both, ok := impl.PairMatrices("xor", m, n); ok {
			if rank := impl.SignRankOf(both); rank != impl.SignRankOf(m)*impl.SignRankOf(n) {
				t.Errorf("SignRankOf(%+v) = %d, of %+v it is %d, of %+v %d", both, rank, m, impl.SignRankOf(m), n, impl.SignRankOf(n))
			}
		}
	}
}

// TestPartitionsAndRanks checks the promise: no partition has fewer rectangles of ones than the rank.
func TestPartitionsAndRanks(t *testing.T) {
	for _, m := range partedMatrices() {
		ones := newPieceCount(m, plainRects(m, 1), true).of(entriesWith(m, 1))
		if ones < impl.RankOf(m) || ones < impl.RankTwo(m) {
			t.Errorf("%+v: %d rectangles have all ones, RankOf is %d and RankTwo %d", m, ones, impl.RankOf(m), impl.RankTwo(m))
		}
		other, _ := impl.OtherMatrix(m)
		if n := impl.PartitionNumber(m); n < impl.RankOf(m)+impl.RankOf(other) || impl.BitsFor(n) < impl.RankBound(m) {
			t.Errorf("%+v: PartitionNumber is %d, RankOf %d and %d, RankBound %d", m, n, impl.RankOf(m), impl.RankOf(other), impl.RankBound(m))
		}
	}
}

// TestRanksOfPartitions checks the promise with all partitions of some matrices, and for which of them the rank is as great.
func TestRanksOfPartitions(t *testing.T) {
	for _, m := range smallMatrices() {
		if len(m.Bits) > 4 {
			continue
		}
		fewest := 100
		for _, chosen := range choicesOf(rectsWithin(m.Rows, m.Cols)) {
			if impl.IsPartition(m, chosen) {
				zero := func(r impl.Rect) bool { return impl.ColourOf(m, r) == 0 }
				fewest = min(fewest, len(slices.DeleteFunc(chosen, zero)))
			}
		}
		// So few entries need no more rectangles than the rank.
		if fewest != impl.RankOf(m) {
			t.Errorf("%+v: partitions have %d rectangles of ones, RankOf is %d", m, fewest, impl.RankOf(m))
		}
	}
	// Equal inputs need as many rectangles as rows, and here the rank tells it.
	for n := 1; n <= 3; n++ {
		m, _ := impl.EqualMatrix(n)
		other, _ := impl.OtherMatrix(m)
		if parts := newPieceCount(m, plainRects(m, 1), true).of(entriesWith(m, 1)); parts != n || impl.RankOf(m) != n || impl.RankOf(other) > impl.PartitionNumber(m)-n {
			t.Errorf("EqualMatrix(%d): %d rectangles of ones, RankOf is %d", n, parts, impl.RankOf(m))
		}
	}
}
