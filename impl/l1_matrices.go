package impl

import (
	"math/bits"
	"slices"
	"strings"
)

// MaxSide limits matrices.
const MaxSide = 8

// maxThings limits the things whose sets are sides of a matrix.
const maxThings = 3

// A Matrix tells a function of a row and a column.
type Matrix struct {
	Rows int
	Cols int
	Bits string
}

// A line is a row or a column. Its places past the end are 0, so that two
// lines of one grid are equal as arrays exactly if their entries are.
type line [MaxSide]int

// A grid has the entries of a valid matrix as numbers. The zero grid, which
// has no rows, stands for a matrix that is not valid.
type grid struct {
	rows  int
	cols  int
	lines [MaxSide]line
}

// gridOf returns the entries of a matrix, and the zero grid if it is not valid.
func gridOf(m Matrix) grid {
	var g grid
	if !MatrixValid(m) {
		return g
	}
	g.rows, g.cols = m.Rows, m.Cols
	for i := range len(m.Bits) {
		g.lines[i/m.Cols][i%m.Cols] = int(m.Bits[i] - '0')
	}
	return g
}

func (g grid) has(x int, y int) bool {
	return isIndex(x, g.rows) && isIndex(y, g.cols)
}

func (g grid) entry(x int, y int) int { return g.lines[x][y] }

func (g grid) row(x int) line { return g.lines[x] }

func (g grid) col(y int) line {
	var c line
	for x := range g.rows {
		c[x] = g.lines[x][y]
	}
	return c
}

// firstsOf returns the indices less than count of the values that are equal
// to none before them.
func firstsOf[T comparable](count int, value func(int) T) []int {
	var firsts []int
	for i := range count {
		same := func(j int) bool { return value(j) == value(i) }
		if !slices.ContainsFunc(firsts, same) {
			firsts = append(firsts, i)
		}
	}
	return firsts
}

// matrixFrom returns the matrix of the entries, each 0 or 1, of so many rows
// and columns, and whether there can be so many.
func matrixFrom(rows int, cols int, entry func(x int, y int) int) (Matrix, bool) {
	if !sideValid(rows) || !sideValid(cols) {
		return Matrix{}, false
	}
	text := make([]byte, 0, rows*cols)
	for x := range rows {
		for y := range cols {
			text = append(text, '0'+byte(entry(x, y)))
		}
	}
	return Matrix{Rows: rows, Cols: cols, Bits: string(text)}, true
}

func sideValid(n int) bool { return n >= 1 && n <= MaxSide }

func isIndex(i int, count int) bool { return i >= 0 && i < count }

func areIndices(list []int, count int) bool {
	for _, i := range list {
		if !isIndex(i, count) {
			return false
		}
	}
	return true
}

func bitOf(truth bool) int {
	if truth {
		return 1
	}
	return 0
}

// operationOf returns what combines two entries, and whether op is its name.
func operationOf(op string) (func(a int, b int) int, bool) {
	switch op {
	case "and":
		return func(a int, b int) int { return a & b }, true
	case "or":
		return func(a int, b int) int { return a | b }, true
	case "xor":
		return func(a int, b int) int { return a ^ b }, true
	}
	return nil, false
}

// MatrixValid reports whether a matrix is valid.
func MatrixValid(m Matrix) bool {
	if !sideValid(m.Rows) || !sideValid(m.Cols) || len(m.Bits) != m.Rows*m.Cols {
		return false
	}
	return strings.Trim(m.Bits, "01") == ""
}

// FormatMatrix returns the text of a matrix.
func FormatMatrix(m Matrix) string {
	if !MatrixValid(m) {
		return ""
	}
	rows := make([]string, m.Rows)
	for x := range rows {
		rows[x] = m.Bits[x*m.Cols : (x+1)*m.Cols]
	}
	return strings.Join(rows, "/")
}

// ParseMatrix parses the text of a matrix.
func ParseMatrix(s string) (Matrix, bool) {
	rows := strings.Split(s, "/")
	m := Matrix{Rows: len(rows), Cols: len(rows[0]), Bits: strings.Join(rows, "")}
	// Rows of different lengths may have as many bytes as a matrix in all, and
	// the empty text is that of each matrix that is not valid.
	if !MatrixValid(m) || FormatMatrix(m) != s {
		return Matrix{}, false
	}
	return m, true
}

// EntryOf returns an entry of a matrix.
func EntryOf(m Matrix, x int, y int) int {
	g := gridOf(m)
	if !g.has(x, y) {
		return -1
	}
	return g.entry(x, y)
}

// TurnMatrix exchanges rows and columns.
func TurnMatrix(m Matrix) (Matrix, bool) {
	g := gridOf(m)
	return matrixFrom(g.cols, g.rows, func(x int, y int) int { return g.entry(y, x) })
}

// OtherMatrix exchanges both values.
func OtherMatrix(m Matrix) (Matrix, bool) {
	g := gridOf(m)
	return matrixFrom(g.rows, g.cols, func(x int, y int) int { return 1 - g.entry(x, y) })
}

// PickMatrix returns some rows and columns of a matrix.
func PickMatrix(m Matrix, rows []int, cols []int) (Matrix, bool) {
	g := gridOf(m)
	if !areIndices(rows, g.rows) || !areIndices(cols, g.cols) {
		return Matrix{}, false
	}
	return matrixFrom(len(rows), len(cols), func(x int, y int) int { return g.entry(rows[x], cols[y]) })
}

// ShrinkMatrix leaves out rows and columns that are equal to one before them.
func ShrinkMatrix(m Matrix) (Matrix, bool) {
	g := gridOf(m)
	return PickMatrix(m, firstsOf(g.rows, g.row), firstsOf(g.cols, g.col))
}

// JoinMatrices combines two matrices entry by entry.
func JoinMatrices(op string, m Matrix, n Matrix) (Matrix, bool) {
	g, h := gridOf(m), gridOf(n)
	combine, ok := operationOf(op)
	if !ok || g.rows != h.rows || g.cols != h.cols {
		return Matrix{}, false
	}
	return matrixFrom(g.rows, g.cols, func(x int, y int) int {
		return combine(g.entry(x, y), h.entry(x, y))
	})
}

// PairMatrices combines two matrices by pairs of rows and of columns.
func PairMatrices(op string, m Matrix, n Matrix) (Matrix, bool) {
	g, h := gridOf(m), gridOf(n)
	combine, ok := operationOf(op)
	if !ok {
		return Matrix{}, false
	}
	return matrixFrom(g.rows*h.rows, g.cols*h.cols, func(x int, y int) int {
		return combine(g.entry(x/h.rows, y/h.cols), h.entry(x%h.rows, y%h.cols))
	})
}

// EqualMatrix returns the matrix that tells whether row and column are equal.
func EqualMatrix(n int) (Matrix, bool) {
	return matrixFrom(n, n, func(x int, y int) int { return bitOf(x == y) })
}

// GreaterMatrix returns the matrix that tells whether the row is greater.
func GreaterMatrix(n int) (Matrix, bool) {
	return matrixFrom(n, n, func(x int, y int) int { return bitOf(x > y) })
}

// setsOf returns the number of sets of n things, and 0, which is no side of a
// matrix, if it is greater than MaxSide or n is negative.
func setsOf(n int) int {
	if n < 0 || n > maxThings {
		return 0
	}
	return 1 << n
}

// DisjointMatrix returns the matrix that tells whether two sets have nothing in common.
func DisjointMatrix(n int) (Matrix, bool) {
	sets := setsOf(n)
	return matrixFrom(sets, sets, func(x int, y int) int { return bitOf(x&y == 0) })
}

// InnerMatrix returns the matrix that tells whether two sets have an odd number in common.
func InnerMatrix(n int) (Matrix, bool) {
	sets := setsOf(n)
	return matrixFrom(sets, sets, func(x int, y int) int { return bits.OnesCount(uint(x&y)) % 2 })
}

// IndexMatrix returns the matrix that tells a bit of the row.
func IndexMatrix(n int) (Matrix, bool) {
	return matrixFrom(setsOf(n), n, func(x int, y int) int { return x >> y & 1 })
}

// CountOnes returns the number of entries that are 1.
func CountOnes(m Matrix) int {
	if !MatrixValid(m) {
		return -1
	}
	return strings.Count(m.Bits, "1")
}
