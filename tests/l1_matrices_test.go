package tests

import (
	"math"
	"math/bits"
	"slices"
	"strconv"
	"strings"
	"testing"

	"loop.example/twoplayers/impl"
)

// matrix parses a text that is known to be one of a matrix.
func matrix(t *testing.T, s string) impl.Matrix {
	t.Helper()
	m, ok := impl.ParseMatrix(s)
	if !ok {
		t.Fatalf("ParseMatrix(%q) fails", s)
	}
	return m
}

// wantMatrix checks a result that is a matrix with this text, or none if the text is empty.
func wantMatrix(t *testing.T, name string, m impl.Matrix, ok bool, want string) {
	t.Helper()
	if ok != (want != "") || !ok && m != (impl.Matrix{}) || impl.FormatMatrix(m) != want {
		t.Errorf("%s = %+v, %v; want %q", name, m, ok, want)
	}
}

// invalidMatrices returns matrices of each kind that is not valid.
func invalidMatrices() map[string]impl.Matrix {
	huge := 1 << 32 // its product with itself wraps around to 0
	return map[string]impl.Matrix{
		"zero":             {},
		"no rows":          {Rows: 0, Cols: 2},
		"no columns":       {Rows: 2, Cols: 0},
		"negative rows":    {Rows: -1, Cols: 1, Bits: "0"},
		"negative columns": {Rows: 1, Cols: -1, Bits: "0"},
		"both negative":    {Rows: -2, Cols: -2, Bits: "0101"},
		"rows past 8":      {Rows: 9, Cols: 1, Bits: "000000000"},
		"columns past 8":   {Rows: 1, Cols: 9, Bits: "000000000"},
		"product wraps":    {Rows: huge, Cols: huge},
		"greatest":         {Rows: math.MaxInt, Cols: math.MaxInt, Bits: "1"},
		"least":            {Rows: math.MinInt, Cols: math.MinInt},
		"no bits":          {Rows: 1, Cols: 1},
		"bits missing":     {Rows: 2, Cols: 2, Bits: "010"},
		"bits too many":    {Rows: 2, Cols: 2, Bits: "01010"},
		"digit 2":          {Rows: 1, Cols: 2, Bits: "02"},
		"byte before 0":    {Rows: 1, Cols: 3, Bits: "0/1"},
		"space":            {Rows: 1, Cols: 2, Bits: " 1"},
		"byte zero":        {Rows: 1, Cols: 2, Bits: "1\x00"},
		"byte one":         {Rows: 1, Cols: 2, Bits: "0\x01"},
		"byte 255":         {Rows: 1, Cols: 2, Bits: "1\xff"},
		"two-byte rune":    {Rows: 1, Cols: 1, Bits: "\u0661"},
	}
}

// smallMatrices returns all matrices with at most 3 rows and 3 columns.
func smallMatrices() []impl.Matrix {
	var list []impl.Matrix
	for rows := 1; rows <= 3; rows++ {
		for cols := 1; cols <= 3; cols++ {
			for n := range 1 << (rows * cols) {
				text := make([]byte, rows*cols)
				for i := range text {
					text[i] = '0' + byte(n>>i&1)
				}
				list = append(list, impl.Matrix{Rows: rows, Cols: cols, Bits: string(text)})
			}
		}
	}
	return list
}

func TestMatrixValid(t *testing.T) {
	for name, m := range invalidMatrices() {
		if impl.MatrixValid(m) {
			t.Errorf("%s: MatrixValid(%+v)", name, m)
		}
	}
	for rows := 1; rows <= impl.MaxSide; rows++ {
		for cols := 1; cols <= impl.MaxSide; cols++ {
			m := impl.Matrix{Rows: rows, Cols: cols, Bits: strings.Repeat("01", 32)[:rows*cols]}
			if !impl.MatrixValid(m) {
				t.Errorf("MatrixValid(%+v) is false", m)
			}
		}
	}
	if impl.MaxSide != 8 {
		t.Errorf("MaxSide = %d", impl.MaxSide)
	}
}

func TestInvalidMatrices(t *testing.T) {
	good := impl.Matrix{Rows: 2, Cols: 2, Bits: "0110"}
	for name, m := range invalidMatrices() {
		if s := impl.FormatMatrix(m); s != "" {
			t.Errorf("%s: FormatMatrix = %q", name, s)
		}
		if n := impl.EntryOf(m, 0, 0); n != -1 {
			t.Errorf("%s: EntryOf = %d", name, n)
		}
		if n := impl.CountOnes(m); n != -1 {
			t.Errorf("%s: CountOnes = %d", name, n)
		}
		n, ok := impl.TurnMatrix(m)
		wantMatrix(t, name+": TurnMatrix", n, ok, "")
		n, ok = impl.OtherMatrix(m)
		wantMatrix(t, name+": OtherMatrix", n, ok, "")
		n, ok = impl.PickMatrix(m, []int{0}, []int{0})
		wantMatrix(t, name+": PickMatrix", n, ok, "")
		n, ok = impl.PickMatrix(m, nil, nil)
		wantMatrix(t, name+": PickMatrix of nothing", n, ok, "")
		n, ok = impl.ShrinkMatrix(m)
		wantMatrix(t, name+": ShrinkMatrix", n, ok, "")
		for _, op := range []string{"and", "or", "xor"} {
			for _, pair := range [][2]impl.Matrix{{m, good}, {good, m}, {m, m}} {
				n, ok = impl.JoinMatrices(op, pair[0], pair[1])
				wantMatrix(t, name+": JoinMatrices "+op, n, ok, "")
				n, ok = impl.PairMatrices(op, pair[0], pair[1])
				wantMatrix(t, name+": PairMatrices "+op, n, ok, "")
			}
		}
	}
}

func TestFormatAndParseMatrix(t *testing.T) {
	for s, want := range map[string]impl.Matrix{
		"0":               {Rows: 1, Cols: 1, Bits: "0"},
		"1":               {Rows: 1, Cols: 1, Bits: "1"},
		"01/10":           {Rows: 2, Cols: 2, Bits: "0110"},
		"011/101":         {Rows: 2, Cols: 3, Bits: "011101"},
		"01/11/01":        {Rows: 3, Cols: 2, Bits: "011101"},
		"10110101":        {Rows: 1, Cols: 8, Bits: "10110101"},
		"1/0/1/1/0/1/0/1": {Rows: 8, Cols: 1, Bits: "10110101"},
		strings.Repeat("01100110/", 7) + "11110000": {Rows: 8, Cols: 8, Bits: strings.Repeat("01100110", 7) + "11110000"},
	} {
		if m, ok := impl.ParseMatrix(s); m != want || !ok {
			t.Errorf("ParseMatrix(%q) = %+v, %v", s, m, ok)
		}
		if f := impl.FormatMatrix(want); f != s {
			t.Errorf("FormatMatrix(%+v) = %q, want %q", want, f, s)
		}
	}
	for _, m := range smallMatrices() {
		if n, ok := impl.ParseMatrix(impl.FormatMatrix(m)); n != m || !ok {
			t.Errorf("ParseMatrix of FormatMatrix of %+v = %+v, %v", m, n, ok)
		}
	}
}

func TestParseNoMatrix(t *testing.T) {
	for _, s := range []string{
		"", "/", "//", "/0", "0/", "01//10", "0//", "01/1", "0/11", "01/0/111", "0/11/0/11", "00/1/000",
		"2", "a", "0 ", " 0", "0\n", "0,1", "01\\10", "-1", "+1", "0\x001", "\xff", "01/1\xff", "\u0661",
		"000000000", "0/0/0/0/0/0/0/0/0", strings.Repeat("/", 8), strings.Repeat("0/", 8),
		strings.Repeat("00000000/", 8) + "00000000", strings.Repeat("0", 100000), strings.Repeat("0/", 100000) + "0",
	} {
		m, ok := impl.ParseMatrix(s)
		wantMatrix(t, "ParseMatrix of "+strconv.Quote(s[:min(len(s), 20)]), m, ok, "")
	}
}

func TestEntryOf(t *testing.T) {
	for _, m := range smallMatrices() {
		for x := -1; x <= m.Rows; x++ {
			for y := -1; y <= m.Cols; y++ {
				want := -1
				if x >= 0 && x < m.Rows && y >= 0 && y < m.Cols {
					want = int(m.Bits[x*m.Cols+y] - '0')
				}
				if got := impl.EntryOf(m, x, y); got != want {
					t.Errorf("EntryOf(%+v, %d, %d) = %d, want %d", m, x, y, got, want)
				}
			}
		}
	}
	m := matrix(t, "01/10")
	for _, x := range []int{2, 8, -1, 1 << 32, math.MaxInt, math.MinInt} {
		if impl.EntryOf(m, x, 0) != -1 || impl.EntryOf(m, 0, x) != -1 || impl.EntryOf(m, x, x) != -1 {
			t.Errorf("EntryOf knows the row or the column %d", x)
		}
	}
}

func TestTurnMatrix(t *testing.T) {
	for s, want := range map[string]string{
		"0": "0", "1": "1", "011": "0/1/1", "0/1/1": "011", "011/101": "01/10/11", "01/00": "00/10",
		"10000000": "1/0/0/0/0/0/0/0",
	} {
		n, ok := impl.TurnMatrix(matrix(t, s))
		wantMatrix(t, "TurnMatrix("+s+")", n, ok, want)
	}
	for _, m := range smallMatrices() {
		n, ok := impl.TurnMatrix(m)
		if !ok || n.Rows != m.Cols || n.Cols != m.Rows {
			t.Errorf("TurnMatrix(%+v) = %+v, %v", m, n, ok)
		}
		for x := range m.Rows {
			for y := range m.Cols {
				if impl.EntryOf(n, y, x) != impl.EntryOf(m, x, y) {
					t.Errorf("TurnMatrix(%+v) = %+v", m, n)
				}
			}
		}
	}
}

func TestOtherMatrixAndCountOnes(t *testing.T) {
	for s, want := range map[string]string{"0": "1", "1": "0", "011/101": "100/010", "00000000": "11111111"} {
		n, ok := impl.OtherMatrix(matrix(t, s))
		wantMatrix(t, "OtherMatrix("+s+")", n, ok, want)
	}
	for s, want := range map[string]int{"0": 0, "1": 1, "011/101": 4, "0/0/0": 0, "111/111": 6, "10000001": 2} {
		if n := impl.CountOnes(matrix(t, s)); n != want {
			t.Errorf("CountOnes(%q) = %d, want %d", s, n, want)
		}
	}
	if n := impl.CountOnes(impl.Matrix{Rows: 8, Cols: 8, Bits: strings.Repeat("1", 64)}); n != 64 {
		t.Errorf("CountOnes of the greatest matrix of ones = %d", n)
	}
	for _, m := range smallMatrices() {
		n, ok := impl.OtherMatrix(m)
		back, ok2 := impl.OtherMatrix(n)
		if !ok || !ok2 || back != m || impl.CountOnes(m)+impl.CountOnes(n) != m.Rows*m.Cols {
			t.Errorf("OtherMatrix(%+v) = %+v", m, n)
		}
	}
}

func TestPickMatrix(t *testing.T) {
	for _, c := range []struct {
		m          string
		rows, cols []int
		want       string
	}{
		{"011/101", []int{0, 1}, []int{0, 1, 2}, "011/101"},
		{"011/101", []int{1, 0}, []int{2, 1, 0}, "101/110"},
		{"011/101", []int{1, 1}, []int{2, 0, 1}, "110/110"},
		{"011/101", []int{1}, []int{1}, "0"},
		{"011/100", []int{1, 0}, []int{0}, "1/0"},
		{"01", []int{0, 0, 0, 0, 0, 0, 0, 0}, []int{1, 1, 1, 1, 1, 1, 1, 0}, strings.Repeat("11111110/", 7) + "11111110"},
		{"01", []int{0, 0, 0, 0, 0, 0, 0, 0, 0}, []int{1}, ""},
		{"01", []int{0}, []int{1, 1, 1, 1, 1, 1, 1, 1, 1}, ""},
		{"011/101", nil, []int{0}, ""},
		{"011/101", []int{0}, nil, ""},
		{"011/101", []int{}, []int{}, ""},
		{"011/101", []int{2}, []int{0}, ""},
		{"011/101", []int{0}, []int{3}, ""},
		{"011/101", []int{0, -1}, []int{0}, ""},
		{"011/101", []int{0}, []int{0, -1}, ""},
		{"011/101", []int{0, 1, 2}, []int{0}, ""},
		{"011/101", []int{2}, []int{2}, ""},
		{"011/101", []int{math.MaxInt}, []int{0}, ""},
		{"011/101", []int{0}, []int{math.MinInt}, ""},
		{"011/101", []int{0}, []int{1 << 32}, ""},
		{"011/101", make([]int, 100000), []int{0}, ""},
	} {
		n, ok := impl.PickMatrix(matrix(t, c.m), c.rows, c.cols)
		wantMatrix(t, "PickMatrix of "+c.m, n, ok, c.want)
	}
}

func TestPickMatrixLeavesLists(t *testing.T) {
	rows, cols := []int{1, 0, 7, 7}, []int{2, 2, 7, 7}
	n, ok := impl.PickMatrix(matrix(t, "011/100"), rows[:2], cols[:1])
	wantMatrix(t, "PickMatrix", n, ok, "0/1")
	if !slices.Equal(rows, []int{1, 0, 7, 7}) || !slices.Equal(cols, []int{2, 2, 7, 7}) {
		t.Errorf("PickMatrix changed its lists to %v and %v", rows, cols)
	}
}

// firstLines returns the rows of a text that are equal to none before them.
func firstLines(rows []string) []int {
	var firsts []int
	for x, row := range rows {
		if slices.Index(rows, row) == x {
			firsts = append(firsts, x)
		}
	}
	return firsts
}

func TestShrinkMatrix(t *testing.T) {
	for s, want := range map[string]string{
		"0": "0", "1": "1", "0000": "0", "1/1/1": "1", "0110": "01", "1001": "10", "1/0/0/1": "1/0",
		"0110/0110/1001": "01/10", "01/10/01": "01/10", "011/101/110": "011/101/110",
		"000/000/000": "0", "10/10": "10", "11/00": "1/0", "0010/0100/0010": "001/010",
		"00000001/00000001": "01", "010/000": "01/00",
	} {
		n, ok := impl.ShrinkMatrix(matrix(t, s))
		wantMatrix(t, "ShrinkMatrix("+s+")", n, ok, want)
	}
	for _, m := range smallMatrices() {
		turned, _ := impl.TurnMatrix(m)
		rows := firstLines(strings.Split(impl.FormatMatrix(m), "/"))
		cols := firstLines(strings.Split(impl.FormatMatrix(turned), "/"))
		want, _ := impl.PickMatrix(m, rows, cols)
		if n, ok := impl.ShrinkMatrix(m); n != want || !ok {
			t.Errorf("ShrinkMatrix(%+v) = %+v, %v, want %+v", m, n, ok, want)
		}
	}
}

// combined returns the value of an operation on two entries.
func combined(op string, a int, b int) int {
	return map[string][4]int{"and": {0, 0, 0, 1}, "or": {0, 1, 1, 1}, "xor": {0, 1, 1, 0}}[op][2*a+b]
}

// otherOps returns words that are no operation.
func otherOps() []string {
	return []string{"", "nor", "AND", "And", " and", "and ", "an", "ands", "andor", "xo", "xor\n", "or\x00", "&", "not"}
}

func TestJoinMatrices(t *testing.T) {
	list := smallMatrices()
	for _, op := range []string{"and", "or", "xor"} {
		for i, m := range list {
			for _, n := range list[max(0, i-16):min(len(list), i+16)] {
				joined, ok := impl.JoinMatrices(op, m, n)
				if m.Rows != n.Rows || m.Cols != n.Cols {
					wantMatrix(t, "JoinMatrices of other sizes", joined, ok, "")
					continue
				}
				want := make([]byte, len(m.Bits))
				for k := range want {
					want[k] = '0' + byte(combined(op, int(m.Bits[k]-'0'), int(n.Bits[k]-'0')))
				}
				if joined != (impl.Matrix{Rows: m.Rows, Cols: m.Cols, Bits: string(want)}) || !ok {
					t.Errorf("JoinMatrices(%q, %+v, %+v) = %+v, %v", op, m, n, joined, ok)
				}
			}
		}
	}
}

func TestJoinOtherMatrices(t *testing.T) {
	for _, c := range [][2]string{{"01", "0/1"}, {"01/10", "01"}, {"01/10", "0/1"}, {"0", "00"}, {"0000", "00/00"}, {"000/000", "00/00/00"}} {
		for _, op := range []string{"and", "or", "xor"} {
			n, ok := impl.JoinMatrices(op, matrix(t, c[0]), matrix(t, c[1]))
			wantMatrix(t, "JoinMatrices "+c[0]+" "+c[1], n, ok, "")
			n, ok = impl.JoinMatrices(op, matrix(t, c[1]), matrix(t, c[0]))
			wantMatrix(t, "JoinMatrices "+c[1]+" "+c[0], n, ok, "")
		}
	}
	m := matrix(t, "01/10")
	for _, op := range otherOps() {
		n, ok := impl.JoinMatrices(op, m, m)
		wantMatrix(t, "JoinMatrices "+strconv.Quote(op), n, ok, "")
		n, ok = impl.PairMatrices(op, m, m)
		wantMatrix(t, "PairMatrices "+strconv.Quote(op), n, ok, "")
	}
}

func TestPairMatrices(t *testing.T) {
	list := smallMatrices()
	for _, op := range []string{"and", "or", "xor"} {
		for i := 0; i < len(list); i += 7 {
			for j := 0; j < len(list); j += 11 {
				checkPair(t, op, list[i], list[j])
			}
		}
	}
	for _, c := range []struct{ op, m, n, want string }{
		{"and", "01", "11", "0011"},
		{"and", "11", "01", "0101"},
		{"or", "0/1", "0/1", "0/1/1/1"},
		{"xor", "01", "0/1", "01/10"},
		{"and", "11/01", "01", "0101/0001"},
		{"and", "1", "01/10", "01/10"},
		{"xor", "01/10", "1", "10/01"},
		{"or", "00000000", "1/0", "11111111/00000000"},
		{"xor", "0/1/0/0", "01/01", "01/01/10/10/01/01/01/01"},
	} {
		n, ok := impl.PairMatrices(c.op, matrix(t, c.m), matrix(t, c.n))
		wantMatrix(t, "PairMatrices "+c.op+" "+c.m+" "+c.n, n, ok, c.want)
	}
}

// checkPair checks each entry of a pair of matrices against those that it is made of.
func checkPair(t *testing.T, op string, m impl.Matrix, n impl.Matrix) {
	t.Helper()
	pair, ok := impl.PairMatrices(op, m, n)
	if m.Rows*n.Rows > impl.MaxSide || m.Cols*n.Cols > impl.MaxSide {
		wantMatrix(t, "PairMatrices of too many rows or columns", pair, ok, "")
		return
	}
	if !ok || pair.Rows != m.Rows*n.Rows || pair.Cols != m.Cols*n.Cols {
		t.Fatalf("PairMatrices(%q, %+v, %+v) = %+v, %v", op, m, n, pair, ok)
	}
	for x := range m.Rows {
		for u := range n.Rows {
			for y := range m.Cols {
				for v := range n.Cols {
					want := combined(op, impl.EntryOf(m, x, y), impl.EntryOf(n, u, v))
					if impl.EntryOf(pair, x*n.Rows+u, y*n.Cols+v) != want {
						t.Errorf("PairMatrices(%q, %+v, %+v) = %+v", op, m, n, pair)
					}
				}
			}
		}
	}
}

func TestPairTooGreat(t *testing.T) {
	for _, c := range [][2]string{
		{"0/0/0", "0/0/0"}, {"000", "000"}, {"00000", "00"}, {"0/0/0/0/0", "0/0"}, {"00000000", "00"},
		{"0/0/0/0/0/0/0/0", "0/0"}, {"00000000", "00000000"}, {"000/000", "000"}, {"00/00/00", "0/0/0"},
	} {
		for _, op := range []string{"and", "or", "xor"} {
			n, ok := impl.PairMatrices(op, matrix(t, c[0]), matrix(t, c[1]))
			wantMatrix(t, "PairMatrices "+c[0]+" "+c[1], n, ok, "")
			n, ok = impl.PairMatrices(op, matrix(t, c[1]), matrix(t, c[0]))
			wantMatrix(t, "PairMatrices "+c[1]+" "+c[0], n, ok, "")
		}
	}
}

// A family of matrices has one for each number from least to greatest.
type family struct {
	name            string
	make            func(int) (impl.Matrix, bool)
	least, greatest int
	rows, cols      func(n int) int
	entry           func(x, y int) bool
}

func families() []family {
	same := func(n int) int { return n }
	sets := func(n int) int { return 1 << n }
	return []family{
		{"EqualMatrix", impl.EqualMatrix, 1, 8, same, same, func(x, y int) bool { return x == y }},
		{"GreaterMatrix", impl.GreaterMatrix, 1, 8, same, same, func(x, y int) bool { return x > y }},
		{"DisjointMatrix", impl.DisjointMatrix, 0, 3, sets, sets, func(x, y int) bool { return x&y == 0 }},
		{"InnerMatrix", impl.InnerMatrix, 0, 3, sets, sets, func(x, y int) bool { return bits.OnesCount(uint(x&y))&1 == 1 }},
		{"IndexMatrix", impl.IndexMatrix, 1, 3, sets, same, func(x, y int) bool { return x>>y&1 == 1 }},
	}
}

func TestFamilies(t *testing.T) {
	for _, f := range families() {
		for n := f.least; n <= f.greatest; n++ {
			m, ok := f.make(n)
			if !ok || m.Rows != f.rows(n) || m.Cols != f.cols(n) || !impl.MatrixValid(m) {
				t.Fatalf("%s(%d) = %+v, %v", f.name, n, m, ok)
			}
			for x := range m.Rows {
				for y := range m.Cols {
					if (impl.EntryOf(m, x, y) == 1) != f.entry(x, y) {
						t.Errorf("%s(%d) = %+v is wrong at %d, %d", f.name, n, m, x, y)
					}
				}
			}
		}
		for _, n := range []int{f.least - 1, f.greatest + 1, -8, 9, 16, 31, 32, 62, 63, 64, 65, 1 << 32, math.MaxInt, math.MinInt} {
			m, ok := f.make(n)
			wantMatrix(t, f.name, m, ok, "")
		}
	}
}

func TestFamilyTexts(t *testing.T) {
	for _, c := range []struct {
		make func(int) (impl.Matrix, bool)
		n    int
		want string
	}{
		{impl.EqualMatrix, 1, "1"},
		{impl.EqualMatrix, 3, "100/010/001"},
		{impl.GreaterMatrix, 1, "0"},
		{impl.GreaterMatrix, 3, "000/100/110"},
		{impl.DisjointMatrix, 0, "1"},
		{impl.DisjointMatrix, 1, "11/10"},
		{impl.DisjointMatrix, 2, "1111/1010/1100/1000"},
		{impl.InnerMatrix, 0, "0"},
		{impl.InnerMatrix, 2, "0000/0101/0011/0110"},
		{impl.IndexMatrix, 1, "0/1"},
		{impl.IndexMatrix, 2, "00/10/01/11"},
		{impl.IndexMatrix, 3, "000/100/010/110/001/101/011/111"},
	} {
		m, ok := c.make(c.n)
		wantMatrix(t, c.want, m, ok, c.want)
	}
}

// TestMatrixLaws checks what the ways to combine matrices tell of each other.
func TestMatrixLaws(t *testing.T) {
	list := smallMatrices()
	for i := range list {
		m, n := list[i], list[(i*i+3)%len(list)]
		notM, _ := impl.OtherMatrix(m)
		notN, _ := impl.OtherMatrix(n)
		and, ok := impl.PairMatrices("and", m, n)
		or, ok2 := impl.PairMatrices("or", notM, notN)
		if not, ok3 := impl.OtherMatrix(and); not != or || ok != ok2 || ok != ok3 {
			t.Errorf("PairMatrices of %+v and %+v: and %+v, or %+v", m, n, and, or)
		}
		xor, _ := impl.JoinMatrices("xor", m, notM)
		if impl.CountOnes(xor) != m.Rows*m.Cols {
			t.Errorf("JoinMatrices of %+v and its other one = %+v", m, xor)
		}
		shrunk, _ := impl.ShrinkMatrix(m)
		if again, ok := impl.ShrinkMatrix(shrunk); again != shrunk || !ok {
			t.Errorf("ShrinkMatrix(%+v) = %+v", shrunk, again)
		}
	}
}
