package tests

import (
	"math"
	"math/bits"
	"math/rand"
	"slices"
	"strconv"
	"strings"
	"testing"

	"loop.example/twoplayers/impl"
)

// rect parses a text that is known to be one of a rectangle.
func rect(t *testing.T, s string) impl.Rect {
	t.Helper()
	r, ok := impl.ParseRect(s)
	if !ok {
		t.Fatalf("ParseRect(%q) fails", s)
	}
	return r
}

// rects parses the texts of rectangles with spaces between them.
func rects(t *testing.T, s string) []impl.Rect {
	t.Helper()
	var list []impl.Rect
	for _, text := range strings.Fields(s) {
		list = append(list, rect(t, text))
	}
	return list
}

func formatRects(list []impl.Rect) string {
	var texts []string
	for _, r := range list {
		texts = append(texts, impl.FormatRect(r))
	}
	return strings.Join(texts, " ")
}

// wantRect checks a result that is a rectangle with this text, or none if the text is empty.
func wantRect(t *testing.T, name string, r impl.Rect, ok bool, want string) {
	t.Helper()
	if ok != (want != "") || !ok && r != (impl.Rect{}) || impl.FormatRect(r) != want {
		t.Errorf("%s = %+v, %v; want %q", name, r, ok, want)
	}
}

// noRects returns rectangles with numbers that are no sets or empty ones.
func noRects() []impl.Rect {
	list := []impl.Rect{{}, {Rows: -1, Cols: -1}, {Rows: 256, Cols: 256}}
	for _, n := range []int{0, -1, -2, -128, -255, -256, 256, 257, 258, 511, 1 << 16, 1<<32 + 1, math.MaxInt, math.MinInt, math.MinInt + 1} {
		list = append(list, impl.Rect{Rows: n, Cols: 1}, impl.Rect{Rows: 1, Cols: n}, impl.Rect{Rows: 255, Cols: n}, impl.Rect{Rows: n, Cols: 255})
	}
	return list
}

// rectsWithin returns all rectangles of these many rows and columns, in ascending order of rows.
func rectsWithin(rows int, cols int) []impl.Rect {
	var list []impl.Rect
	for r := 1; r < 1<<rows; r++ {
		for c := 1; c < 1<<cols; c++ {
			list = append(list, impl.Rect{Rows: r, Cols: c})
		}
	}
	return list
}

// numbersOf returns the numbers of a set.
func numbersOf(set int) []int {
	var list []int
	for i := range 8 {
		if set&(1<<i) != 0 {
			list = append(list, i)
		}
	}
	return list
}

// valuesIn returns how many zeros and ones a rectangle of a matrix has.
func valuesIn(m impl.Matrix, r impl.Rect) [2]int {
	var count [2]int
	for _, x := range numbersOf(r.Rows) {
		for _, y := range numbersOf(r.Cols) {
			count[m.Bits[x*m.Cols+y]-'0']++
		}
	}
	return count
}

func isPlain(m impl.Matrix, r impl.Rect, bit int) bool { return valuesIn(m, r)[1-bit] == 0 }

func isInside(r impl.Rect, s impl.Rect) bool { return r.Rows&^s.Rows == 0 && r.Cols&^s.Cols == 0 }

// plainRects returns the plain rectangles of a matrix with the value.
func plainRects(m impl.Matrix, bit int) []impl.Rect {
	return slices.DeleteFunc(rectsWithin(m.Rows, m.Cols), func(r impl.Rect) bool { return !isPlain(m, r, bit) })
}

// unbounded returns those of some rectangles that are inside no other one of them.
func unbounded(list []impl.Rect) []impl.Rect {
	var kept []impl.Rect
	for _, r := range list {
		if !slices.ContainsFunc(list, func(s impl.Rect) bool { return r != s && isInside(r, s) }) {
			kept = append(kept, r)
		}
	}
	return kept
}

// randomMatrix returns a matrix in which so many of a hundred entries are 1, about.
func randomMatrix(random *rand.Rand, rows int, cols int, ones int) impl.Matrix {
	text := make([]byte, rows*cols)
	for i := range text {
		text[i] = '0'
		if random.Intn(100) < ones {
			text[i] = '1'
		}
	}
	return impl.Matrix{Rows: rows, Cols: cols, Bits: string(text)}
}

// greaterMatrices returns matrices with more than three rows or columns.
func greaterMatrices(t *testing.T) []impl.Matrix {
	random := rand.New(rand.NewSource(2))
	list := []impl.Matrix{
		matrix(t, "0"+strings.Repeat("1", 7)), matrix(t, "1/0/0/1/1/0/1/0"),
		matrix(t, strings.Repeat("11111111/", 7)+"11111111"), matrix(t, strings.Repeat("00000000/", 7)+"00000001"),
	}
	for _, f := range families() {
		m, ok := f.make(f.greatest)
		if !ok {
			t.Fatal(f.name)
		}
		list = append(list, m)
	}
	for _, size := range [][2]int{{4, 4}, {4, 5}, {5, 4}, {5, 5}, {2, 8}, {8, 2}, {6, 7}, {8, 8}} {
		for range 3 {
			list = append(list, randomMatrix(random, size[0], size[1], 50))
		}
	}
	return list
}

func TestRectValid(t *testing.T) {
	for rows := 1; rows <= 8; rows++ {
		for cols := 1; cols <= 8; cols++ {
			m := impl.Matrix{Rows: rows, Cols: cols, Bits: strings.Repeat("0", rows*cols)}
			for _, n := range []int{-1, 0, 1, 2, 3, 4, 7, 8, 15, 16, 31, 32, 63, 64, 127, 128, 255, 256, 257} {
				for _, k := range []int{-1, 0, 1, 2, 3, 4, 7, 8, 15, 16, 31, 32, 63, 64, 127, 128, 255, 256, 257} {
					want := n > 0 && n < 1<<rows && k > 0 && k < 1<<cols
					if impl.RectValid(m, impl.Rect{Rows: n, Cols: k}) != want {
						t.Errorf("RectValid of %d rows, %d columns and %d, %d is %v", rows, cols, n, k, !want)
					}
				}
			}
		}
	}
	full := matrix(t, strings.Repeat("01010101/", 7)+"01010101")
	for _, r := range noRects() {
		if impl.RectValid(full, r) {
			t.Errorf("RectValid of %+v", r)
		}
	}
}

func TestFormatAndParseRect(t *testing.T) {
	for _, r := range rectsWithin(8, 8) {
		text := ""
		for _, x := range numbersOf(r.Rows) {
			text += strconv.Itoa(x)
		}
		text += ":"
		for _, y := range numbersOf(r.Cols) {
			text += strconv.Itoa(y)
		}
		if s := impl.FormatRect(r); s != text {
			t.Fatalf("FormatRect(%+v) = %q, want %q", r, s, text)
		}
		if q, ok := impl.ParseRect(text); q != r || !ok {
			t.Fatalf("ParseRect(%q) = %+v, %v", text, q, ok)
		}
	}
	for _, r := range noRects() {
		if s := impl.FormatRect(r); s != "" {
			t.Errorf("FormatRect(%+v) = %q", r, s)
		}
	}
}

func TestParseNoRect(t *testing.T) {
	for _, s := range []string{
		"", ":", "0", "0:", ":0", "01", "::", "0::0", "0:0:", ":0:0", "0:0:0", "20:1", "1:20", "00:1", "1:00", "010:1",
		"8:1", "1:8", "9:9", "0,1:2", "0 :1", " 0:1", "0:1 ", "0:1\n", "0;1", "0/1", "-1:0", "+1:0", "a:b", "0a:1", "a0:1", "0:1b",
		"08:1", "0:18", "1:0\x00", "0\xff:1", "\u0660:1", "0\uff1a1", "01234567:012345678", "012345678:0", "01234567",
		"0:" + strings.Repeat("0", 100000), strings.Repeat("0:", 100000), strings.Repeat(":", 100000),
	} {
		r, ok := impl.ParseRect(s)
		wantRect(t, "ParseRect of "+strconv.Quote(s[:min(len(s), 20)]), r, ok, "")
	}
}

func TestInRectAndAreaOf(t *testing.T) {
	for _, r := range rectsWithin(8, 8) {
		count := 0
		for x := range 8 {
			for y := range 8 {
				want := r.Rows&(1<<x) != 0 && r.Cols&(1<<y) != 0
				if impl.InRect(r, x, y) != want {
					t.Fatalf("InRect(%+v, %d, %d) is %v", r, x, y, !want)
				}
				if want {
					count++
				}
			}
		}
		if n := impl.AreaOf(r); n != count {
			t.Fatalf("AreaOf(%+v) = %d, want %d", r, n, count)
		}
	}
	all := impl.Rect{Rows: 255, Cols: 255}
	for _, i := range []int{-1, -8, 8, 9, 32, 56, 63, 64, 65, 1 << 32, math.MaxInt, math.MinInt} {
		if impl.InRect(all, i, 0) || impl.InRect(all, 0, i) || impl.InRect(all, i, i) {
			t.Errorf("InRect knows the row or the column %d", i)
		}
	}
	for _, r := range noRects() {
		for x := -1; x < 10; x++ {
			if impl.InRect(r, x, x) || impl.InRect(r, x, 0) || impl.InRect(r, 0, x) {
				t.Errorf("InRect(%+v, ..) at %d", r, x)
			}
		}
		if n := impl.AreaOf(r); n != -1 {
			t.Errorf("AreaOf(%+v) = %d", r, n)
		}
	}
}

// checkValues checks colours and balances of all rectangles of a matrix.
func checkValues(t *testing.T, m impl.Matrix) {
	t.Helper()
	greatest := 0
	for _, r := range rectsWithin(m.Rows, m.Cols) {
		count := valuesIn(m, r)
		colour := -1
		if count[0] == 0 {
			colour = 1
		} else if count[1] == 0 {
			colour = 0
		}
		if got := impl.ColourOf(m, r); got != colour {
			t.Fatalf("ColourOf(%+v, %+v) = %d, want %d", m, r, got, colour)
		}
		balance := count[1] - count[0]
		if got, ok := impl.BalanceOf(m, r); got != balance || !ok {
			t.Fatalf("BalanceOf(%+v, %+v) = %d, %v, want %d", m, r, got, ok, balance)
		}
		greatest = max(greatest, balance, -balance)
	}
	if n := impl.DiscrepancyOf(m); n != greatest {
		t.Errorf("DiscrepancyOf(%+v) = %d, want %d", m, n, greatest)
	}
}

func TestColourBalanceAndDiscrepancy(t *testing.T) {
	for _, m := range smallMatrices() {
		checkValues(t, m)
	}
	for _, m := range greaterMatrices(t) {
		checkValues(t, m)
	}
	for s, want := range map[string]int{"0": 1, "1": 1, "01": 1, "00": 2, "01/10": 1, "001/010/100": 3, "011/101/110": 3, "111/110": 4, "110/011": 2} {
		if n := impl.DiscrepancyOf(matrix(t, s)); n != want {
			t.Errorf("DiscrepancyOf(%q) = %d, want %d", s, n, want)
		}
	}
}

// checkForeign checks the result of each function for a rectangle that is none of the matrix.
func checkForeign(t *testing.T, m impl.Matrix, r impl.Rect) {
	t.Helper()
	if impl.RectValid(m, r) {
		t.Errorf("RectValid(%+v, %+v)", m, r)
	}
	if n := impl.ColourOf(m, r); n != -2 {
		t.Errorf("ColourOf(%+v, %+v) = %d", m, r, n)
	}
	if n, ok := impl.BalanceOf(m, r); n != 0 || ok {
		t.Errorf("BalanceOf(%+v, %+v) = %d, %v", m, r, n, ok)
	}
	q, ok := impl.GrowRect(m, r)
	wantRect(t, "GrowRect", q, ok, "")
	all := impl.Rect{Rows: 1<<max(0, min(m.Rows, 8)) - 1, Cols: 1<<max(0, min(m.Cols, 8)) - 1}
	for bit := range 2 {
		if impl.IsCover(m, bit, []impl.Rect{r}) || impl.IsCover(m, bit, []impl.Rect{all, r}) || impl.IsCover(m, bit, []impl.Rect{r, all}) {
			t.Errorf("IsCover(%+v, %d, ..) with %+v", m, bit, r)
		}
	}
	if impl.IsPartition(m, []impl.Rect{r}) || impl.IsPartition(m, []impl.Rect{all, r}) || impl.IsPartition(m, []impl.Rect{r, all}) {
		t.Errorf("IsPartition(%+v, ..) with %+v", m, r)
	}
}

func TestForeignRects(t *testing.T) {
	for _, s := range []string{"0", "1", "00/00", "11/11", "000", "1/1/1", strings.Repeat("11111111/", 7) + "11111111"} {
		m := matrix(t, s)
		for _, r := range noRects() {
			checkForeign(t, m, r)
		}
		for n := m.Rows; n < 10; n++ {
			checkForeign(t, m, impl.Rect{Rows: 1 << n, Cols: 1})
			checkForeign(t, m, impl.Rect{Rows: 1<<n + 1, Cols: 1})
		}
		for n := m.Cols; n < 10; n++ {
			checkForeign(t, m, impl.Rect{Rows: 1, Cols: 1 << n})
			checkForeign(t, m, impl.Rect{Rows: 1, Cols: 1<<n + 1})
		}
	}
}

func TestRectsOfInvalidMatrices(t *testing.T) {
	for name, m := range invalidMatrices() {
		checkForeign(t, m, impl.Rect{Rows: 1, Cols: 1})
		checkForeign(t, m, impl.Rect{})
		for bit := -1; bit <= 2; bit++ {
			if list := impl.MaximalRects(m, bit); len(list) != 0 {
				t.Errorf("%s: MaximalRects = %+v", name, list)
			}
			r, ok := impl.LargestRect(m, bit)
			wantRect(t, name+": LargestRect", r, ok, "")
			if impl.IsCover(m, bit, nil) || impl.IsCover(m, bit, []impl.Rect{}) {
				t.Errorf("%s: IsCover of nothing", name)
			}
		}
		if impl.IsPartition(m, nil) || impl.IsPartition(m, []impl.Rect{}) {
			t.Errorf("%s: IsPartition of nothing", name)
		}
		if n := impl.DiscrepancyOf(m); n != -1 {
			t.Errorf("%s: DiscrepancyOf = %d", name, n)
		}
	}
}

func TestMeetAndHullRects(t *testing.T) {
	list := rectsWithin(3, 3)
	for _, s := range []string{"01234567:01234567", "7:7", "0:7", "7:0", "0246:1357", "1357:0246", "67:012", "4:01234567"} {
		list = append(list, rect(t, s))
	}
	for _, r := range list {
		for _, s := range list {
			meet := impl.Rect{Rows: r.Rows & s.Rows, Cols: r.Cols & s.Cols}
			common := meet.Rows != 0 && meet.Cols != 0
			if !common {
				meet = impl.Rect{}
			}
			if q, ok := impl.MeetRects(r, s); q != meet || ok != common {
				t.Errorf("MeetRects(%+v, %+v) = %+v, %v", r, s, q, ok)
			}
			if q, ok := impl.HullRects(r, s); q != (impl.Rect{Rows: r.Rows | s.Rows, Cols: r.Cols | s.Cols}) || !ok {
				t.Errorf("HullRects(%+v, %+v) = %+v, %v", r, s, q, ok)
			}
		}
	}
	good := rect(t, "01234567:01234567")
	for _, r := range noRects() {
		for _, pair := range [][2]impl.Rect{{r, good}, {good, r}, {r, r}} {
			q, ok := impl.MeetRects(pair[0], pair[1])
			wantRect(t, "MeetRects", q, ok, "")
			q, ok = impl.HullRects(pair[0], pair[1])
			wantRect(t, "HullRects", q, ok, "")
		}
	}
	// Numbers that are no sets may have bits of sets in common.
	q, ok := impl.MeetRects(impl.Rect{Rows: 257, Cols: 1}, impl.Rect{Rows: 257, Cols: 1})
	wantRect(t, "MeetRects", q, ok, "")
	q, ok = impl.HullRects(impl.Rect{Rows: 0, Cols: 1}, impl.Rect{Rows: 1, Cols: 0})
	wantRect(t, "HullRects", q, ok, "")
}

// grown returns what the definition makes of a plain rectangle: all rows with
// the value in its columns, and all columns with it in these rows.
func grown(m impl.Matrix, r impl.Rect, bit int) impl.Rect {
	var q impl.Rect
	for x := range m.Rows {
		if isPlain(m, impl.Rect{Rows: 1 << x, Cols: r.Cols}, bit) {
			q.Rows |= 1 << x
		}
	}
	for y := range m.Cols {
		if isPlain(m, impl.Rect{Rows: q.Rows, Cols: 1 << y}, bit) {
			q.Cols |= 1 << y
		}
	}
	return q
}

func checkGrowing(t *testing.T, m impl.Matrix, list []impl.Rect) {
	t.Helper()
	maximal := [2][]impl.Rect{impl.MaximalRects(m, 0), impl.MaximalRects(m, 1)}
	for _, r := range list {
		q, ok := impl.GrowRect(m, r)
		bit := 0
		if isPlain(m, r, 1) {
			bit = 1
		}
		if !isPlain(m, r, bit) {
			wantRect(t, "GrowRect of both values", q, ok, "")
			continue
		}
		if q != grown(m, r, bit) || !ok || !isInside(r, q) || !isPlain(m, q, bit) {
			t.Fatalf("GrowRect(%+v, %+v) = %+v, %v, want %+v", m, r, q, ok, grown(m, r, bit))
		}
		if !slices.Contains(maximal[bit], q) {
			t.Fatalf("MaximalRects(%+v, %d) = %+v is without %+v", m, bit, maximal[bit], q)
		}
		if again, ok := impl.GrowRect(m, q); again != q || !ok {
			t.Fatalf("GrowRect(%+v, %+v) = %+v, %v", m, q, again, ok)
		}
	}
}

func TestGrowRect(t *testing.T) {
	for _, m := range smallMatrices() {
		checkGrowing(t, m, rectsWithin(m.Rows, m.Cols))
	}
	for _, m := range greaterMatrices(t) {
		if m.Rows*m.Cols <= 25 {
			checkGrowing(t, m, rectsWithin(m.Rows, m.Cols))
		}
	}
	for _, c := range []struct{ m, r, want string }{
		{"1", "0:0", "0:0"},
		{"0", "0:0", "0:0"},
		{"011/101/110", "0:1", "02:1"},
		{"011/101/110", "0:12", "0:12"},
		{"011/101/110", "1:1", "1:1"},
		{"011/101/110", "0:01", ""},
		{"011/101/110", "01:01", ""},
		// The rows are told first: from the same entry, the columns first would grow to others.
		{"11/10", "0:0", "01:0"},
		{"11/01", "0:1", "01:1"},
		{"111/111/111", "1:1", "012:012"},
		{"110/110/001", "0:0", "01:01"},
		{"001/001/110", "1:1", "01:01"},
	} {
		q, ok := impl.GrowRect(matrix(t, c.m), rect(t, c.r))
		wantRect(t, "GrowRect of "+c.m+" "+c.r, q, ok, c.want)
	}
}

// largestOf returns the first of the rectangles with most entries.
func largestOf(list []impl.Rect) impl.Rect {
	var largest impl.Rect
	most := 0
	for _, r := range list {
		area := bits.OnesCount(uint(r.Rows)) * bits.OnesCount(uint(r.Cols))
		if area > most {
			most, largest = area, r
		}
	}
	return largest
}

func checkMaximal(t *testing.T, m impl.Matrix, bit int, want []impl.Rect) {
	t.Helper()
	list := impl.MaximalRects(m, bit)
	if !slices.Equal(list, want) {
		t.Errorf("MaximalRects(%+v, %d) = %s, want %s", m, bit, formatRects(list), formatRects(want))
	}
	for i := 1; i < len(list); i++ {
		if list[i-1].Rows >= list[i].Rows {
			t.Errorf("MaximalRects(%+v, %d) = %+v is not in order", m, bit, list)
		}
	}
	largest := largestOf(want)
	if q, ok := impl.LargestRect(m, bit); q != largest || ok != (len(want) > 0) {
		t.Errorf("LargestRect(%+v, %d) = %+v, %v, want %+v", m, bit, q, ok, largest)
	}
	if !impl.IsCover(m, bit, list) {
		t.Errorf("MaximalRects(%+v, %d) = %+v is no cover", m, bit, list)
	}
}

func TestMaximalAndLargestRects(t *testing.T) {
	for _, m := range smallMatrices() {
		for bit := range 2 {
			checkMaximal(t, m, bit, unbounded(plainRects(m, bit)))
		}
	}
	for _, m := range greaterMatrices(t) {
		for bit := range 2 {
			// Only those that cannot get one row or column more are compared with each other.
			closed := slices.DeleteFunc(plainRects(m, bit), func(r impl.Rect) bool { return grown(m, r, bit) != r })
			checkMaximal(t, m, bit, unbounded(closed))
		}
	}
}

func TestMaximalRectsTexts(t *testing.T) {
	for _, c := range []struct {
		m       string
		bit     int
		want    string
		largest string
	}{
		{"1", 1, "0:0", "0:0"},
		{"1", 0, "", ""},
		{"0", 0, "0:0", "0:0"},
		{"0", 1, "", ""},
		{"011/101/110", 1, "0:12 1:02 01:2 2:01 02:1 12:0", "0:12"},
		{"011/101/110", 0, "0:0 1:1 2:2", "0:0"},
		{"1110/0110/0011", 1, "0:012 01:12 2:23 012:2", "01:12"},
		{"00000000", 0, "0:01234567", "0:01234567"},
		{"00000000", 1, "", ""},
		{"111/111", 1, "01:012", "01:012"},
		{"1010/1111", 1, "1:0123 01:02", "1:0123"},
		{"1/0/1/1", 1, "023:0", "023:0"},
		// Rectangles that are found from few rows come after those of fewer ones.
		{"100/010/110", 1, "2:01 02:0 12:1", "2:01"},
		{"01/10/01", 1, "1:0 02:1", "02:1"},
	} {
		m := matrix(t, c.m)
		if got := formatRects(impl.MaximalRects(m, c.bit)); got != c.want {
			t.Errorf("MaximalRects(%q, %d) = %s, want %s", c.m, c.bit, got, c.want)
		}
		r, ok := impl.LargestRect(m, c.bit)
		wantRect(t, "LargestRect of "+c.m, r, ok, c.largest)
	}
	equal, _ := impl.EqualMatrix(8)
	if list := impl.MaximalRects(equal, 0); len(list) != 254 || list[0] != rect(t, "0:1234567") {
		t.Errorf("MaximalRects of EqualMatrix of 8 has %d zeros, the first %+v", len(list), list[0])
	}
	// All of four rows and the four other columns have as many entries.
	r, ok := impl.LargestRect(equal, 0)
	wantRect(t, "LargestRect of EqualMatrix of 8", r, ok, "0123:4567")
}

func TestBitsThatAreNone(t *testing.T) {
	for _, m := range smallMatrices()[:100] {
		for _, bit := range []int{-2, -1, 2, 3, '0', '1', 1 << 32, math.MaxInt, math.MinInt} {
			if list := impl.MaximalRects(m, bit); len(list) != 0 {
				t.Errorf("MaximalRects(%+v, %d) = %+v", m, bit, list)
			}
			r, ok := impl.LargestRect(m, bit)
			wantRect(t, "LargestRect", r, ok, "")
			if impl.IsCover(m, bit, nil) || impl.IsCover(m, bit, []impl.Rect{{Rows: 1, Cols: 1}}) {
				t.Errorf("IsCover(%+v, %d, ..)", m, bit)
			}
		}
	}
}

func TestMaximalRectsAreNew(t *testing.T) {
	m := matrix(t, "011/101/110")
	first := impl.MaximalRects(m, 1)
	first[0] = impl.Rect{}
	if cap(first) > len(first) {
		first = append(first, impl.Rect{})
	}
	if got := formatRects(impl.MaximalRects(m, 1)); got != "0:12 1:02 01:2 2:01 02:1 12:0" {
		t.Errorf("MaximalRects = %s after its result was changed", got)
	}
}

// timesIn returns for each entry of a matrix how many of some rectangles have it.
func timesIn(m impl.Matrix, list []impl.Rect) []int {
	times := make([]int, m.Rows*m.Cols)
	for _, r := range list {
		for _, x := range numbersOf(r.Rows) {
			for _, y := range numbersOf(r.Cols) {
				times[x*m.Cols+y]++
			}
		}
	}
	return times
}

// checkLists checks whether a list of rectangles of a matrix covers a value or parts the matrix.
func checkLists(t *testing.T, m impl.Matrix, list []impl.Rect) {
	t.Helper()
	times := timesIn(m, list)
	covers, parts := [2]bool{true, true}, true
	for i, n := range times {
		covers[m.Bits[i]-'0'] = covers[m.Bits[i]-'0'] && n > 0
		parts = parts && n == 1
	}
	for _, r := range list {
		count := valuesIn(m, r)
		covers[0] = covers[0] && count[1] == 0
		covers[1] = covers[1] && count[0] == 0
		parts = parts && count[0]*count[1] == 0
	}
	for bit := range 2 {
		if impl.IsCover(m, bit, list) != covers[bit] {
			t.Errorf("IsCover(%+v, %d, %s) is %v", m, bit, formatRects(list), !covers[bit])
		}
	}
	if impl.IsPartition(m, list) != parts {
		t.Errorf("IsPartition(%+v, %s) is %v", m, formatRects(list), !parts)
	}
}

// choicesOf returns all lists of some of the rectangles, in their order.
func choicesOf(list []impl.Rect) [][]impl.Rect {
	var choices [][]impl.Rect
	for choice := range 1 << len(list) {
		var chosen []impl.Rect
		for i, r := range list {
			if choice>>i&1 == 1 {
				chosen = append(chosen, r)
			}
		}
		choices = append(choices, chosen)
	}
	return choices
}

func TestIsCoverAndIsPartition(t *testing.T) {
	for _, m := range smallMatrices() {
		if m.Rows*m.Cols > 4 {
			continue
		}
		for _, chosen := range choicesOf(rectsWithin(m.Rows, m.Cols)) {
			checkLists(t, m, chosen)
			slices.Reverse(chosen)
			checkLists(t, m, chosen)
			checkLists(t, m, append(chosen, chosen...))
		}
	}
}

func TestCoversOfMaximalRects(t *testing.T) {
	for _, m := range append(smallMatrices(), greaterMatrices(t)...) {
		for bit := range 2 {
			list := impl.MaximalRects(m, bit)
			checkLists(t, m, list)
			for i := range list {
				checkLists(t, m, slices.Delete(slices.Clone(list), i, i+1))
			}
		}
		checkLists(t, m, append(impl.MaximalRects(m, 0), impl.MaximalRects(m, 1)...))
		var cells []impl.Rect
		for x := range m.Rows {
			for y := range m.Cols {
				cells = append(cells, impl.Rect{Rows: 1 << x, Cols: 1 << y})
			}
		}
		if !impl.IsPartition(m, cells) || impl.IsPartition(m, cells[1:]) || impl.IsPartition(m, append(cells, cells[0])) {
			t.Errorf("IsPartition(%+v, ..) of its entries", m)
		}
	}
}

func TestCoverTexts(t *testing.T) {
	for _, c := range []struct {
		m, list      string
		zeros, ones  bool
		isAPartition bool
	}{
		{"1", "", true, false, false},
		{"0", "", false, true, false},
		{"01", "", false, false, false},
		{"1", "0:0", false, true, true},
		{"0", "0:0", true, false, true},
		{"1", "0:0 0:0", false, true, false},
		{"01/10", "0:1 1:0", false, true, false},
		{"01/10", "0:0 1:1", true, false, false},
		{"01/10", "0:0 0:1 1:0 1:1", false, false, true},
		{"01/10", "1:1 0:1 0:0 1:0", false, false, true},
		{"01/10", "01:01", false, false, false},
		{"01/10", "0:01 1:0 1:1", false, false, false},
		{"11/11", "0:01 1:01", false, true, true},
		{"11/11", "0:01 01:0 1:1", false, true, false},
		{"11/11", "0:01 01:0", false, false, false},
		{"11/10", "0:01 01:0", false, true, false},
		{"11/10", "0:01 1:0 1:1", false, false, true},
		{"11/10", "0:01 01:0 1:1", false, false, false},
	} {
		m, list := matrix(t, c.m), rects(t, c.list)
		if impl.IsCover(m, 0, list) != c.zeros || impl.IsCover(m, 1, list) != c.ones || impl.IsPartition(m, list) != c.isAPartition {
			t.Errorf("%s and %s: IsCover %v, %v, IsPartition %v", c.m, c.list, !c.zeros, !c.ones, !c.isAPartition)
		}
	}
}

func TestListsStay(t *testing.T) {
	m := matrix(t, "011/101/110")
	list := rects(t, "12:0 02:1 01:2 7:7 7:7")
	kept := slices.Clone(list)
	if !impl.IsCover(m, 1, list[:3]) || impl.IsPartition(m, list[:3]) || !slices.Equal(list, kept) {
		t.Errorf("IsCover or IsPartition made of a list %+v", list)
	}
	long := slices.Repeat([]impl.Rect{rect(t, "0:1")}, 200000)
	if !impl.IsCover(matrix(t, "01"), 1, long) || impl.IsPartition(matrix(t, "01"), long) {
		t.Error("IsCover or IsPartition of a long list")
	}
}

// TestCoversGrow checks the promise: a cover stays one when its rectangles grow, to maximal ones.
func TestCoversGrow(t *testing.T) {
	for _, m := range append(smallMatrices(), greaterMatrices(t)...) {
		for bit := range 2 {
			maximal := impl.MaximalRects(m, bit)
			var cells, wide []impl.Rect
			for i := range m.Bits {
				if int(m.Bits[i]-'0') != bit {
					continue
				}
				r := impl.Rect{Rows: 1 << (i / m.Cols), Cols: 1 << (i % m.Cols)}
				q, ok := impl.GrowRect(m, r)
				if !ok || !slices.Contains(maximal, q) || !impl.InRect(q, i/m.Cols, i%m.Cols) {
					t.Fatalf("GrowRect(%+v, %+v) = %+v, %v", m, r, q, ok)
				}
				cells, wide = append(cells, r), append(wide, q)
			}
			if !impl.IsCover(m, bit, cells) || !impl.IsCover(m, bit, wide) {
				t.Errorf("IsCover(%+v, %d, %s) or (.., %s) is false", m, bit, formatRects(cells), formatRects(wide))
			}
		}
	}
}
