package tests

import (
	"cmp"
	"math"
	"math/rand"
	"slices"
	"strconv"
	"strings"
	"testing"

	"loop.example/twoplayers/impl"
)

// noTables returns texts that are no tables.
func noTables() []string {
	return []string{
		"", "0", "1", "010", "111", "01101", "011010", "0110100", "011010010", "0110100101", "0110100110010110", strings.Repeat("0", 16), strings.Repeat("01", 1000),
		"0x", "x1", "02", "20", "-1", "0 ", " 1", "01\n", "\n01", "01/10", "0/1", "0110 ", "011a", "A110", "0110100O", "2110100l", "0110/001", "/0110100", ":1101000",
		"\x00\x01", "\x00\x01\x01\x00", "01\xff0", "é", "٠١", "0é1", "０1", "⁰¹", "x", "&xy", "|&xyz",
	}
}

// noFormulas returns texts that are no formulas of any width.
func noFormulas() []string {
	return []string{
		"", "&", "|", "&x", "|x", "&&xx", "|&xx", "&|", "xx", "xX", "xy", "x&", "x|y", "x&y", "xx&", "&xyz", "|xxx", "&xyx", "&|xyxy", "&xx|", "&xx&", "&xy&xy", "|&xyzz",
		"w", "W", "a", "A", "0", "1", "01", "_", " ", " x", "x ", "x\n", "\nx", "& xy", "&x y", "& x y", "&xy ", "&(xy)", "(x)", "!x", "-x", "~x", "&x!y", "&xw", "&wx", "|x0", "|1x",
		"\x00", "x\x00", "&x\x00", "\xff", "&x\xff", "é", "&xé", "ｘ", "&ｘy", "∧xy", "∨xy", "+xy", "*xy", "'xy", "}xy", "{xy", "%xy", "#xy", "NaN", "xyz",
	}
}

// noWidths returns numbers that are no widths.
func noWidths() []int {
	return []int{0, -1, -2, -3, 4, 5, 6, 7, 8, 32, 63, 64, 65, 256, 257, 1 << 32, 1<<32 + 1, math.MaxInt, math.MinInt, math.MinInt + 1}
}

// tablesOf returns all tables of a width.
func tablesOf(width int) []string {
	var list []string
	for set := range 1 << (1 << width) {
		list = append(list, tableText(set, width))
	}
	return list
}

// tableText returns the table of the functions that is true of the numbers in a set.
func tableText(set int, width int) string {
	var text strings.Builder
	for n := range 1 << width {
		text.WriteByte('0' + byte(set>>n&1))
	}
	return text.String()
}

// isMonotone reports whether a table never falls when one bit more is 1.
func isMonotone(table string) bool {
	for n := range len(table) {
		for step := 1; step < len(table); step *= 2 {
			if n&step == 0 && table[n] == '1' && table[n|step] == '0' {
				return false
			}
		}
	}
	return true
}

// otherTable returns the table with the other value for each number.
func otherTable(table string) string { return strings.NewReplacer("0", "1", "1", "0").Replace(table) }

// A reading tells what is read of a formula: the set of the numbers from 0 to 7 of which
// it is true, its depth and its letters.
type reading struct {
	truths int
	deep   int
	size   int
	widest int // the greatest bit of a letter
}

// readLetterOf returns what is read of a letter.
func readLetterOf(c byte) (reading, bool) {
	bit := strings.IndexByte("xyz", c|0x20)
	if bit < 0 {
		return reading{}, false
	}
	truths := []int{0xaa, 0xcc, 0xf0}[bit]
	if c&0x20 == 0 {
		truths ^= 0xff
	}
	return reading{truths: truths, size: 1, widest: bit}, true
}

// readingOf reads a text from its end: a letter is put on a pile, and a sign takes its
// parts from there. The text is a formula if one thing is left.
func readingOf(f string, width int) (reading, bool) {
	var pile []reading
	for i := len(f) - 1; i >= 0; i-- {
		if l, ok := readLetterOf(f[i]); ok {
			pile = append(pile, l)
			continue
		}
		if f[i] != '&' && f[i] != '|' || len(pile) < 2 {
			return reading{}, false
		}
		a, b := pile[len(pile)-1], pile[len(pile)-2]
		both := reading{truths: a.truths & b.truths, deep: max(a.deep, b.deep) + 1, size: a.size + b.size, widest: max(a.widest, b.widest)}
		if f[i] == '|' {
			both.truths = a.truths | b.truths
		}
		pile = append(pile[:len(pile)-2], both)
	}
	if len(pile) != 1 || len(f) > 200 || width < 1 || width > 3 || pile[0].widest >= width {
		return reading{}, false
	}
	return pile[0], true
}

// dualOf turns each byte of a formula.
func dualOf(f string) string {
	return strings.NewReplacer("x", "X", "X", "x", "y", "Y", "Y", "y", "z", "Z", "Z", "z", "&", "|", "|", "&").Replace(f)
}

// checkFormula checks what is told of a text.
func checkFormula(t *testing.T, f string) {
	t.Helper()
	for width := -1; width <= 5; width++ {
		r, ok := readingOf(f, width)
		want := ""
		if ok {
			want = tableText(r.truths, width)
		}
		if impl.FormulaValid(f, width) != ok {
			t.Fatalf("FormulaValid(%q, %d) is not %v", f, width, ok)
		}
		if table, is := impl.TableOf(f, width); table != want || is != ok {
			t.Fatalf("TableOf(%q, %d) = %q, %v, want %q, %v", f, width, table, is, want, ok)
		}
	}
	r, ok := readingOf(f, 3)
	deep, size, dual := r.deep, r.size, dualOf(f)
	if !ok {
		deep, size, dual = -1, -1, ""
	}
	if impl.DeepOf(f) != deep || impl.SizeOf(f) != size {
		t.Fatalf("DeepOf and SizeOf(%q) = %d and %d, want %d and %d", f, impl.DeepOf(f), impl.SizeOf(f), deep, size)
	}
	if d, is := impl.DualFormula(f); d != dual || is != ok {
		t.Fatalf("DualFormula(%q) = %q, %v, want %q, %v", f, d, is, dual, ok)
	}
}

// eachText calls do for all texts of at most so many of the letters.
func eachText(letters string, length int, do func(s string)) {
	texts := []string{""}
	for range length + 1 {
		var longer []string
		for _, s := range texts {
			do(s)
			for i := range len(letters) {
				longer = append(longer, s+letters[i:i+1])
			}
		}
		texts = longer
	}
}

// randomFormula returns a formula with so many letters of a width.
func randomFormula(random *rand.Rand, letters int, width int) string {
	if letters == 1 {
		return []string{"x", "X", "y", "Y", "z", "Z"}[random.Intn(2*width)]
	}
	first := 1 + random.Intn(letters-1)
	return []string{"&", "|"}[random.Intn(2)] + randomFormula(random, first, width) + randomFormula(random, letters-first, width)
}

// someFormulas returns formulas with all numbers of letters that a formula can have.
func someFormulas() []string {
	random := rand.New(rand.NewSource(28))
	var list []string
	for letters := 1; letters <= 100; letters++ {
		for range 6 {
			list = append(list, randomFormula(random, letters, 1+random.Intn(3)))
		}
	}
	return list
}

func TestTables(t *testing.T) {
	eachText("01", 9, func(s string) {
		width := map[int]int{2: 1, 4: 2, 8: 3}[len(s)]
		if impl.TableValid(s) != (width > 0) {
			t.Errorf("TableValid(%q) is not %v", s, width > 0)
		}
		if width == 0 {
			width = -1
		}
		if impl.WidthOf(s) != width {
			t.Errorf("WidthOf(%q) = %d, want %d", s, impl.WidthOf(s), width)
		}
		if want := width > 0 && isMonotone(s); impl.IsMonotone(s) != want {
			t.Errorf("IsMonotone(%q) is not %v", s, want)
		}
	})
	// The numbers of tables that never fall are known.
	for width, want := range map[int]int{1: 3, 2: 6, 3: 20} {
		count := 0
		for _, s := range tablesOf(width) {
			if impl.IsMonotone(s) {
				count++
			}
		}
		if count != want {
			t.Errorf("%d tables of the width %d never fall, want %d", count, width, want)
		}
	}
}

func TestMonotoneTexts(t *testing.T) {
	for s, want := range map[string]bool{
		"00": true, "11": true, "01": true, "10": false,
		"0000": true, "1111": true, "0001": true, "0111": true, "0101": true, "0011": true, "0110": false, "1001": false, "1000": false, "0100": false, "1011": false,
		"00000000": true, "11111111": true, "00010111": true, "00000001": true, "01111111": true, "00001111": true, "01010101": true, "00011111": true,
		"01101001": false, "10000000": false, "11111110": false, "00010110": false, "00011011": false, "01000000": false,
	} {
		if impl.IsMonotone(s) != want {
			t.Errorf("IsMonotone(%q) is not %v", s, want)
		}
	}
}

// checkNoTable checks that nothing is told of a text that is no table.
func checkNoTable(t *testing.T, s string) {
	t.Helper()
	if impl.TableValid(s) || impl.IsMonotone(s) || impl.WidthOf(s) != -1 || impl.LeastDeep(s) != -1 || impl.LeastSize(s) != -1 {
		t.Errorf("%q is a table", s)
	}
	if f, ok := impl.FlattestFormula(s); f != "" || ok {
		t.Errorf("FlattestFormula(%q) = %q, %v", s, f, ok)
	}
}

func TestTextsThatAreNoTables(t *testing.T) {
	for _, s := range noTables() {
		checkNoTable(t, s)
	}
	for _, s := range []string{"01", "10", "0110", "1111", "01101001", "00000000"} {
		for i := range len(s) {
			for c := range 256 {
				if c != '0' && c != '1' {
					checkNoTable(t, s[:i]+string([]byte{byte(c)})+s[i+1:])
				}
			}
			checkNoTable(t, s[:i]+"/"+s[i:])
		}
	}
	for length := range 40 {
		if length != 2 && length != 4 && length != 8 {
			checkNoTable(t, strings.Repeat("0", length))
			checkNoTable(t, strings.Repeat("1", length))
		}
	}
	checkNoTable(t, strings.Repeat("0", 1<<20))
}

func TestAllShortTexts(t *testing.T) {
	counts := map[int]int{}
	eachText("XYZxyz&|w", 5, func(s string) {
		checkFormula(t, s)
		counts[impl.SizeOf(s)]++
	})
	// Two letters have one sign, and three have two, in two forms.
	for size, want := range map[int]int{0: 0, 1: 6, 2: 2 * 6 * 6, 3: 2 * 4 * 6 * 6 * 6, 4: 0} {
		if counts[size] != want {
			t.Errorf("%d formulas of %d letters, want %d", counts[size], size, want)
		}
	}
}

func TestFormulaTexts(t *testing.T) {
	for _, c := range []struct {
		name  string
		f     string
		width int // the least one
		table string
		deep  int
		size  int
		dual  string
	}{
		{"a letter", "x", 1, "01010101", 0, 1, "X"},
		{"a great letter", "X", 1, "10101010", 0, 1, "x"},
		{"the second bit", "y", 2, "00110011", 0, 1, "Y"},
		{"the third bit", "z", 3, "00001111", 0, 1, "Z"},
		{"the third bit, turned", "Z", 3, "11110000", 0, 1, "z"},
		{"never true", "&xX", 1, "00000000", 1, 2, "|Xx"},
		{"always true", "|Xx", 1, "11111111", 1, 2, "&xX"},
		{"a letter twice", "&xx", 1, "01010101", 1, 2, "|XX"},
		{"both", "&xy", 2, "00010001", 1, 2, "|XY"},
		{"at least one", "|xy", 2, "01110111", 1, 2, "&XY"},
		{"exactly one", "&|XY|xy", 2, "01100110", 2, 4, "|&xy&XY"},
		{"a deep first part", "|&xyz", 3, "00011111", 2, 3, "&|XYZ"},
		{"a deep second part", "|x&yz", 3, "01010111", 2, 3, "&X|YZ"},
		{"two of three", "|&xy&z|xy", 3, "00010111", 3, 5, "&|XY|Z&XY"},
		{"a chain", "&x&x&x&xx", 1, "01010101", 4, 5, "|X|X|X|XX"},
		{"a chain to the left", "|||zyxX", 3, "11111111", 3, 4, "&&&ZYXx"},
	} {
		for width := 1; width <= 3; width++ {
			want := ""
			if width >= c.width {
				want = c.table[:1<<width]
			}
			table, ok := impl.TableOf(c.f, width)
			if table != want || ok != (width >= c.width) || impl.FormulaValid(c.f, width) != ok {
				t.Errorf("%s: TableOf(%q, %d) = %q, %v, want %q", c.name, c.f, width, table, ok, want)
			}
		}
		if impl.DeepOf(c.f) != c.deep || impl.SizeOf(c.f) != c.size {
			t.Errorf("%s: DeepOf and SizeOf(%q) = %d and %d", c.name, c.f, impl.DeepOf(c.f), impl.SizeOf(c.f))
		}
		if dual, ok := impl.DualFormula(c.f); dual != c.dual || !ok {
			t.Errorf("%s: DualFormula(%q) = %q, %v, want %q", c.name, c.f, dual, ok, c.dual)
		}
	}
}

func TestLettersBeyondTheWidth(t *testing.T) {
	for i, letters := range []string{"xX", "yY", "zZ"} {
		for _, l := range strings.Split(letters, "") {
			for width := 1; width <= 3; width++ {
				for _, f := range []string{l, "&x" + l, "|" + l + "x", "&|xX" + l, "|x&X|x" + l} {
					table, ok := impl.TableOf(f, width)
					if impl.FormulaValid(f, width) != (i < width) || ok != (i < width) || len(table) != bitOf(ok)<<width {
						t.Errorf("TableOf(%q, %d) = %q, %v", f, width, table, ok)
					}
				}
			}
		}
	}
}

// bitOf returns 1 for what is true, and 0 for what is not.
func bitOf(truth bool) int {
	if truth {
		return 1
	}
	return 0
}

func TestLongFormulas(t *testing.T) {
	for _, f := range someFormulas() {
		checkFormula(t, f)
		checkFormula(t, f+"x")
		checkFormula(t, f[:len(f)-1])
		checkFormula(t, "&"+f)
	}
	for letters := 98; letters <= 103; letters++ {
		right := strings.Repeat("&x", letters-1) + "Y"
		left := strings.Repeat("|", letters-1) + strings.Repeat("z", letters)
		for _, f := range []string{left, right} {
			checkFormula(t, f)
			if ok := letters <= 100; impl.FormulaValid(f, 3) != ok || ok && (impl.DeepOf(f) != letters-1 || impl.SizeOf(f) != letters) {
				t.Errorf("a chain of %d letters: FormulaValid is %v, DeepOf %d, SizeOf %d", letters, impl.FormulaValid(f, 3), impl.DeepOf(f), impl.SizeOf(f))
			}
		}
	}
	for _, length := range []int{199, 200, 201, 1 << 10, 1 << 16} {
		for _, s := range []string{"&", "|", "x", "w", "&x", "\x00", "&xy"} {
			checkFormula(t, strings.Repeat(s, length/len(s)+1)[:length])
		}
	}
}

// checkNoFormula checks that nothing is told of a text that is no formula of the width 3.
func checkNoFormula(t *testing.T, f string) {
	t.Helper()
	for width := 1; width <= 3; width++ {
		if table, ok := impl.TableOf(f, width); table != "" || ok || impl.FormulaValid(f, width) {
			t.Errorf("TableOf(%q, %d) = %q, %v", f, width, table, ok)
		}
	}
	if impl.DeepOf(f) != -1 || impl.SizeOf(f) != -1 {
		t.Errorf("DeepOf and SizeOf(%q) = %d and %d", f, impl.DeepOf(f), impl.SizeOf(f))
	}
	if dual, ok := impl.DualFormula(f); dual != "" || ok {
		t.Errorf("DualFormula(%q) = %q, %v", f, dual, ok)
	}
}

func TestTextsThatAreNoFormulas(t *testing.T) {
	for _, f := range noFormulas() {
		checkNoFormula(t, f)
	}
	for c := range 256 {
		other := string([]byte{byte(c)})
		if strings.Contains("xyzXYZ", other) {
			continue
		}
		for _, f := range []string{other, "&x" + other, "&" + other + "x", other + "x", "x" + other, "&xy" + other, "|&xy" + other} {
			checkNoFormula(t, f)
		}
		if c != '&' && c != '|' {
			checkNoFormula(t, other+"xy")
			checkNoFormula(t, "|"+other+"xyz")
		}
	}
	for _, f := range []string{"x", "Y", "&xy", "|&xyz", "&|XY|xy"} {
		for _, behind := range []string{"x", "Z", "&", "|", " ", "\n", "\x00", "0", f, "&" + f} {
			checkNoFormula(t, f+behind)
		}
		checkNoFormula(t, "&"+f)
		checkNoFormula(t, " "+f)
	}
}

func TestWidthsThatAreNone(t *testing.T) {
	for _, width := range noWidths() {
		for _, f := range []string{"x", "X", "y", "z", "&xX", "&xy", "|&xyz", "", "w"} {
			if table, ok := impl.TableOf(f, width); table != "" || ok || impl.FormulaValid(f, width) {
				t.Errorf("TableOf(%q, %d) = %q, %v", f, width, table, ok)
			}
		}
	}
}

// A leastTable has the least depth of a formula of each function, told by the set of the
// numbers with the value 1, and a formula with as few letters as possible.
type leastTable struct {
	deep map[int]int
	text map[int]string
}

// newLeastTable goes from the letters of a width on, and joins all that is known until
// nothing gets better.
func newLeastTable(width int) leastTable {
	all := 1<<(1<<width) - 1
	known := leastTable{deep: map[int]int{}, text: map[int]string{}}
	for _, l := range strings.Split("XxYyZz"[:2*width], "") {
		r, _ := readingOf(l, width)
		known.deep[r.truths&all], known.text[r.truths&all] = 0, l
	}
	for known.joinAll(all) {
	}
	return known
}

// joinAll joins all that is known once, and reports whether something got better.
func (k leastTable) joinAll(all int) bool {
	better := false
	for a := range all + 1 {
		for b := range all + 1 {
			if k.text[a] == "" || k.text[b] == "" {
				continue
			}
			for sign, c := range map[string]int{"&": a & b, "|": a | b} {
				if deep, ok := k.deep[c]; !ok || deep > 1+max(k.deep[a], k.deep[b]) {
					k.deep[c], better = 1+max(k.deep[a], k.deep[b]), true
				}
				if k.text[c] == "" || len(k.text[c]) > 1+len(k.text[a])+len(k.text[b]) {
					k.text[c], better = sign+k.text[a]+k.text[b], true
				}
			}
		}
	}
	return better
}

// flattestOf follows the definition of FlattestFormula for all tables of a width: of
// each depth, all formulas of tables that are not found yet are listed and put in order.
func flattestOf(width int) map[int]string {
	all := 1<<(1<<width) - 1
	found := map[int]string{}
	for _, l := range strings.Split("xyzXYZ", "") {
		if r, ok := readingOf(l, width); ok {
			found[r.truths&all] = l
		}
	}
	for {
		lists := map[int][]string{}
		for a, f := range found {
			for b, g := range found {
				for sign, c := range map[string]int{"&": a & b, "|": a | b} {
					if found[c] == "" {
						lists[c] = append(lists[c], sign+f+g)
					}
				}
			}
		}
		if len(lists) == 0 {
			return found
		}
		for c, list := range lists {
			found[c] = slices.MinFunc(list, func(f string, g string) int {
				return cmp.Or(len(f)-len(g), strings.Compare(f, g))
			})
		}
	}
}

func TestLeastOfAllTables(t *testing.T) {
	for width := 1; width <= 3; width++ {
		least, flattest := newLeastTable(width), flattestOf(width)
		for set := range 1 << (1 << width) {
			table := tableText(set, width)
			f, ok := impl.FlattestFormula(table)
			if f != flattest[set] || !ok {
				t.Fatalf("FlattestFormula(%q) = %q, %v, want %q", table, f, ok, flattest[set])
			}
			deep, size := impl.LeastDeep(table), impl.LeastSize(table)
			if deep != least.deep[set] {
				t.Fatalf("LeastDeep(%q) = %d, want %d", table, deep, least.deep[set])
			}
			if size != impl.SizeOf(least.text[set]) {
				t.Fatalf("LeastSize(%q) = %d, but %q has this table", table, size, least.text[set])
			}
			if back, _ := impl.TableOf(least.text[set], width); back != table {
				t.Fatalf("TableOf(%q, %d) = %q, want %q", least.text[set], width, back, table)
			}
			if back, _ := impl.TableOf(f, width); back != table || impl.DeepOf(f) != deep || impl.SizeOf(f) < size {
				t.Fatalf("FlattestFormula(%q) = %q, of depth %d and with %d letters", table, f, impl.DeepOf(f), impl.SizeOf(f))
			}
		}
	}
}

// Several formulas of most of these tables are found with the least depth.
func TestLeastTexts(t *testing.T) {
	for _, c := range []struct {
		name  string
		table string
		f     string
		size  int
	}{
		{"a letter", "01", "x", 1},
		{"a great letter", "10", "X", 1},
		{"never true, great letters first", "00", "&Xx", 2},
		{"always true", "11", "|Xx", 2},
		{"the first bit of two", "0101", "x", 1},
		{"the second bit", "0011", "y", 1},
		{"the second bit, turned", "1100", "Y", 1},
		{"never true, with two bits", "0000", "&Xx", 2},
		{"always true, with two bits", "1111", "|Xx", 2},
		{"both", "0001", "&xy", 2},
		{"at least one", "0111", "|xy", 2},
		{"none", "1000", "&XY", 2},
		{"the first one alone", "0100", "&Yx", 2},
		{"exactly one: & before |, letters behind", "0110", "&|XY|xy", 4},
		{"both or none", "1001", "&|Xy|Yx", 4},
		{"the third bit", "00001111", "z", 1},
		{"never true, with three bits", "00000000", "&Xx", 2},
		{"always true, with three bits", "11111111", "|Xx", 2},
		{"two of three bits", "01100110", "&|XY|xy", 4},
		{"all", "00000001", "&&xyz", 3},
		{"at least one of three", "01111111", "|x|yz", 3},
		{"at least two of three", "00010111", "&|&xyz|xy", 5},
		{"an odd number", "01101001", "&|&XY|&xyZ|&Xy|&Yxz", 10},
		{"an even number", "10010110", "&|&XY|&xyz|&Xy|&YxZ", 10},
		{"two of four by the third one", "01010011", "&|Zy|xz", 4},
	} {
		f, ok := impl.FlattestFormula(c.table)
		if f != c.f || !ok {
			t.Errorf("%s: FlattestFormula(%q) = %q, %v, want %q", c.name, c.table, f, ok, c.f)
		}
		if n := impl.LeastDeep(c.table); n != impl.DeepOf(c.f) {
			t.Errorf("%s: LeastDeep(%q) = %d, want %d", c.name, c.table, n, impl.DeepOf(c.f))
		}
		if n := impl.LeastSize(c.table); n != c.size {
			t.Errorf("%s: LeastSize(%q) = %d, want %d", c.name, c.table, n, c.size)
		}
	}
}

// What is found does not depend on what was asked before, or is asked at the same time.
func TestFlattestFormulasStay(t *testing.T) {
	tables := []string{"0110", "01101001", "00", "00010111", "01010011", "1111"}
	answers := make(chan string)
	ask := func() {
		var all []string
		for _, table := range tables {
			f, _ := impl.FlattestFormula(table)
			all = append(all, f, strconv.Itoa(impl.LeastSize(table)))
		}
		answers <- strings.Join(all, " ")
	}
	for range 12 {
		go ask()
	}
	first := <-answers
	for range 11 {
		if next := <-answers; next != first {
			t.Errorf("FlattestFormula and LeastSize return %q, and then %q", first, next)
		}
	}
}

// checkPromise checks that a formula and its dual have other values, and that least
// numbers are bounds of its own.
func checkPromise(t *testing.T, f string) {
	t.Helper()
	dual, _ := impl.DualFormula(f)
	if back, _ := impl.DualFormula(dual); back != f || impl.DeepOf(dual) != impl.DeepOf(f) || impl.SizeOf(dual) != impl.SizeOf(f) {
		t.Fatalf("%q is the dual of %q, and that of it is %q", dual, f, back)
	}
	for width := 1; width <= 3; width++ {
		table, ok := impl.TableOf(f, width)
		other, is := impl.TableOf(dual, width)
		if ok != is || other != otherTable(table) {
			t.Fatalf("the table of %q is %q, and that of the dual %q", f, table, other)
		}
		if ok && (impl.LeastDeep(table) > impl.DeepOf(f) || impl.LeastSize(table) > impl.SizeOf(f)) {
			t.Fatalf("LeastDeep and LeastSize(%q) are %d and %d, but %q has this table", table, impl.LeastDeep(table), impl.LeastSize(table), f)
		}
	}
}

// Promise 9: a formula and its dual have other values, and least depths and sizes are
// bounds of each other.
func TestDualsAndBounds(t *testing.T) {
	eachText("Xxyz&|", 3, func(s string) {
		if impl.FormulaValid(s, 3) {
			checkPromise(t, s)
		}
	})
	for i, f := range someFormulas() {
		if i%3 == 0 {
			checkPromise(t, f)
		}
	}
	for width := 1; width <= 3; width++ {
		for _, table := range tablesOf(width) {
			deep, size := impl.LeastDeep(table), impl.LeastSize(table)
			if size > 1<<deep || deep > size-1 || deep < 0 {
				t.Errorf("LeastDeep and LeastSize(%q) are %d and %d", table, deep, size)
			}
			if other := otherTable(table); impl.LeastDeep(other) != deep || impl.LeastSize(other) != size {
				t.Errorf("LeastDeep and LeastSize of %q and %q differ", table, other)
			}
			f, _ := impl.FlattestFormula(table)
			checkPromise(t, f)
		}
	}
}

// What a formula with small letters alone tells never falls.
func TestMonotoneFormulas(t *testing.T) {
	for _, f := range someFormulas() {
		table, _ := impl.TableOf(strings.ToLower(f), 3)
		if !impl.IsMonotone(table) {
			t.Errorf("IsMonotone(%q) is false, but %q has this table", table, strings.ToLower(f))
		}
	}
}
