package tests

import (
	"math"
	"math/rand"
	"regexp"
	"slices"
	"strconv"
	"strings"
	"testing"

	"loop.example/g03103/impl"
)

// rowsOf reads rows of numbers separated by commas, with "/" between rows, so that it does not rest on ParseMatrix.
// It reads "-" as an empty row.
func rowsOf(text string) [][]int {
	var m [][]int
	for _, part := range strings.Split(text, "/") {
		var row []int
		for _, number := range strings.Split(strings.Trim(part, "-"), ",") {
			if number == "" {
				continue
			}
			n, err := strconv.Atoi(strings.Replace(number, "_", "-", 1))
			if err != nil {
				panic(err)
			}
			row = append(row, n)
		}
		m = append(m, row)
	}
	return m
}

func equalRows(a, b [][]int) bool {
	return slices.EqualFunc(a, b, slices.Equal[[]int])
}

func copyRows(m [][]int) [][]int {
	var rows [][]int
	for _, row := range m {
		rows = append(rows, slices.Clone(row))
	}
	return rows
}

// filled returns a table of height rows, each with width times n.
func filled(height, width, n int) [][]int {
	m := make([][]int, height)
	for i := range m {
		m[i] = slices.Repeat([]int{n}, width)
	}
	return m
}

func unit(size int) [][]int {
	m := filled(size, size, 0)
	for i := range m {
		m[i][i] = 1
	}
	return m
}

// with returns a copy of m with n at i and j.
func with(m [][]int, i, j, n int) [][]int {
	changed := copyRows(m)
	changed[i][j] = n
	return changed
}

// eachMatrix calls visit for all matrices of the size with these numbers.
func eachMatrix(size int, numbers []int, visit func([][]int)) {
	m := filled(size, size, 0)
	var fill func(at int)
	fill = func(at int) {
		if at == size*size {
			visit(copyRows(m))
			return
		}
		for _, n := range numbers {
			m[at/size][at%size] = n
			fill(at + 1)
		}
	}
	fill(0)
}

// someMatrices are of every size, with numbers of every length.
func someMatrices() [][][]int {
	list := [][][]int{
		rowsOf("0"), rowsOf("1"), rowsOf("2"), rowsOf("9"), rowsOf("10"), rowsOf("999999"), rowsOf("1000000"), rowsOf("1,1/1,0"),
		rowsOf("1,1/1,1"), rowsOf("0,1/1,0"), rowsOf("1,2/1,0"), rowsOf("1,2/3,4"), rowsOf("0,1000000/0,0"), rowsOf("0,1,0/0,0,1/1,1,0"),
		rowsOf("1,1,0/0,1,1/1,0,1"), rowsOf("0,1000,0/0,0,1000/0,0,0"), rowsOf("0,1000000,0/0,0,1000000/0,0,0"),
		rowsOf("0,100,0,0/0,0,100,0/0,0,0,101/0,0,0,0"), rowsOf("1,2,3/4,5,6/7,8,9"), rowsOf("10,0/0,10"), rowsOf("1,1000000/0,0"),
		filled(9, 9, 1), filled(9, 9, 333), filled(9, 9, 334), filled(9, 9, impl.MaxEntry), filled(9, 9, 0),
	}
	random := rand.New(rand.NewSource(4))
	for size := 1; size <= impl.MaxSize; size++ {
		list = append(list, unit(size))
		for _, most := range []int{1, 2, 40, 400, 1000, impl.MaxEntry} {
			m := filled(size, size, 0)
			for i := range m {
				for j := range m {
					m[i][j] = random.Intn(most + 1)
				}
			}
			list = append(list, m)
		}
	}
	return list
}

// noMatrices are no matrices, most of them nearly.
func noMatrices() [][][]int {
	list := [][][]int{
		nil, {}, {nil}, {{}}, {nil, nil}, {{}, {}}, make([][]int, impl.MaxSize), make([][]int, impl.MaxSize+1), make([][]int, 1000),
		// Rows that are too long, too short or empty, not all of them in each place.
		rowsOf("1,2"), rowsOf("1/2"), rowsOf("1,2/3"), rowsOf("1/2,3"), rowsOf("1,2/-"), rowsOf("-/1,2"), rowsOf("1/-"), rowsOf("-/1"),
		rowsOf("1,2,3/4,5,6"), rowsOf("1,2/3,4/5,6"), rowsOf("1,2/3,4,5"), rowsOf("1,2,3/4,5"), rowsOf("1,2,3/4,5,6/7,8"),
		rowsOf("1,2,3/4,5/7,8,9"), rowsOf("1,2/4,5,6/7,8,9"), rowsOf("1,2,3/4,5,6/7,8,9,0"), rowsOf("1,2,3,0/4,5,6/7,8,9"),
		rowsOf("1,2,3,4/5/6,7,8,9/1,2,3,4"), rowsOf("1,1,1/1,1,1/-"), rowsOf("-/1,1,1/1,1,1"), rowsOf("1,1/1,1/-"), rowsOf("1,1/1,1/1,1"),
		filled(10, 10, 1), filled(10, 9, 1), filled(9, 10, 1), filled(9, 8, 1), filled(8, 9, 1), filled(1, 1000, 1), filled(1000, 1, 1),
		filled(100, 100, 0), filled(10, 10, impl.MaxEntry), filled(0, 5, 1), filled(9, 0, 1), filled(10, 0, 1),
	}
	for _, n := range []int{-1, -2, impl.MaxEntry + 1, -impl.MaxEntry, 2 * impl.MaxEntry, 1 << 32, -1 << 32, math.MaxInt, math.MinInt} {
		list = append(list, filled(1, 1, n), filled(2, 2, n), filled(9, 9, n))
		for _, size := range []int{2, 3, 9} {
			for i := range size {
				for j := range size {
					list = append(list, with(filled(size, size, 1), i, j, n))
				}
			}
		}
	}
	return list
}

// product multiplies as the document says; ok is false if a number is too large.
func product(a, b [][]int) (m [][]int, ok bool) {
	m, ok = filled(len(a), len(a), 0), true
	for i := range a {
		for j := range a {
			for k := range a {
				m[i][j] += a[i][k] * b[k][j]
			}
			ok = ok && m[i][j] <= 1000000
		}
	}
	return m, ok
}

func TestMatrixLimits(t *testing.T) {
	if impl.MaxSize != 9 || impl.MaxEntry != 1000000 {
		t.Errorf("MaxSize = %d, MaxEntry = %d; want 9 and 1000000", impl.MaxSize, impl.MaxEntry)
	}
}

func TestIsMatrix(t *testing.T) {
	for _, m := range someMatrices() {
		if !impl.IsMatrix(m) {
			t.Errorf("IsMatrix(%v) = false", m)
		}
	}
	for _, m := range noMatrices() {
		if impl.IsMatrix(m) {
			t.Errorf("IsMatrix(%v) = true", m)
		}
	}
	for height := range 13 {
		for width := range 13 {
			want := height == width && 1 <= height && height <= 9
			if got := impl.IsMatrix(filled(height, width, 1)); got != want {
				t.Errorf("IsMatrix of %d rows of %d numbers = %v", height, width, got)
			}
		}
	}
}

func TestEqualMatrix(t *testing.T) {
	list := append(someMatrices(), noMatrices()...)
	for _, a := range list {
		if !impl.EqualMatrix(a, a) || !impl.EqualMatrix(a, copyRows(a)) {
			t.Errorf("EqualMatrix(%v) with itself = false", a)
		}
		for _, b := range list {
			if got := impl.EqualMatrix(a, b); got != equalRows(a, b) {
				t.Errorf("EqualMatrix(%v, %v) = %v", a, b, got)
			}
		}
	}
	for size := 1; size <= impl.MaxSize; size++ {
		m := filled(size, size, 5)
		for i := range size {
			for j := range size {
				if other := with(m, i, j, 6); impl.EqualMatrix(m, other) || impl.EqualMatrix(other, m) {
					t.Errorf("EqualMatrix(%v, %v) = true", m, other)
				}
			}
		}
	}
}

// A matrix is not equal to one that has zeros beside and below the same numbers.
func TestEqualMatrixOfDifferentSizes(t *testing.T) {
	for small := 1; small < impl.MaxSize; small++ {
		for large := small + 1; large <= impl.MaxSize; large++ {
			for _, n := range []int{0, 1, impl.MaxEntry} {
				a, b := filled(small, small, n), filled(large, large, 0)
				for i, row := range a {
					copy(b[i], row)
				}
				if impl.EqualMatrix(a, b) || impl.EqualMatrix(b, a) {
					t.Errorf("EqualMatrix(%v, %v) = true", a, b)
				}
			}
		}
	}
}

// Equal functions compare all values; a nil slice and an empty one are equivalent.
func TestEqualMatrixOfNoMatrices(t *testing.T) {
	for _, c := range []struct {
		a, b [][]int
		want bool
	}{
		{nil, nil, true}, {nil, [][]int{}, true}, {[][]int{nil}, [][]int{{}}, true}, {[][]int{{}, nil}, [][]int{nil, {}}, true},
		{nil, [][]int{nil}, false}, {nil, [][]int{{}}, false}, {[][]int{nil}, [][]int{nil, nil}, false}, {nil, rowsOf("0"), false},
		{[][]int{nil}, rowsOf("0"), false}, {rowsOf("1,2"), rowsOf("1,2"), true}, {rowsOf("1,2"), rowsOf("1/2"), false},
		{rowsOf("1,2"), rowsOf("1,2/-"), false}, {rowsOf("1,2/3"), rowsOf("1,2/3"), true}, {rowsOf("1,2/3"), rowsOf("1/2,3"), false},
		{rowsOf("1,2/3"), rowsOf("1,2/3,0"), false}, {rowsOf("1,2/3,4"), rowsOf("1,2/3,4,0"), false}, {rowsOf("1"), rowsOf("1,0"), false},
		{rowsOf("1"), rowsOf("1/0"), false}, {rowsOf("_1"), rowsOf("_1"), true}, {rowsOf("_1"), rowsOf("1"), false}, {rowsOf("_1"), rowsOf("0"), false},
		{filled(10, 10, 1), filled(10, 10, 1), true}, {filled(10, 10, 1), filled(9, 9, 1), false}, {filled(9, 9, 1), filled(10, 9, 1), false},
		{filled(10, 10, 1), with(filled(10, 10, 1), 9, 9, 2), false}, {filled(1, 1000, 1), with(filled(1, 1000, 1), 0, 999, 2), false},
		{filled(1000, 1, 1), with(filled(1000, 1, 1), 999, 0, 2), false}, {rowsOf("1000001"), rowsOf("1000001"), true},
		{rowsOf("1000001"), rowsOf("1000000"), false}, {filled(1, 1, math.MinInt), filled(1, 1, math.MaxInt), false},
	} {
		if impl.EqualMatrix(c.a, c.b) != c.want || impl.EqualMatrix(c.b, c.a) != c.want {
			t.Errorf("EqualMatrix(%v, %v) = %v", c.a, c.b, !c.want)
		}
	}
}

// checkResult demands the matrix want and true, or nil and false if accepted is false.
func checkResult(t *testing.T, got [][]int, ok bool, want [][]int, accepted bool, name string, args ...any) {
	t.Helper()
	if !accepted {
		want = nil
	}
	if ok != accepted || !equalRows(got, want) {
		t.Errorf("%s%v = %v, %v; want %v, %v", name, args, got, ok, want, accepted)
	}
}

func TestMultiplyMatrices(t *testing.T) {
	for _, c := range []struct{ a, b, want string }{
		{"0", "0", "0"}, {"2", "3", "6"}, {"1", "1000000", "1000000"}, {"0", "1000000", "0"}, {"1,1/1,0", "1,1/1,0", "2,1/1,1"},
		{"1,2/3,4", "5,6/7,8", "19,22/43,50"}, {"5,6/7,8", "1,2/3,4", "23,34/31,46"}, {"0,1/0,0", "0,0/1,0", "1,0/0,0"},
		{"0,0/1,0", "0,1/0,0", "0,0/0,1"}, {"1,2,3/4,5,6/7,8,9", "0,0,1/0,1,0/1,0,0", "3,2,1/6,5,4/9,8,7"},
		{"0,0,1/0,1,0/1,0,0", "1,2,3/4,5,6/7,8,9", "7,8,9/4,5,6/1,2,3"},
	} {
		got, ok := impl.MultiplyMatrices(rowsOf(c.a), rowsOf(c.b))
		checkResult(t, got, ok, rowsOf(c.want), true, "MultiplyMatrices", c.a, c.b)
	}
}

func TestMultiplyMatricesAtMaxEntry(t *testing.T) {
	for _, c := range []struct {
		a, b, want string
		fits       bool
	}{
		{"1000", "1000", "1000000", true}, {"1000000", "1", "1000000", true}, {"1000", "1001", "", false}, {"1000000", "2", "", false},
		{"101", "9901", "", false}, {"1000000", "1000000", "", false}, {"999999", "1", "999999", true},
		{"999999,1/0,0", "1,0/1,0", "1000000,0/0,0", true}, {"1000000,1/0,0", "1,0/1,0", "", false}, {"1000,1/0,0", "1000,0/1,0", "", false},
		{"0,0/999999,1", "0,1/0,1", "0,0/0,1000000", true}, {"0,0/1000000,1", "0,1/0,1", "", false}, {"101,0/0,1", "9901,0/0,1", "", false},
		{"1,0/0,101", "1,0/0,9901", "", false}, {"0,101/1,0", "1,0/0,9901", "", false}, {"1,0/101,0", "9901,0/0,1", "", false},
	} {
		got, ok := impl.MultiplyMatrices(rowsOf(c.a), rowsOf(c.b))
		checkResult(t, got, ok, rowsOf(c.want), c.fits, "MultiplyMatrices", c.a, c.b)
	}
	// Just one number of a product is at the limit, or beyond it.
	for i := range impl.MaxSize {
		for j := range impl.MaxSize {
			for k := range impl.MaxSize {
				a, b := with(filled(9, 9, 0), i, k, 101), with(filled(9, 9, 0), k, j, 9901)
				got, ok := impl.MultiplyMatrices(a, b)
				checkResult(t, got, ok, nil, false, "MultiplyMatrices", a, b)
				a, b = with(a, i, k, 1000), with(b, k, j, 1000)
				got, ok = impl.MultiplyMatrices(a, b)
				checkResult(t, got, ok, with(filled(9, 9, 0), i, j, 1000000), true, "MultiplyMatrices", a, b)
			}
		}
	}
}

func TestMultiplyMatricesOnAllPairs(t *testing.T) {
	list := someMatrices()
	for _, a := range list {
		for _, b := range list {
			got, ok := impl.MultiplyMatrices(a, b)
			if len(a) != len(b) {
				checkResult(t, got, ok, nil, false, "MultiplyMatrices", a, b)
				continue
			}
			want, fits := product(a, b)
			checkResult(t, got, ok, want, fits, "MultiplyMatrices", a, b)
		}
		for _, other := range noMatrices() {
			got, ok := impl.MultiplyMatrices(a, other)
			checkResult(t, got, ok, nil, false, "MultiplyMatrices", a, other)
			got, ok = impl.MultiplyMatrices(other, a)
			checkResult(t, got, ok, nil, false, "MultiplyMatrices", other, a)
		}
	}
	for _, a := range noMatrices() {
		got, ok := impl.MultiplyMatrices(a, a)
		checkResult(t, got, ok, nil, false, "MultiplyMatrices", a, a)
	}
}

func TestPowerMatrix(t *testing.T) {
	for _, c := range []struct {
		m    string
		n    int
		want string
		ok   bool
	}{
		{"1,1/1,0", 0, "1,0/0,1", true}, {"1,1/1,0", 1, "1,1/1,0", true}, {"1,1/1,0", 2, "2,1/1,1", true}, {"1,1/1,0", 5, "8,5/5,3", true},
		{"1,1/1,0", 29, "832040,514229/514229,317811", true}, {"1,1/1,0", 30, "", false}, {"1,1/1,0", 31, "", false},
		{"0", 0, "1", true}, {"0", 1, "0", true}, {"0", 30, "0", true}, {"1", 0, "1", true}, {"1", 30, "1", true}, {"1", 31, "", false},
		{"0", 31, "", false}, {"10", 6, "1000000", true}, {"10", 7, "", false}, {"2", 19, "524288", true}, {"2", 20, "", false},
		{"9", 6, "531441", true}, {"9", 7, "", false}, {"1000000", 0, "1", true}, {"1000000", 1, "1000000", true}, {"1000000", 2, "", false},
		{"1000000,1000000/1000000,1000000", 0, "1,0/0,1", true}, {"1000000,1000000/1000000,1000000", 1, "1000000,1000000/1000000,1000000", true},
		{"1,1/0,1", 30, "1,30/0,1", true}, {"0,1/1,0", 29, "0,1/1,0", true}, {"0,1/1,0", 30, "1,0/0,1", true},
		{"0,1,0/0,0,1/1,0,0", 30, "1,0,0/0,1,0/0,0,1", true}, {"0,1,0/0,0,1/1,0,0", 29, "0,0,1/1,0,0/0,1,0", true},
		// The power would fit, but a product on the way does not.
		{"0,1000,0/0,0,1000/0,0,0", 3, "0,0,0/0,0,0/0,0,0", true}, {"0,1000,0/0,0,1001/0,0,0", 2, "", false},
		{"0,1000,0/0,0,1001/0,0,0", 3, "", false}, {"0,1000,0/0,0,1001/0,0,0", 30, "", false}, {"0,1000000,0/0,0,1000000/0,0,0", 3, "", false},
		{"0,1000000,0/0,0,1000000/0,0,0", 4, "", false}, {"0,100,0,0/0,0,100,0/0,0,0,100/0,0,0,0", 4, "0,0,0,0/0,0,0,0/0,0,0,0/0,0,0,0", true},
		// The third power, not the second one.
		{"0,100,0,0/0,0,100,0/0,0,0,101/0,0,0,0", 2, "0,0,10000,0/0,0,0,10100/0,0,0,0/0,0,0,0", true},
		{"0,100,0,0/0,0,100,0/0,0,0,101/0,0,0,0", 3, "", false}, {"0,100,0,0/0,0,100,0/0,0,0,101/0,0,0,0", 4, "", false},
		{"0,100,0,0/0,0,100,0/0,0,0,101/0,0,0,0", 5, "", false}, {"0,100,0,0/0,0,100,0/0,0,0,101/0,0,0,0", 8, "", false},
	} {
		got, ok := impl.PowerMatrix(rowsOf(c.m), c.n)
		checkResult(t, got, ok, rowsOf(c.want), c.ok, "PowerMatrix", c.m, c.n)
	}
}

func TestPowersAreProductsOneAfterTheOther(t *testing.T) {
	for _, m := range someMatrices() {
		want, fits := unit(len(m)), true
		for n := range 31 {
			if n > 0 && fits {
				want, fits = product(want, m)
			}
			got, ok := impl.PowerMatrix(m, n)
			checkResult(t, got, ok, want, fits, "PowerMatrix", m, n)
		}
		for _, n := range []int{-1, -2, -30, 31, 32, 1 << 32, math.MaxInt, math.MinInt} {
			got, ok := impl.PowerMatrix(m, n)
			checkResult(t, got, ok, nil, false, "PowerMatrix", m, n)
		}
	}
	for _, m := range noMatrices() {
		for _, n := range []int{-1, 0, 1, 2, 30, 31} {
			got, ok := impl.PowerMatrix(m, n)
			checkResult(t, got, ok, nil, false, "PowerMatrix", m, n)
		}
	}
}

func TestTraceOfAndSumOf(t *testing.T) {
	for _, c := range []struct {
		m          [][]int
		trace, sum int
	}{
		{rowsOf("0"), 0, 0}, {rowsOf("7"), 7, 7}, {rowsOf("1000000"), 1000000, 1000000}, {rowsOf("1,1/1,0"), 1, 3}, {rowsOf("1,2/30,400"), 401, 433},
		{rowsOf("1,20,300/4000,50000,600000/7,80,900"), 50901, 655308}, {filled(9, 9, 0), 0, 0}, {unit(9), 9, 9},
		{filled(9, 9, impl.MaxEntry), 9000000, 81000000},
	} {
		if trace, sum := impl.TraceOf(c.m), impl.SumOf(c.m); trace != c.trace || sum != c.sum {
			t.Errorf("TraceOf(%v) = %d, SumOf = %d; want %d and %d", c.m, trace, sum, c.trace, c.sum)
		}
	}
	for i := range impl.MaxSize {
		for j := range impl.MaxSize {
			m := with(filled(9, 9, 0), i, j, 5)
			if trace := impl.TraceOf(m); (trace == 5) != (i == j) || (trace == 0) != (i != j) || impl.SumOf(m) != 5 {
				t.Errorf("TraceOf(%v) = %d, SumOf = %d", m, trace, impl.SumOf(m))
			}
		}
	}
	for _, m := range noMatrices() {
		if trace, sum := impl.TraceOf(m), impl.SumOf(m); trace != -1 || sum != -1 {
			t.Errorf("TraceOf(%v) = %d, SumOf = %d; want -1", m, trace, sum)
		}
	}
}

func TestTurnMatrix(t *testing.T) {
	for _, c := range []struct{ m, want string }{
		{"0", "0"}, {"7", "7"}, {"1,2/0,3", "1,0/2,3"}, {"1,2/3,4", "1,3/2,4"}, {"1,2,3/4,5,6/7,8,9", "1,4,7/2,5,8/3,6,9"},
		{"0,1000000/0,0", "0,0/1000000,0"},
	} {
		if got := impl.TurnMatrix(rowsOf(c.m)); !equalRows(got, rowsOf(c.want)) {
			t.Errorf("TurnMatrix(%q) = %v; want %q", c.m, got, c.want)
		}
	}
	for _, m := range someMatrices() {
		turned := impl.TurnMatrix(m)
		if !impl.IsMatrix(turned) || len(turned) != len(m) {
			t.Errorf("TurnMatrix(%v) = %v", m, turned)
			continue
		}
		for i := range m {
			for j := range m {
				if turned[j][i] != m[i][j] {
					t.Errorf("TurnMatrix(%v) has %d at %d and %d", m, turned[j][i], j, i)
				}
			}
		}
	}
	for _, m := range noMatrices() {
		if got := impl.TurnMatrix(m); len(got) != 0 {
			t.Errorf("TurnMatrix(%v) = %v; want nil", m, got)
		}
	}
}

func TestMatrixText(t *testing.T) {
	for _, c := range []struct {
		m    [][]int
		want string
	}{
		{[][]int{{0}}, "0"}, {[][]int{{7}}, "7"}, {[][]int{{1000000}}, "1000000"}, {[][]int{{1, 1}, {1, 0}}, "1,1/1,0"},
		{[][]int{{12, 345}, {0, 999999}}, "12,345/0,999999"}, {[][]int{{1, 2, 3}, {4, 5, 6}, {7, 8, 9}}, "1,2,3/4,5,6/7,8,9"},
		{filled(9, 9, 0), strings.Repeat("/0,0,0,0,0,0,0,0,0", 9)[1:]},
		{filled(9, 9, impl.MaxEntry), strings.Repeat("/"+strings.Repeat(",1000000", 9)[1:], 9)[1:]},
	} {
		if got := impl.MatrixText(c.m); got != c.want {
			t.Errorf("MatrixText(%v) = %q; want %q", c.m, got, c.want)
		}
	}
	for _, m := range noMatrices() {
		if got := impl.MatrixText(m); got != "" {
			t.Errorf("MatrixText(%v) = %q; want none", m, got)
		}
	}
}

// P4.
func TestAMatrixIsParsedFromItsText(t *testing.T) {
	texts := map[string]bool{}
	count := 0
	check := func(m [][]int) {
		text := impl.MatrixText(m)
		got, ok := impl.ParseMatrix(text)
		if !ok || !equalRows(got, m) {
			t.Fatalf("ParseMatrix(%q) = %v, %v; want %v", text, got, ok, m)
		}
		texts[text] = true
		count++
	}
	eachMatrix(2, []int{0, 1, 2, 9, 10, 999999, impl.MaxEntry}, check)
	eachMatrix(3, []int{0, 1, 12}, check)
	for n := range impl.MaxEntry + 1 {
		if n < 2000 || n%997 == 0 || n > impl.MaxEntry-2000 {
			check(filled(1, 1, n))
		}
	}
	if len(texts) != count {
		t.Errorf("%d matrices have %d texts", count, len(texts))
	}
	for _, m := range someMatrices() {
		check(m)
	}
}

var entryForm = regexp.MustCompile(`^(0|[1-9][0-9]{0,5}|1000000)$`)

// readMatrix judges a text by the form of its numbers and by the lengths of its rows.
func readMatrix(text string) ([][]int, bool) {
	lines := strings.Split(text, "/")
	var m [][]int
	for _, line := range lines {
		numbers := strings.Split(line, ",")
		if len(numbers) != len(lines) || len(lines) > 9 {
			return nil, false
		}
		var row []int
		for _, number := range numbers {
			if !entryForm.MatchString(number) {
				return nil, false
			}
			n, _ := strconv.Atoi(number)
			row = append(row, n)
		}
		m = append(m, row)
	}
	return m, true
}

func checkParseMatrix(t *testing.T, text string) {
	t.Helper()
	want, accepted := readMatrix(text)
	got, ok := impl.ParseMatrix(text)
	checkResult(t, got, ok, want, accepted, "ParseMatrix", text)
	if written := impl.MatrixText(got); ok && written != text {
		t.Errorf("ParseMatrix(%q) has the text %q", text, written)
	}
}

func TestParseMatrix(t *testing.T) {
	for _, text := range []string{
		"0", "5", "9", "10", "999999", "1000000", "1,1/1,0", "0,0/0,0", "1000000,0/0,1000000", "0,1,0/0,0,1/1,1,0",
		strings.Repeat("/0,0,0,0,0,0,0,0,0", 9)[1:], strings.Repeat("/"+strings.Repeat(",1000000", 9)[1:], 9)[1:],
	} {
		got, ok := impl.ParseMatrix(text)
		checkResult(t, got, ok, rowsOf(text), true, "ParseMatrix", text)
		checkParseMatrix(t, text)
	}
}

func TestParseMatrixRejectsOtherTexts(t *testing.T) {
	texts := []string{
		"", " ", "x", "/", ",", "//", ",,", "/,", ",/", ",/,", "-", "+", "a", "?", ".", "\x00", "\xff", "\n",
		// Leading zeros and signs.
		"00", "01", "007", "0000001", "-0", "-1", "+0", "+1", "01,1/1,0", "1,01/1,0", "1,1/01,0", "1,1/1,00", "1,1/1,-0", "1,1/1,+0",
		"-1,1/1,0", "1,1/1,-1", "+1,1/1,0", "1,+1/1,0", "--1", "01000000", "1,1/1,01000000",
		// An empty number or row, a comma or a "/" too many.
		"1/", "/1", "1,", ",1", "1//", "//1", "1,,", "1,1/", "/1,1", "1,1/1,0/", "/1,1/1,0", "1,1//1,0", "1,,1/1,0", "1,1,/1,0", "1,1/,1,0",
		",1,1/1,0", "1,1/1,0,", "1,1/1,", "1,1/,0", ",1/1,0", "1,/1,0", "1,1/,", ",/1,0", ",/,", "/1", "1,1//", "1,1,1/1,,1/1,1,1",
		"1,1,1//1,1,1", "1,1/1,0//", "1,1/1,0/,",
		// Rows of different lengths, or not as many as a row has numbers.
		"1,1", "1/1", "1/1,0", "1,1/1", "1,1/1,0/1,1", "1,1,1/1,1,1", "1,1,1/1,1,1/1,1", "1,1/1,1,1/1,1,1", "1,1,1/1,1/1,1,1", "1,1/1,0,1",
		"1,1,1/1,0", "1,1/1,0/1", "1,1,1,1", "1/1/1/1",
		// Spaces and other bytes.
		" 1", "1 ", "1 ,1/1,0", "1, 1/1,0", "1,1 /1,0", "1,1/ 1,0", "1,1/1,0 ", " 1,1/1,0", "1,1/1,0\n", "\n1,1/1,0", "1,1\n1,0", "1,1\n/1,0",
		"1 1/1 0", "1;1/1;0", "1,1|1,0", "1,1\\1,0", "1.1/1.0", "1,1/1,x", "1,x/0,0", "x,1/1,0", "1,1/1,0\x00", "1\t", "1_0", "0x1", "1e3", "1.0",
		"\u0661", "\uff11", "1\u00a0", "1\uff0c1/1\uff0c0", "[1]", "((1))", "1,1/1,0x",
		// Numbers that are too large, also beyond 64 bits.
		"1000001", "1000002", "1,1/1,1000001", "1000001,1/1,0", "9999999", "10000000", "999999999999", "1000000000000", "4294967297",
		"9223372036854775808", "18446744073709551617", "1,1/1,18446744073709551616", strings.Repeat("9", 1000), strings.Repeat("0", 1000),
		// More rows than MaxSize, and other sizes near it.
		strings.Repeat("/0,0,0,0,0,0,0,0,0,0", 10)[1:], strings.Repeat("/0,0,0,0,0,0,0,0,0", 10)[1:], strings.Repeat("/0,0,0,0,0,0,0,0,0", 8)[1:],
		strings.Repeat("/0,0,0,0,0,0,0,0,0,0", 9)[1:], strings.Repeat("/0,0,0,0,0,0,0,0", 9)[1:], strings.Repeat("0,", 1000), strings.Repeat("0/", 1000),
		strings.Repeat("/"+strings.Repeat(",1", 100)[1:], 100)[1:],
	}
	for _, text := range texts {
		got, ok := impl.ParseMatrix(text)
		checkResult(t, got, ok, nil, false, "ParseMatrix", text)
	}
}

func TestParseMatrixOnAllShortTexts(t *testing.T) {
	eachText("01,/-", 7, func(text string) { checkParseMatrix(t, text) })
	eachText("012,/+ x", 4, func(text string) { checkParseMatrix(t, text) })
}

// Texts that differ from a MatrixText in one byte.
func TestParseMatrixOnNearTexts(t *testing.T) {
	for _, text := range []string{"1000000", "10,2/3,1000000", "0,1,0/0,0,1/1,1,0", "999999,0/0,1", impl.MatrixText(filled(9, 9, 1))} {
		for at := range len(text) + 1 {
			if at < len(text) {
				checkParseMatrix(t, text[:at]+text[at+1:])
			}
			for i := range 256 {
				put := string([]byte{byte(i)})
				checkParseMatrix(t, text[:at]+put+text[at:])
				if at < len(text) {
					checkParseMatrix(t, text[:at]+put+text[at+1:])
				}
			}
		}
	}
}

// spareRows returns a copy of m with unused capacity in its rows and behind them.
func spareRows(m [][]int) [][]int {
	rows := make([][]int, 0, len(m)+2)
	for _, row := range m {
		rows = append(rows, append(append(make([]int, 0, len(row)+3), row...), 71, 72, 73)[:len(row)])
	}
	return append(rows, []int{74, 75}, []int{76})[:len(m)]
}

// wholeRows copies what m has, and its unused capacity.
func wholeRows(m [][]int) [][]int {
	var whole [][]int
	for _, row := range m[:cap(m)] {
		whole = append(whole, append(slices.Clone(row[:cap(row)]), len(row)))
	}
	return whole
}

// overwriteRows changes the numbers of m and its rows, and their unused capacity.
func overwriteRows(m [][]int) {
	for _, row := range m {
		overwriteRow(row)
	}
	for i := range m[:cap(m)] {
		m[:cap(m)][i] = nil
	}
}

func overwriteRow(row []int) {
	for j := range row[:cap(row)] {
		row[:cap(row)][j] = -5
	}
}

// namedResult is a function that returns a matrix made of two others.
type namedResult struct {
	name string
	make func(a, b [][]int) [][]int
}

func matrixMakers() []namedResult {
	list := []namedResult{
		{"MultiplyMatrices", func(a, b [][]int) [][]int {
			m, _ := impl.MultiplyMatrices(a, b)
			return m
		}},
		{"TurnMatrix", func(a, b [][]int) [][]int { return impl.TurnMatrix(a) }},
		{"ParseMatrix", func(a, b [][]int) [][]int {
			m, _ := impl.ParseMatrix(impl.MatrixText(a))
			return m
		}},
	}
	for _, n := range []int{-1, 0, 1, 2, 5, 30, 31} {
		list = append(list, namedResult{"PowerMatrix " + strconv.Itoa(n), func(a, b [][]int) [][]int {
			m, _ := impl.PowerMatrix(a, n)
			return m
		}})
	}
	return list
}

func TestMatrixFunctionsKeepTheirArguments(t *testing.T) {
	for _, m := range append(someMatrices(), noMatrices()...) {
		for _, other := range [][][]int{m, unit(max(len(m), 1)), {{1}}, nil, {{1, 2}}} {
			checkKeptPair(t, m, other, matrixMakers(), func(a, b [][]int) {
				impl.IsMatrix(a)
				impl.EqualMatrix(a, b)
				impl.EqualMatrix(b, a)
				impl.TraceOf(a)
				impl.SumOf(a)
				impl.MatrixText(a)
			})
		}
	}
}

// checkKeptPair demands that copies of two tables, with unused capacity, stay as they are: whatever is made of them, when that is changed, and when
// others are called.
func checkKeptPair(t *testing.T, m, other [][]int, makers []namedResult, callOthers func(a, b [][]int)) {
	t.Helper()
	a, b := spareRows(m), spareRows(other)
	wantA, wantB := wholeRows(a), wholeRows(b)
	check := func(name string) {
		t.Helper()
		if !equalRows(wholeRows(a), wantA) || !equalRows(wholeRows(b), wantB) {
			t.Fatalf("%s of %v and %v changed them to %v and %v", name, m, other, wholeRows(a), wholeRows(b))
		}
	}
	for _, f := range makers {
		for _, made := range [][][]int{f.make(a, b), f.make(b, a), f.make(a, a)} {
			check(f.name)
			// A change of the result shows whether it shares memory with an argument.
			overwriteRows(made)
			check("A change of the result of " + f.name)
		}
	}
	callOthers(a, b)
	check("A function that returns no matrix")
}

func TestMatricesAreNewMemory(t *testing.T) {
	for _, m := range someMatrices() {
		for _, f := range matrixMakers() {
			checkNewMemory(t, f.name, m, func() [][]int { return f.make(m, unit(len(m))) })
		}
	}
}

// checkNewMemory demands that the tables that a function makes of m share no memory with each other, nor one of their rows with another.
func checkNewMemory(t *testing.T, name string, m [][]int, makeTable func() [][]int) {
	t.Helper()
	kept := makeTable()
	want := copyRows(kept)
	overwriteRows(makeTable())
	if got := makeTable(); !equalRows(got, want) || !equalRows(kept, want) {
		t.Fatalf("%s of %v = %v and %v after another result was changed; want %v", name, m, kept, got, want)
	}
	for i := range kept {
		overwriteRow(kept[i])
		for k := range kept {
			if k != i && !slices.Equal(kept[k], want[k]) {
				t.Fatalf("%s of %v: the rows %d and %d share memory", name, m, i, k)
			}
		}
		copy(kept[i], want[i])
	}
}
