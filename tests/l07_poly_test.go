package tests

import (
	"math"
	"math/big"
	"math/rand"
	"slices"
	"strconv"
	"strings"
	"testing"

	"loop.example/g03103/impl"
)

const greatestInTable = 10000

// eachOrder calls visit for all orders of the numbers from 0 to n - 1, with 1 or -1 for an even or an odd one.
func eachOrder(n int, visit func(order []int, sign int64)) {
	var fill func(order []int, sign int64)
	fill = func(order []int, sign int64) {
		if len(order) == n {
			visit(order, sign)
			return
		}
		for next := range n {
			if slices.Contains(order, next) {
				continue
			}
			changed := sign
			for _, before := range order {
				if before > next {
					changed = -changed
				}
			}
			fill(append(slices.Clone(order), next), changed)
		}
	}
	fill(nil, 1)
}

// multiplyByHand multiplies without limits, and leaves zeros at the end.
func multiplyByHand(a, b []*big.Int) []*big.Int {
	p := make([]*big.Int, len(a)+len(b))
	for i := range p {
		p[i] = new(big.Int)
	}
	for i, x := range a {
		for k, y := range b {
			p[i+k].Add(p[i+k], new(big.Int).Mul(x, y))
		}
	}
	return p
}

// determinantByHand is the sum over all orders of the products of one polynomial of each row and column.
func determinantByHand(t [][][]*big.Int) []*big.Int {
	sum := make([]*big.Int, 20)
	for i := range sum {
		sum[i] = new(big.Int)
	}
	eachOrder(len(t), func(order []int, sign int64) {
		p := bigPoly(int(sign))
		for i, j := range order {
			p = multiplyByHand(p, t[i][j])
		}
		for i, n := range p {
			if n.Sign() != 0 {
				sum[i].Add(sum[i], n)
			}
		}
	})
	return sum
}

func bigPoly(numbers ...int) []*big.Int {
	var p []*big.Int
	for _, n := range numbers {
		p = append(p, big.NewInt(int64(n)))
	}
	return p
}

// wholePoly returns p as integers, without zeros at the end.
func wholePoly(p []*big.Int) []int {
	var list []int
	for _, n := range p {
		if !n.IsInt64() {
			panic("a number beyond 64 bits")
		}
		list = append(list, int(n.Int64()))
	}
	for len(list) > 0 && list[len(list)-1] == 0 {
		list = list[:len(list)-1]
	}
	return list
}

// polyTable has for each number n of t, which is on the diagonal or not, a polynomial.
func polyTable(t [][]int, polyOf func(n int, onDiagonal bool) []int) [][][]*big.Int {
	var table [][][]*big.Int
	for i, row := range t {
		var polys [][]*big.Int
		for j, n := range row {
			polys = append(polys, bigPoly(polyOf(n, i == j)...))
		}
		table = append(table, polys)
	}
	return table
}

func numberByHand(t [][]int) int {
	p := wholePoly(determinantByHand(polyTable(t, func(n int, _ bool) []int { return []int{n} })))
	if len(p) == 0 {
		return 0
	}
	return p[0]
}

// charPolyByHand has x on the diagonal minus m.
func charPolyByHand(m [][]int) []int {
	return wholePoly(determinantByHand(polyTable(m, func(n int, onDiagonal bool) []int {
		if onDiagonal {
			return []int{-n, 1}
		}
		return []int{-n}
	})))
}

// turnedPolyByHand has 1 on the diagonal minus x times m.
func turnedPolyByHand(m [][]int) []int {
	return wholePoly(determinantByHand(polyTable(m, func(n int, onDiagonal bool) []int {
		if onDiagonal {
			return []int{1, -n}
		}
		return []int{0, -n}
	})))
}

// randomTable has numbers from least to greatest.
func randomTable(random *rand.Rand, size, least, greatest int) [][]int {
	t := filled(size, size, 0)
	for i := range t {
		for j := range t {
			t[i][j] = least + random.Intn(greatest-least+1)
		}
	}
	return t
}

// someSmall are small matrices of every size, with numbers from 0 to 9.
func someSmall() [][][]int {
	list := [][][]int{
		rowsOf("0"), rowsOf("1"), rowsOf("2"), rowsOf("9"), rowsOf("1,1/1,0"), rowsOf("1,1/1,1"), rowsOf("0,1/1,0"), rowsOf("1,2/1,0"), rowsOf("0,1/0,0"),
		rowsOf("0,9/9,0"), rowsOf("9,9/9,9"), rowsOf("1,2/3,4"), rowsOf("0,1,0/0,0,1/1,1,0"), rowsOf("1,1,0/0,1,1/1,0,1"), rowsOf("1,2,3/4,5,6/7,8,9"),
		chain(1, 1, 1), chain(9, 9, 9), rowsOf("1,2,3,4/5,6,7,8/9,8,7,6/5,4,3,2"), rowsOf("9,0,0,0/0,9,0,0/0,0,9,0/0,0,0,9"), beside(rowsOf("1,1/1,0"), rowsOf("0,1/0,0")),
	}
	random := rand.New(rand.NewSource(7))
	for size := 1; size <= 4; size++ {
		list = append(list, unit(size), ring(size), slowest(size), filled(size, size, 0), filled(size, size, 1), filled(size, size, 9))
		for range 200 {
			list = append(list, randomTable(random, size, 0, 9), randomTable(random, size, 0, 1+random.Intn(2)))
		}
	}
	return list
}

// notSmall are matrices, but not small.
func notSmall() [][][]int {
	list := [][][]int{
		rowsOf("10"), rowsOf("11"), rowsOf("1000000"), unit(5), filled(5, 5, 0), filled(5, 5, 1), filled(5, 5, 9), unit(9), filled(9, 9, impl.MaxEntry), chain(1, 1, 1, 1), ring(5),
	}
	for size := 1; size <= 4; size++ {
		list = append(list, filled(size, size, 10), filled(size, size, impl.MaxEntry))
		for i := range size {
			for j := range size {
				list = append(list, with(filled(size, size, 0), i, j, 10), with(unit(size), i, j, 10), with(filled(size, size, 9), i, j, 100), with(unit(size), i, j, impl.MaxEntry))
			}
		}
	}
	return list
}

func TestIsSmall(t *testing.T) {
	for _, m := range someSmall() {
		if !impl.IsSmall(m) {
			t.Errorf("IsSmall(%v) = false", m)
		}
	}
	for _, m := range slices.Concat(notSmall(), noMatrices()) {
		if impl.IsSmall(m) {
			t.Errorf("IsSmall(%v) = true", m)
		}
	}
	for _, m := range someMatrices() {
		if got, want := impl.IsSmall(m), len(m) <= 4 && slices.Max(slices.Concat(m...)) <= 9; got != want {
			t.Errorf("IsSmall(%v) = %v", m, got)
		}
	}
}

// checkDeterminant demands this result, or 0 and false for a table that is not accepted.
func checkDeterminant(t *testing.T, table [][]int, want int, accepted bool) {
	t.Helper()
	if got, ok := impl.DeterminantOf(table); got != want || ok != accepted {
		t.Errorf("DeterminantOf(%v) = %d, %v; want %d, %v", table, got, ok, want, accepted)
	}
}

func TestDeterminantOf(t *testing.T) {
	for _, c := range []struct {
		table [][]int
		want  int
	}{
		{nil, 1}, {[][]int{}, 1}, {make([][]int, 0, 5), 1}, {rowsOf("0"), 0}, {rowsOf("7"), 7}, {rowsOf("_7"), -7}, {rowsOf("10000"), 10000}, {rowsOf("_10000"), -10000},
		{rowsOf("1,2/3,4"), -2}, {rowsOf("3,4/1,2"), 2}, {rowsOf("1,2/2,4"), 0}, {rowsOf("0,1/1,0"), -1}, {rowsOf("1,0/0,1"), 1}, {rowsOf("0,1/_1,0"), 1}, {rowsOf("0,1/0,0"), 0},
		{rowsOf("10000,10000/_10000,10000"), 200000000}, {rowsOf("10000,_10000/_10000,_10000"), -200000000}, {rowsOf("1,2,3/4,5,6/7,8,9"), 0}, {rowsOf("1,2,3/4,5,6/7,8,10"), -3},
		{rowsOf("0,1,0/0,0,1/1,0,0"), 1}, {rowsOf("0,0,1/0,1,0/1,0,0"), -1}, {rowsOf("2,0,0/0,3,0/0,0,_5"), -30}, {ring(4), -1}, {unit(4), 1}, {filled(4, 4, 10000), 0},
		{rowsOf("0,0,0,1/0,0,1,0/0,1,0,0/1,0,0,0"), 1}, {rowsOf("2,9,9,9/0,3,9,9/0,0,5,9/0,0,0,7"), 210}, {rowsOf("2,0,0,0/9,3,0,0/9,9,5,0/9,9,9,7"), 210},
		// The greatest and the least determinant of such a table: rows of equal length at right angles.
		{times(rowsOf("1,1,1,1/1,_1,1,_1/1,1,_1,_1/1,_1,_1,1"), greatestInTable), 160000000000000000},
		{times(rowsOf("1,_1,1,_1/1,1,1,1/1,1,_1,_1/1,_1,_1,1"), greatestInTable), -160000000000000000},
	} {
		checkDeterminant(t, c.table, c.want, true)
	}
}

func TestDeterminantOfManyTables(t *testing.T) {
	check := func(table [][]int) {
		t.Helper()
		checkDeterminant(t, table, numberByHand(table), true)
	}
	eachMatrix(1, []int{-10000, -9999, -1, 0, 1, 9999, 10000}, check)
	eachMatrix(2, []int{-10000, -1, 0, 2, 10000}, check)
	eachMatrix(3, []int{-1, 0, 2}, check)
	random := rand.New(rand.NewSource(8))
	for range 500 {
		for size := range 5 {
			check(randomTable(random, size, -1, 1))
			check(randomTable(random, size, -greatestInTable, greatestInTable))
			check(times(randomTable(random, size, 0, 1), greatestInTable))
		}
	}
	// Two equal rows or columns give 0, and two that are exchanged another sign.
	for range 200 {
		table := randomTable(random, 4, -greatestInTable, greatestInTable)
		whole, _ := impl.DeterminantOf(table)
		exchanged := copyRows(table)
		exchanged[0], exchanged[3] = exchanged[3], exchanged[0]
		checkDeterminant(t, exchanged, -whole, true)
		checkDeterminant(t, [][]int{table[0], table[1], table[1], table[3]}, 0, true)
	}
}

func TestDeterminantOfNumbersBeyond(t *testing.T) {
	for _, n := range []int{-10001, 10001, -10002, 20000, impl.MaxEntry, -impl.MaxEntry, 1 << 32, -1 << 32, math.MaxInt, math.MinInt, math.MinInt + 1} {
		for size := 1; size <= 4; size++ {
			for i := range size {
				for j := range size {
					checkDeterminant(t, with(unit(size), i, j, n), 0, false)
					checkDeterminant(t, with(filled(size, size, 0), i, j, n), 0, false)
				}
			}
		}
	}
	// The limits themselves, in each place.
	for _, n := range []int{-greatestInTable, greatestInTable} {
		for size := 1; size <= 4; size++ {
			for i := range size {
				for j := range size {
					table := with(unit(size), i, j, n)
					want := 1
					if i == j {
						want = n
					}
					checkDeterminant(t, table, want, true)
				}
			}
		}
	}
}

func TestDeterminantOfOtherTables(t *testing.T) {
	for _, table := range [][][]int{
		{nil}, {{}}, {nil, nil}, {{}, {}}, make([][]int, 4), make([][]int, 5), unit(5), filled(5, 5, 0), filled(5, 4, 1), filled(4, 5, 1), unit(9), filled(1000, 1000, 1),
		rowsOf("1,2"), rowsOf("1/2"), rowsOf("1,2,3/4,5,6"), rowsOf("1,2/3,4/5,6"), rowsOf("1,2,3,4"), rowsOf("1/2/3/4"), filled(4, 3, 1), filled(3, 4, 1), filled(5, 1, 1), filled(1, 5, 1),
		rowsOf("1,2/3"), rowsOf("1/2,3"), rowsOf("1,2/3,4,5"), rowsOf("1,2,3/4,5"), rowsOf("1,2/-"), rowsOf("-/1,2"), rowsOf("1,0,0/0,1,0/0,0"), rowsOf("1,0,0/0,1/0,0,1"),
		rowsOf("1,0/0,1,0/0,0,1"), rowsOf("1,0,0,0/0,1,0/0,0,1"), rowsOf("1,0,0,0/0,1,0,0/0,0,1,0/0,0,0"), rowsOf("1,0,0,0/0,1,0,0/0,0,1,0/0,0,0,1,0"),
		rowsOf("1,0,0,0/0,1,0,0/0,0,1,0/-"), rowsOf("-/0,1,0,0/0,0,1,0/0,0,0,1"), {{1, 2}, nil}, {nil, {1, 2}},
	} {
		checkDeterminant(t, table, 0, false)
	}
}

// checkPoly demands this polynomial.
func checkPoly(t *testing.T, name string, argument any, got, want []int) {
	t.Helper()
	if !slices.Equal(got, want) {
		t.Errorf("%s(%v) = %v; want %v", name, argument, got, want)
	}
}

func TestCharPolyAndTurnedPoly(t *testing.T) {
	for _, c := range []struct{ m, char, turned string }{
		{"0", "0,1", "1"}, {"1", "_1,1", "1,_1"}, {"9", "_9,1", "1,_9"}, {"1,1/1,0", "_1,_1,1", "1,_1,_1"}, {"1,1/1,1", "0,_2,1", "1,_2"}, {"0,1/1,0", "_1,0,1", "1,0,_1"},
		{"0,0/0,0", "0,0,1", "1"}, {"0,1/0,0", "0,0,1", "1"}, {"0,0/9,0", "0,0,1", "1"}, {"1,0/0,1", "1,_2,1", "1,_2,1"}, {"1,0/0,0", "0,_1,1", "1,_1"}, {"1,2/1,0", "_2,_1,1", "1,_1,_2"},
		{"9,9/9,9", "0,_18,1", "1,_18"}, {"0,9/9,0", "_81,0,1", "1,0,_81"}, {"9,0/0,9", "81,_18,1", "1,_18,81"}, {"0,1,0/0,0,1/1,1,0", "_1,_1,0,1", "1,0,_1,_1"},
		{"1,1,0/0,1,1/1,0,1", "_2,3,_3,1", "1,_3,3,_2"}, {"1,2,3/4,5,6/7,8,9", "0,_18,_15,1", "1,_15,_18"}, {"0,0,0/0,0,0/0,0,0", "0,0,0,1", "1"}, {"0,1,0/0,0,1/0,0,0", "0,0,0,1", "1"},
		{"0,1,0/0,0,1/1,0,0", "_1,0,0,1", "1,0,0,_1"}, {"0,1,0/1,0,0/0,0,0", "0,_1,0,1", "1,0,_1"}, {"0,1,0,0/0,0,1,0/0,0,0,1/1,0,0,0", "_1,0,0,0,1", "1,0,0,0,_1"},
		{"0,0,0,0/0,0,0,0/0,0,0,0/0,0,0,0", "0,0,0,0,1", "1"}, {"0,9,9,9/0,0,9,9/0,0,0,9/0,0,0,0", "0,0,0,0,1", "1"}, {"1,0,0,0/0,1,0,0/0,0,1,0/0,0,0,1", "1,_4,6,_4,1", "1,_4,6,_4,1"},
		{"9,0,0,0/0,9,0,0/0,0,9,0/0,0,0,9", "6561,_2916,486,_36,1", "1,_36,486,_2916,6561"}, {"9,9,9,9/9,9,9,9/9,9,9,9/9,9,9,9", "0,0,0,_36,1", "1,_36"},
		{"2,0,0,0/0,3,0,0/0,0,5,0/0,0,0,7", "210,_247,101,_17,1", "1,_17,101,_247,210"}, {"2,9,9,9/0,3,9,9/0,0,5,9/0,0,0,0", "0,_30,31,_10,1", "1,_10,31,_30"},
		{"1,1,0,0/1,0,0,0/0,0,0,1/0,0,0,0", "0,0,_1,_1,1", "1,_1,_1"},
	} {
		checkPoly(t, "CharPoly", c.m, impl.CharPoly(rowsOf(c.m)), rowsOf(c.char)[0])
		checkPoly(t, "TurnedPoly", c.m, impl.TurnedPoly(rowsOf(c.m)), rowsOf(c.turned)[0])
	}
}

// isPoly demands the form of a polynomial.
func isPoly(p []int) bool { return len(p) == 0 || p[len(p)-1] != 0 }

func TestPolysOfManyMatrices(t *testing.T) {
	check := func(m [][]int) {
		char, turned := impl.CharPoly(m), impl.TurnedPoly(m)
		checkPoly(t, "CharPoly", m, char, charPolyByHand(m))
		checkPoly(t, "TurnedPoly", m, turned, turnedPolyByHand(m))
		if len(char) != len(m)+1 || !isPoly(char) || !isPoly(turned) || len(turned) == 0 {
			t.Errorf("CharPoly(%v) = %v, TurnedPoly = %v", m, char, turned)
		}
	}
	eachMatrix(1, []int{0, 1, 2, 3, 4, 5, 6, 7, 8, 9}, check)
	eachMatrix(2, []int{0, 1, 2, 9}, check)
	eachMatrix(3, []int{0, 1}, check)
	for _, m := range someSmall() {
		check(m)
	}
}

// CharPoly at x is the determinant of x on the diagonal minus m, and TurnedPoly that of 1 minus x times m.
func TestPolysAtPlacesAreDeterminants(t *testing.T) {
	for _, m := range someSmall() {
		for _, x := range []int{-1000, -7, -1, 0, 1, 2, 9, 36, 1000} {
			char, turned := times(m, -1), times(m, -x)
			for i := range m {
				char[i][i] += x
				turned[i][i]++
			}
			for _, c := range []struct {
				name  string
				p     []int
				table [][]int
			}{{"CharPoly", impl.CharPoly(m), char}, {"TurnedPoly", impl.TurnedPoly(m), turned}} {
				got, fine := impl.PolyAt(c.p, x)
				want, ok := impl.DeterminantOf(c.table)
				if !fine || !ok || got != want {
					t.Errorf("%s of %v at %d: %d, %v; the determinant is %d, %v", c.name, m, x, got, fine, want, ok)
				}
			}
		}
	}
}

// P7.
func TestPolysOfTheTransposedMatrix(t *testing.T) {
	check := func(m [][]int) {
		turnedMatrix := impl.TurnMatrix(m)
		if char := impl.CharPoly(m); !slices.Equal(char, impl.CharPoly(turnedMatrix)) || !slices.Equal(char, charPolyByHand(turnedMatrix)) {
			t.Errorf("CharPoly(%v) = %v, of the transposed matrix %v", m, char, impl.CharPoly(turnedMatrix))
		}
		if turned := impl.TurnedPoly(m); !slices.Equal(turned, impl.TurnedPoly(turnedMatrix)) || !slices.Equal(turned, turnedPolyByHand(turnedMatrix)) {
			t.Errorf("TurnedPoly(%v) = %v, of the transposed matrix %v", m, turned, impl.TurnedPoly(turnedMatrix))
		}
	}
	eachMatrix(1, []int{0, 1, 9}, check)
	eachMatrix(2, []int{0, 1, 3}, check)
	eachMatrix(3, []int{0, 1}, check)
	for _, m := range someSmall() {
		check(m)
	}
}

func TestPolysOfNoSmallMatrix(t *testing.T) {
	for _, m := range slices.Concat(notSmall(), noMatrices()) {
		if char, turned := impl.CharPoly(m), impl.TurnedPoly(m); len(char) != 0 || len(turned) != 0 {
			t.Errorf("CharPoly(%v) = %v, TurnedPoly = %v; want nil", m, char, turned)
		}
		if impl.IsRootless(m) {
			t.Errorf("IsRootless(%v) = true", m)
		}
	}
}

// filledList has length times n.
func filledList(length, n int) []int { return slices.Repeat([]int{n}, length) }

func TestMultiplyPolys(t *testing.T) {
	for _, c := range []struct{ a, b, want []int }{
		{nil, nil, nil}, {nil, []int{1}, nil}, {[]int{1}, nil, nil}, {[]int{}, []int{}, nil}, {nil, filledList(30, 1), nil}, {filledList(30, 1), nil, nil},
		{[]int{1}, []int{1}, []int{1}}, {[]int{1, 1}, []int{1, -1}, []int{1, 0, -1}}, {[]int{1, -1, -1}, []int{1}, []int{1, -1, -1}}, {[]int{-3}, []int{1, 2}, []int{-3, -6}},
		{[]int{1, 2, 3}, []int{4, 5}, []int{4, 13, 22, 15}}, {[]int{0, 1}, []int{0, 1}, []int{0, 0, 1}}, {[]int{0, 0, 2}, []int{3, 4}, []int{0, 0, 6, 8}},
		// Zeros at the end, or alone.
		{[]int{0}, []int{1}, nil}, {[]int{1}, []int{0}, nil}, {[]int{0, 0, 0}, []int{0, 0}, nil}, {[]int{0}, nil, nil}, {nil, []int{0, 0}, nil}, {[]int{0, 0}, []int{1, 2, 3}, nil},
		{[]int{1, 0}, []int{1, 1}, []int{1, 1}}, {[]int{1, 1}, []int{1, 0, 0}, []int{1, 1}}, {[]int{1, 2, 0, 0}, []int{3, 0}, []int{3, 6}}, {[]int{0, 1, 0}, []int{0, 2, 0}, []int{0, 0, 2}},
		{filledList(30, 0), filledList(30, 0), nil}, {filledList(30, 0), []int{5}, nil}, {append(filledList(29, 0), 1), append(filledList(29, 0), 1), append(filledList(58, 0), 1)},
		{append([]int{2}, filledList(29, 0)...), []int{3}, []int{6}}, {[]int{1000000}, []int{1000000}, []int{1000000000000}}, {[]int{-1000000}, []int{1000000}, []int{-1000000000000}},
		{[]int{-1000000}, []int{-1000000}, []int{1000000000000}}, {[]int{1, 1000000}, []int{-1000000, 1}, []int{-1000000, -999999999999, 1000000}},
		// Lists that are too long, also if only zeros stand at their ends.
		{filledList(31, 1), []int{1}, nil}, {[]int{1}, filledList(31, 1), nil}, {filledList(31, 0), nil, nil}, {append([]int{1}, filledList(30, 0)...), []int{1}, nil},
		{[]int{1}, append([]int{1}, filledList(30, 0)...), nil}, {filledList(1000, 1), filledList(1000, 1), nil}, {nil, filledList(31, 1), nil},
	} {
		checkPoly(t, "MultiplyPolys", [][]int{c.a, c.b}, impl.MultiplyPolys(c.a, c.b), c.want)
	}
}

func TestMultiplyPolysOfNumbersBeyond(t *testing.T) {
	for _, n := range []int{-1000001, 1000001, -2000000, 2000000, 1 << 32, -1 << 32, math.MaxInt, math.MinInt, math.MinInt + 1} {
		for _, length := range []int{1, 2, 5, 30} {
			for at := range length {
				p := filledList(length, 1)
				p[at] = n
				for _, other := range [][]int{{1}, {1, 2}, nil, {0}, filledList(30, 1), p} {
					checkPoly(t, "MultiplyPolys", [][]int{p, other}, impl.MultiplyPolys(p, other), nil)
					checkPoly(t, "MultiplyPolys", [][]int{other, p}, impl.MultiplyPolys(other, p), nil)
				}
			}
		}
	}
	for _, n := range []int{-1000000, 1000000} {
		checkPoly(t, "MultiplyPolys", n, impl.MultiplyPolys(filledList(30, n), []int{1}), filledList(30, n))
		checkPoly(t, "MultiplyPolys", n, impl.MultiplyPolys([]int{1}, filledList(30, n)), filledList(30, n))
	}
}

// somePolys are lists that MultiplyPolys accepts, of every length, some with zeros at the end or in front.
func somePolys() [][]int {
	list := [][]int{nil, {}, {0}, {0, 0}, {1}, {-1}, {1, 1}, {1, -1}, {0, 1}, {1, 0}, {0, 1, 0}, {1, 0, 1}, {5, -4, 3, -2, 1}, filledList(30, 0)}
	random := rand.New(rand.NewSource(9))
	for length := 1; length <= 30; length++ {
		list = append(list, filledList(length, 1000000), filledList(length, -1000000), randomList(random, length, 1), randomList(random, length, 1000000), randomList(random, length, 5))
	}
	return list
}

func randomList(random *rand.Rand, length, greatest int) []int {
	var p []int
	for range length {
		p = append(p, random.Intn(2*greatest+1)-greatest)
	}
	return p
}

func TestMultiplyPolysOfManyLists(t *testing.T) {
	for _, a := range somePolys() {
		for _, b := range somePolys() {
			checkPoly(t, "MultiplyPolys", [][]int{a, b}, impl.MultiplyPolys(a, b), wholePoly(multiplyByHand(bigPoly(a...), bigPoly(b...))))
		}
	}
}

// The polynomials of two matrices beside each other are the products.
func TestProductsOfPolysOfMatrices(t *testing.T) {
	for _, a := range []string{"0", "1", "9", "1,1/1,0", "0,1/0,0", "9,8/7,6"} {
		for _, b := range []string{"0", "2", "0,1/1,0", "1,1/1,1", "3,0/9,0"} {
			a, b := rowsOf(a), rowsOf(b)
			checkPoly(t, "CharPoly", beside(a, b), impl.CharPoly(beside(a, b)), impl.MultiplyPolys(impl.CharPoly(a), impl.CharPoly(b)))
			checkPoly(t, "TurnedPoly", beside(a, b), impl.TurnedPoly(beside(a, b)), impl.MultiplyPolys(impl.TurnedPoly(a), impl.TurnedPoly(b)))
		}
	}
}

// checkAt demands this value, or 0 and false where none is accepted.
func checkAt(t *testing.T, p []int, x int, want int, accepted bool) {
	t.Helper()
	if got, ok := impl.PolyAt(p, x); got != want || ok != accepted {
		t.Errorf("PolyAt(%v, %d) = %d, %v; want %d, %v", p, x, got, ok, want, accepted)
	}
}

func TestPolyAt(t *testing.T) {
	for _, c := range []struct {
		p       []int
		x, want int
	}{
		{nil, 0, 0}, {nil, 1000, 0}, {[]int{}, -1000, 0}, {[]int{0}, 5, 0}, {[]int{7}, 0, 7}, {[]int{-7}, 1000, -7}, {[]int{1, 0, -1}, 2, -3}, {[]int{1, 0, -1}, 0, 1}, {[]int{0, 1}, -1000, -1000},
		{[]int{1, 2, 3, 4, 5}, 1, 15}, {[]int{1, 2, 3, 4, 5}, -1, 3}, {[]int{1, 2, 3, 4, 5}, 10, 54321}, {[]int{1, 2, 3, 4, 5}, 0, 1}, {[]int{0, 0, 0, 0, 1}, -3, 81}, {[]int{0, 0, 0, 1, 0}, -3, -27},
		{[]int{1000000}, 1000, 1000000}, {[]int{-1000000}, -1000, -1000000}, {filledList(5, 1000000), 1000, 1001001001001000000}, {filledList(5, -1000000), 1000, -1001001001001000000},
		{filledList(5, 1000000), -1000, 999000999001000000}, {filledList(5, 0), 1000, 0}, {[]int{-1, -1, 1}, 1000, 998999}, {[]int{-1, -1, 1}, -1000, 1000999}, {[]int{0, -1000000, 0, 0, 1}, 100, 0},
	} {
		checkAt(t, c.p, c.x, c.want, true)
	}
}

func TestPolyAtBeyondTheLimits(t *testing.T) {
	for _, x := range []int{-1001, 1001, -1002, 5000, 1 << 32, -1 << 32, math.MaxInt, math.MinInt, math.MinInt + 1} {
		for _, p := range [][]int{nil, {}, {0}, {1}, {1, 2, 3, 4, 5}, filledList(6, 1)} {
			checkAt(t, p, x, 0, false)
		}
	}
	for _, p := range [][]int{filledList(6, 1), filledList(6, 0), {1, 0, 0, 0, 0, 0}, {0, 0, 0, 0, 0, 1}, filledList(7, 1), filledList(30, 1), filledList(1000, 1)} {
		for _, x := range []int{-1000, -1, 0, 1, 1000} {
			checkAt(t, p, x, 0, false)
		}
	}
	for _, n := range []int{-1000001, 1000001, 2000000, 1 << 32, -1 << 32, math.MaxInt, math.MinInt, math.MinInt + 1} {
		for length := 1; length <= 5; length++ {
			for at := range length {
				p := filledList(length, 1)
				p[at] = n
				for _, x := range []int{-1000, -1, 0, 1, 1000} {
					checkAt(t, p, x, 0, false)
				}
			}
		}
	}
}

func TestPolyAtManyPlaces(t *testing.T) {
	for _, p := range somePolys() {
		if len(p) > 5 {
			continue
		}
		for x := -1000; x <= 1000; x++ {
			want := new(big.Int)
			power := big.NewInt(1)
			for _, n := range p {
				want.Add(want, new(big.Int).Mul(power, big.NewInt(int64(n))))
				power.Mul(power, big.NewInt(int64(x)))
			}
			checkAt(t, p, x, int(want.Int64()), true)
		}
	}
}

func TestPolyText(t *testing.T) {
	for _, c := range []struct {
		p    []int
		want string
	}{
		{nil, "0"}, {[]int{}, "0"}, {[]int{0}, "0"}, {[]int{1}, "1"}, {[]int{-1}, "-1"}, {[]int{1, -2}, "1 -2"}, {[]int{-1, -1, 1}, "-1 -1 1"}, {[]int{0, 0, 1}, "0 0 1"}, {[]int{1, 0}, "1 0"}, {[]int{0, 0}, "0 0"},
		{[]int{math.MinInt}, "-9223372036854775808"}, {[]int{math.MaxInt}, "9223372036854775807"}, {[]int{math.MaxInt, math.MinInt, 7}, "9223372036854775807 -9223372036854775808 7"},
		{[]int{1000001, -1000001}, "1000001 -1000001"}, {filledList(100, 10), strings.TrimSuffix(strings.Repeat("10 ", 100), " ")},
	} {
		if got := impl.PolyText(c.p); got != c.want {
			t.Errorf("PolyText(%v) = %q; want %q", c.p, got, c.want)
		}
	}
	for _, p := range somePolys() {
		var texts []string
		for _, n := range p {
			texts = append(texts, strconv.Itoa(n))
		}
		if got := impl.PolyText(p); len(p) > 0 && got != strings.Join(texts, " ") {
			t.Errorf("PolyText(%v) = %q", p, got)
		}
	}
}

func TestIsRootless(t *testing.T) {
	for _, c := range []struct {
		m    [][]int
		want bool
	}{
		{rowsOf("0"), false}, {rowsOf("1"), true}, {rowsOf("2"), true}, {rowsOf("9"), true}, {rowsOf("10"), false}, {rowsOf("1,1/1,0"), true}, {rowsOf("0,1/1,0"), true}, {rowsOf("0,1/0,0"), false},
		{rowsOf("1,1/1,1"), false}, {rowsOf("1,0/0,1"), true}, {rowsOf("1,2/3,4"), true}, {rowsOf("2,4/1,2"), false}, {rowsOf("1,2/2,1"), true}, {rowsOf("1,2,3/4,5,6/7,8,9"), false},
		{rowsOf("1,1,0/0,1,1/1,0,1"), true}, {ring(3), true}, {ring(4), true}, {unit(4), true}, {filled(4, 4, 9), false}, {filled(4, 4, 0), false}, {chain(1, 1, 1), false},
		{unit(5), false}, {ring(5), false}, {with(unit(4), 3, 3, 10), false}, {with(unit(2), 0, 1, 10), false}, {unit(9), false},
		// No matrices, of which some have a determinant.
		{nil, false}, {[][]int{}, false}, {rowsOf("_1"), false}, {rowsOf("1,0/0,_1"), false}, {rowsOf("1,2"), false},
	} {
		if got := impl.IsRootless(c.m); got != c.want {
			t.Errorf("IsRootless(%v) = %v", c.m, got)
		}
	}
	for _, m := range someSmall() {
		if got := impl.IsRootless(m); got != (numberByHand(m) != 0) {
			t.Errorf("IsRootless(%v) = %v; the determinant is %d", m, got, numberByHand(m))
		}
	}
}

// polyMakers make a table of the polynomials that are made of a table, or of its rows.
func polyMakers() []namedTable {
	return []namedTable{
		{"CharPoly", func(m [][]int) [][]int { return [][]int{impl.CharPoly(m)} }},
		{"TurnedPoly", func(m [][]int) [][]int { return [][]int{impl.TurnedPoly(m)} }},
		{"MultiplyPolys", func(m [][]int) [][]int {
			var products [][]int
			// A table of many rows would have too many pairs.
			m = m[:min(len(m), 5)]
			for _, a := range m {
				for _, b := range slices.Concat([][]int{nil, {1}, {0, 1}}, m) {
					products = append(products, impl.MultiplyPolys(a, b), impl.MultiplyPolys(b, a))
				}
			}
			return products
		}},
	}
}

func someOtherTables() [][][]int {
	return slices.Concat(noMatrices()[:60], [][][]int{
		rowsOf("_1"), rowsOf("1,0/0,_1"), rowsOf("10001"), rowsOf("1,0,_2/0,0"), rowsOf("0,0/0"), somePolys()[:12], {filledList(30, 2), filledList(31, 2)}, {{math.MinInt}, {math.MaxInt, 1}},
	})
}

func TestPolyFunctionsKeepTheirArguments(t *testing.T) {
	for _, given := range slices.Concat(someSmall(), notSmall(), someOtherTables()) {
		checkKeptRows(t, given, polyMakers(), func(m [][]int) {
			impl.IsSmall(m)
			impl.DeterminantOf(m)
			impl.IsRootless(m)
			for _, p := range m {
				impl.PolyText(p)
				for _, x := range []int{-1001, -1000, 0, 2, 1000} {
					impl.PolyAt(p, x)
				}
			}
		})
	}
}

func TestPolysAreNewMemory(t *testing.T) {
	for _, m := range slices.Concat(someSmall(), notSmall(), someOtherTables()) {
		for _, f := range polyMakers() {
			checkNewMemory(t, f.name, m, func() [][]int { return f.make(m) })
		}
	}
}
