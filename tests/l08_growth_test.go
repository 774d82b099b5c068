package tests

import (
	"cmp"
	"math"
	"math/rand"
	"slices"
	"strconv"
	"testing"

	"loop.example/g03103/impl"
)

const greatestQ = 3600

// someDs are parts into which a growth is divided.
var someDs = []int{1, 2, 3, 7, 10, 37, 64, 99, 100}

// otherDs are none.
var otherDs = []int{0, -1, 101, -100, 102, 1000, 256 + 1, 1<<32 + 1, -1 << 32, math.MinInt, math.MinInt + 1, math.MaxInt}

// otherQs are beyond the limits, most of them far.
var otherQs = []int{-1, 3601, -2, -3600, 3602, 10000, -10001, 1 << 16, 1<<32 + 1, -1 << 32, math.MinInt, math.MinInt + 1, math.MaxInt}

// derivativesAt returns d to the power of the degree of p times the values, at q / d, of p and of all its derivatives.
func derivativesAt(p []int, q, d int) []int {
	var values []int
	degree := len(p) - 1
	for range p {
		sum := 0
		for i, n := range p {
			sum += n * power(q, i) * power(d, degree-i)
		}
		values = append(values, sum)
		var derivative []int
		for i, n := range p[1:] {
			derivative = append(derivative, (i+1)*n)
		}
		p = derivative
	}
	return values
}

// isBelowByHand rests on the zeros of p, the CharPoly of a matrix, none of which is greater than the growth in its real part, so that those of the
// derivatives lie below, too: beyond the growth, and only there, p and all of its derivatives are greater than 0.
func isBelowByHand(p []int, q, d int) bool { return slices.Min(derivativesAt(p, q, d)) > 0 }

// isAtMostByHand is true for the growth itself, too: there, none of them is less than 0.
func isAtMostByHand(p []int, q, d int) bool { return slices.Min(derivativesAt(p, q, d)) >= 0 }

// hasClosedPaths follows len(m) arcs from each vertex.
func hasClosedPaths(m [][]int) bool {
	lengths := pathLengths(m, len(m))
	return slices.ContainsFunc(lengths[len(m)], func(row []bool) bool { return slices.Contains(row, true) })
}

// renumbered returns m with its vertices in another order.
func renumbered(m [][]int, order []int) [][]int {
	other := filled(len(m), len(m), 0)
	for i, u := range order {
		for j, v := range order {
			other[i][j] = m[u][v]
		}
	}
	return other
}

// fewSmall are small matrices of every size.
func fewSmall() [][][]int {
	all := someSmall()
	list := slices.Clone(all[:20])
	for i := 20; i < len(all); i += 23 {
		list = append(list, all[i])
	}
	return list
}

// wholeGrowth is a matrix and its growth.
type wholeGrowth struct {
	m      [][]int
	growth int
}

// wholeGrowths are small matrices whose growth is an integer.
func wholeGrowths() []wholeGrowth {
	list := []wholeGrowth{
		{rowsOf("1,2/1,0"), 2}, {rowsOf("0,2/1,1"), 2}, {rowsOf("1,1/1,1"), 2}, {rowsOf("0,1/4,0"), 2}, {rowsOf("0,4/9,0"), 6}, {rowsOf("0,1/9,0"), 3}, {rowsOf("2,2/3,1"), 4}, {rowsOf("0,9/9,0"), 9},
		{rowsOf("9,9/9,9"), 18}, {rowsOf("9,9,9/9,9,9/9,9,9"), 27}, {filled(4, 4, 9), 36}, {filled(4, 4, 8), 32}, {filled(4, 4, 1), 4}, {rowsOf("0,1,0/0,0,1/8,0,0"), 2}, {rowsOf("0,1,1/1,0,1/1,1,0"), 2},
		{rowsOf("0,2,0,0/0,0,2,0/0,0,0,4/1,0,0,0"), 2}, {rowsOf("0,9,0,0/0,0,9,0/0,0,0,9/9,0,0,0"), 9}, {rowsOf("0,9,9,9/9,0,9,9/9,9,0,9/9,9,9,0"), 27},
		// Parts that are not connected, or in one direction only.
		{rowsOf("1,0/0,2"), 2}, {rowsOf("2,0/0,1"), 2}, {rowsOf("3,9/0,5"), 5}, {rowsOf("5,0/9,3"), 5}, {rowsOf("0,0/0,7"), 7}, {rowsOf("7,0/0,0"), 7}, {rowsOf("1,9,9/0,2,9/0,0,3"), 3},
		{beside(rowsOf("1,1/1,1"), rowsOf("3")), 3}, {beside(rowsOf("3"), rowsOf("1,1/1,1")), 3}, {beside(rowsOf("2,1/1,2"), rowsOf("1,1/1,1")), 3}, {beside(rowsOf("1,1/1,1"), rowsOf("2,1/1,2")), 3},
		{beside(ring(2), ring(2)), 1}, {beside(rowsOf("1,1/1,0"), rowsOf("2")), 2}, {beside(rowsOf("2"), rowsOf("1,1/1,0")), 2}, {beside(rowsOf("1"), chain(9, 9)), 1}, {beside(chain(9, 9), rowsOf("1")), 1},
		{beside(filled(2, 2, 9), filled(2, 2, 9)), 18}, {beside(filled(3, 3, 9), rowsOf("0")), 27}, {beside(rowsOf("0"), filled(3, 3, 9)), 27},
	}
	for n := range 10 {
		list = append(list, wholeGrowth{filled(1, 1, n), n})
	}
	for size := 1; size <= 4; size++ {
		for n := range 10 {
			list = append(list, wholeGrowth{filled(size, size, n), size * n}, wholeGrowth{times(ring(size), n), n}, wholeGrowth{times(unit(size), n), n})
		}
	}
	return list
}

func TestIsBelow(t *testing.T) {
	for _, c := range []struct {
		m    string
		q, d int
		want bool
	}{
		{"2", 2, 1, false}, {"2", 3, 1, true}, {"2", 1, 1, false}, {"2", 0, 1, false}, {"2", 200, 100, false}, {"2", 201, 100, true}, {"2", 199, 100, false}, {"2", 4, 2, false}, {"2", 5, 2, true},
		{"0", 0, 1, false}, {"0", 1, 1, true}, {"0", 0, 100, false}, {"0", 1, 100, true}, {"0", 3600, 1, true}, {"0", 3600, 100, true}, {"9", 9, 1, false}, {"9", 10, 1, true}, {"9", 900, 100, false}, {"9", 901, 100, true},
		{"1,1/1,0", 1, 1, false}, {"1,1/1,0", 2, 1, true}, {"1,1/1,0", 161, 100, false}, {"1,1/1,0", 162, 100, true}, {"1,1/1,0", 89, 55, true}, {"1,1/1,0", 55, 34, false}, {"1,1/1,0", 144, 89, false}, {"1,1/1,0", 34, 21, true},
		{"0,1/1,1", 55, 34, false}, {"0,1/1,1", 89, 55, true}, {"1,2/1,0", 2, 1, false}, {"1,2/1,0", 200, 100, false}, {"1,2/1,0", 201, 100, true}, {"0,2/1,0", 141, 100, false}, {"0,2/1,0", 142, 100, true},
		{"0,2/1,0", 99, 70, true}, {"0,2/1,0", 41, 29, false}, {"0,9/9,0", 9, 1, false}, {"0,9/9,0", 10, 1, true}, {"0,1/0,0", 0, 7, false}, {"0,1/0,0", 1, 7, true},
		// Below the growth, some or all of the determinants but the last one are greater than 0, or only the last one is.
		{"0,9/9,0", 1, 1, false}, {"0,9/9,0", 8, 1, false}, {"5,0/0,5", 4, 1, false}, {"5,0/0,0", 3, 1, false}, {"0,0/0,5", 3, 1, false}, {"0,0,0/0,5,0/0,0,5", 4, 1, false}, {"5,0,0,0/0,5,0,0/0,0,5,0/0,0,0,5", 3, 1, false},
		{"0,0,0,0/0,0,0,0/0,0,0,0/0,0,0,5", 4, 1, false}, {"0,0,0,0/0,0,0,0/0,0,0,0/0,0,0,5", 6, 1, true}, {"0,0,0/0,0,0/0,0,5", 5, 1, false}, {"0,0,0/0,0,0/0,0,5", 6, 1, true}, {"1,0,0,0/0,5,0,0/0,0,5,0/0,0,0,1", 3, 1, false},
		{"0,1,0/0,0,1/1,1,0", 132, 100, false}, {"0,1,0/0,0,1/1,1,0", 133, 100, true}, {"0,1,0,0/0,0,1,0/0,0,0,1/1,1,0,0", 122, 100, false}, {"0,1,0,0/0,0,1,0/0,0,0,1/1,1,0,0", 123, 100, true},
		{"9,9,9,9/9,9,9,9/9,9,9,9/9,9,9,9", 36, 1, false}, {"9,9,9,9/9,9,9,9/9,9,9,9/9,9,9,9", 37, 1, true}, {"9,9,9,9/9,9,9,9/9,9,9,9/9,9,9,9", 3600, 100, false}, {"9,9,9,9/9,9,9,9/9,9,9,9/9,9,9,9", 3599, 100, false},
		{"9,9,9,9/9,9,9,9/9,9,9,9/9,9,9,9", 3600, 99, true}, {"9,9,9,9/9,9,9,9/9,9,9,9/9,9,9,9", 3565, 99, true}, {"9,9,9,9/9,9,9,9/9,9,9,9/9,9,9,9", 3564, 99, false}, {"9,9,9,9/9,9,9,9/9,9,9,9/9,9,9,9", 3600, 1, true},
		{"9,9,9,9/9,9,9,9/9,9,9,9/9,9,9,9", 0, 1, false}, {"9,9,9,9/9,9,9,9/9,9,9,9/9,9,9,9", 0, 100, false}, {"9,9,9,9/9,9,9,9/9,9,9,9/9,9,9,8", 3600, 100, true},
	} {
		if got := impl.IsBelow(rowsOf(c.m), c.q, c.d); got != c.want {
			t.Errorf("IsBelow(%s, %d, %d) = %v", c.m, c.q, c.d, got)
		}
	}
}

// checkGrowth compares with the zeros of CharPoly: IsBelow at these q and around the growth, FloorOfGrowth, GrowthText and IsGrowthless.
func checkGrowth(t *testing.T, m [][]int, ds, qs []int) {
	t.Helper()
	p := charPolyByHand(m)
	for _, d := range ds {
		floor := impl.FloorOfGrowth(m, d)
		if floor < 0 || floor > greatestQ || isBelowByHand(p, floor, d) || !isBelowByHand(p, floor+1, d) {
			t.Errorf("FloorOfGrowth(%v, %d) = %d", m, d, floor)
			continue
		}
		if got := impl.GrowthText(m, d); got != strconv.Itoa(floor)+"/"+strconv.Itoa(d) {
			t.Errorf("GrowthText(%v, %d) = %q; FloorOfGrowth is %d", m, d, got, floor)
		}
		for _, q := range slices.Concat(qs, []int{0, 1, floor - 1, floor, floor + 1, floor + 2, greatestQ}) {
			if q < 0 || q > greatestQ {
				continue
			}
			if got := impl.IsBelow(m, q, d); got != isBelowByHand(p, q, d) || got != (q > floor) {
				t.Errorf("IsBelow(%v, %d, %d) = %v; FloorOfGrowth is %d", m, q, d, got, floor)
			}
		}
	}
	if got := impl.IsGrowthless(m); got != isAtMostByHand(p, 1, 1) {
		t.Errorf("IsGrowthless(%v) = %v", m, got)
	}
}

func TestGrowthOfManyMatrices(t *testing.T) {
	check := func(m [][]int) {
		t.Helper()
		checkGrowth(t, m, someDs, []int{2, 3, 5, 9, 10, 18, 36, 37, 100, 161, 3599})
	}
	eachMatrix(1, []int{0, 1, 2, 3, 4, 5, 6, 7, 8, 9}, check)
	eachMatrix(2, []int{0, 1, 2, 9}, check)
	eachMatrix(3, []int{0, 1}, check)
	for _, m := range someSmall() {
		check(m)
	}
	for _, c := range wholeGrowths() {
		check(c.m)
	}
}

func TestGrowthAtEachD(t *testing.T) {
	var ds []int
	for d := 1; d <= 100; d++ {
		ds = append(ds, d)
	}
	for _, m := range slices.Concat(fewSmall()[:20], [][][]int{filled(4, 4, 9), with(filled(4, 4, 9), 3, 0, 8), with(filled(4, 4, 0), 0, 0, 1), slowest(3), slowest(4)}) {
		checkGrowth(t, m, ds, nil)
	}
}

func TestIsBelowAtEachQ(t *testing.T) {
	for _, m := range [][][]int{rowsOf("0"), rowsOf("9"), rowsOf("1,1/1,0"), rowsOf("0,9/9,0"), chain(9, 9, 9), slowest(4), filled(3, 3, 9), filled(4, 4, 9), beside(rowsOf("1,1/1,0"), rowsOf("0,3/2,0")), rowsOf("1,2,3,4/5,6,7,8/9,8,7,6/5,4,3,2")} {
		p := charPolyByHand(m)
		for _, d := range []int{1, 33, 100} {
			for q := range greatestQ + 1 {
				if got := impl.IsBelow(m, q, d); got != isBelowByHand(p, q, d) {
					t.Errorf("IsBelow(%v, %d, %d) = %v", m, q, d, got)
				}
			}
		}
	}
}

func TestFloorOfGrowth(t *testing.T) {
	for _, c := range []struct {
		m       string
		d, want int
	}{
		{"0", 1, 0}, {"0", 100, 0}, {"1", 1, 1}, {"1", 100, 100}, {"2", 1, 2}, {"9", 100, 900}, {"1,1/1,0", 1, 1}, {"1,1/1,0", 2, 3}, {"1,1/1,0", 10, 16}, {"1,1/1,0", 100, 161}, {"1,1/1,0", 34, 55}, {"1,1/1,0", 55, 88},
		{"0,1/0,0", 7, 0}, {"0,2/1,0", 100, 141}, {"0,3/1,0", 100, 173}, {"1,2/3,4", 100, 537}, {"1,1,0/1,0,1/1,0,0", 100, 183}, {"0,1,0/0,0,1/1,1,0", 100, 132}, {"0,1,0/0,0,1/1,0,1", 100, 146}, {"0,1,0,0/0,0,1,0/0,0,0,1/1,1,0,0", 100, 122},
		{"1,0/0,2", 3, 6}, {"1,1,0/1,0,0/0,0,1", 100, 161}, {"1,0,0/0,1,1/0,1,0", 100, 161}, {"1,1,0,0/1,0,0,0/0,0,0,2/0,0,1,0", 100, 161}, {"0,2,0,0/1,0,0,0/0,0,1,1/0,0,1,0", 100, 161}, {"1,9/0,1", 100, 100}, {"0,9,9,9/0,0,9,9/0,0,0,9/0,0,0,0", 100, 0},
		{"9,9,9,9/9,9,9,9/9,9,9,9/9,9,9,9", 1, 36}, {"9,9,9,9/9,9,9,9/9,9,9,9/9,9,9,9", 100, 3600}, {"9,9,9,9/9,9,9,9/9,9,9,9/9,9,9,9", 99, 3564}, {"9,9,9,9/9,9,9,9/9,9,9,9/9,9,9,8", 100, 3575},
		{"10", 1, -1}, {"1,1/1,0", 0, -1}, {"1,1/1,0", 101, -1}, {"1,1/1,0", -1, -1},
	} {
		if got := impl.FloorOfGrowth(rowsOf(c.m), c.d); got != c.want {
			t.Errorf("FloorOfGrowth(%s, %d) = %d; want %d", c.m, c.d, got, c.want)
		}
	}
}

func TestGrowthWithoutClosedPaths(t *testing.T) {
	count := 0
	check := func(m [][]int) {
		t.Helper()
		if hasClosedPaths(m) {
			return
		}
		count++
		for _, d := range []int{1, 7, 100} {
			if impl.IsBelow(m, 0, d) || !impl.IsBelow(m, 1, d) || !impl.IsBelow(m, greatestQ, d) || impl.FloorOfGrowth(m, d) != 0 || impl.GrowthText(m, d) != "0/"+strconv.Itoa(d) {
				t.Errorf("without closed paths %v has the growth %s", m, impl.GrowthText(m, d))
			}
		}
		if !impl.IsGrowthless(m) || impl.CompareGrowth(m, rowsOf("0"), 100) != 0 || impl.CompareGrowth(m, rowsOf("1"), 1) != -1 || impl.CompareGrowth(rowsOf("1"), m, 1) != 1 {
			t.Errorf("without closed paths %v has a growth", m)
		}
	}
	eachMatrix(1, []int{0, 1, 9}, check)
	eachMatrix(2, []int{0, 1, 9}, check)
	eachMatrix(3, []int{0, 1, 9}, check)
	eachMatrix(4, []int{0, 1}, check)
	// The numbers of graphs without closed paths, of 1, 2, 3 and 4 vertices: those with two kinds of arcs in each of the first three, and with one kind in the last.
	if want := 1 + (1 + 2*2) + (1 + 6*2 + 12*4 + 6*8) + 543; count != want {
		t.Errorf("%d matrices without closed paths; want %d", count, want)
	}
	for _, m := range [][][]int{chain(9), chain(9, 9), chain(9, 9, 9), chain(1, 9, 1), rowsOf("0,9,9,9/0,0,9,9/0,0,0,9/0,0,0,0"), rowsOf("0,0,0,0/9,0,0,0/9,9,0,0/9,9,9,0")} {
		check(m)
	}
}

func TestWholeGrowths(t *testing.T) {
	for _, c := range wholeGrowths() {
		for d := 1; d <= 100; d++ {
			exact := c.growth * d
			if impl.IsBelow(c.m, exact, d) || exact > 0 && impl.IsBelow(c.m, exact-1, d) || exact < greatestQ && !impl.IsBelow(c.m, exact+1, d) {
				t.Errorf("IsBelow(%v) does not tell at %d / %d that the growth is %d", c.m, exact, d, c.growth)
			}
			if got := impl.FloorOfGrowth(c.m, d); got != exact {
				t.Errorf("FloorOfGrowth(%v, %d) = %d; want %d", c.m, d, got, exact)
			}
		}
		if got := impl.IsGrowthless(c.m); got != (c.growth <= 1) {
			t.Errorf("IsGrowthless(%v) = %v; the growth is %d", c.m, got, c.growth)
		}
	}
}

// The growth of parts that are not connected is the greater one, and neither their order nor arcs in one direction between them matter.
func TestGrowthOfParts(t *testing.T) {
	parts := [][][]int{
		rowsOf("0"), rowsOf("1"), rowsOf("2"), rowsOf("9"), rowsOf("1,1/1,0"), rowsOf("0,2/1,0"), rowsOf("0,1/0,0"), rowsOf("0,1/1,0"), rowsOf("9,9/9,9"), rowsOf("3,1/0,2"), rowsOf("1,0/0,1"), slowest(3), ring(3), filled(3, 3, 9),
	}
	for _, a := range parts {
		for _, b := range parts {
			if len(a)+len(b) > 4 {
				continue
			}
			apart := beside(a, b)
			joined := with(apart, 0, len(a), 9)
			for _, m := range [][][]int{apart, joined, beside(b, a), impl.TurnMatrix(joined)} {
				for _, d := range someDs {
					if got, want := impl.FloorOfGrowth(m, d), max(impl.FloorOfGrowth(a, d), impl.FloorOfGrowth(b, d)); got != want {
						t.Errorf("FloorOfGrowth(%v, %d) = %d; want %d", m, d, got, want)
					}
				}
				if got, want := impl.IsGrowthless(m), impl.IsGrowthless(a) && impl.IsGrowthless(b); got != want {
					t.Errorf("IsGrowthless(%v) = %v", m, got)
				}
			}
		}
	}
}

func TestGrowthInAnyNumbering(t *testing.T) {
	for _, m := range fewSmall() {
		floor, growthless := impl.FloorOfGrowth(m, 100), impl.IsGrowthless(m)
		eachOrder(len(m), func(order []int, _ int64) {
			for _, other := range [][][]int{renumbered(m, order), impl.TurnMatrix(renumbered(m, order))} {
				if got := impl.FloorOfGrowth(other, 100); got != floor || impl.IsGrowthless(other) != growthless || !impl.IsBelow(other, min(floor+1, greatestQ), 99) || impl.IsBelow(other, floor, 100) {
					t.Errorf("FloorOfGrowth(%v, 100) = %d; of %v it is %d", other, got, m, floor)
				}
			}
		})
	}
}

// boundsByHand compares the sums of all rows.
func boundsByHand(m [][]int) (int, int) {
	least, greatest := math.MaxInt, math.MinInt
	for _, row := range m {
		sum := 0
		for _, n := range row {
			sum += n
		}
		least, greatest = min(least, sum), max(greatest, sum)
	}
	return least, greatest
}

func TestRowBounds(t *testing.T) {
	for _, c := range []struct {
		m               string
		least, greatest int
	}{
		{"0", 0, 0}, {"1", 1, 1}, {"10", 10, 10}, {"1000000", 1000000, 1000000}, {"1,1/1,0", 1, 2}, {"1,0/1,1", 1, 2}, {"0,0/0,0", 0, 0}, {"0,0/5,6", 0, 11}, {"5,6/0,0", 0, 11}, {"1,9/0,0", 0, 10},
		{"1,2,3/0,0,0/4,5,6", 0, 15}, {"7,8,9/1,2,3/4,5,6", 6, 24}, {"4,5,6/7,8,9/1,2,3", 6, 24}, {"3,3/3,3", 6, 6}, {"10,20/30,40", 30, 70}, {"1000000,1000000/0,1", 1, 2000000}, {"9,9,9,9/9,9,9,9/9,9,9,9/9,9,9,9", 36, 36},
		{"1,0,0,0,0/0,2,0,0,0/0,0,3,0,0/0,0,0,4,0/0,0,0,0,5", 1, 5}, {"0,0,0,0,0/0,0,0,0,0/0,0,0,0,0/0,0,0,0,0/1,1,1,1,1", 0, 5},
	} {
		if least, greatest := impl.RowBounds(rowsOf(c.m)); least != c.least || greatest != c.greatest {
			t.Errorf("RowBounds(%s) = %d, %d; want %d, %d", c.m, least, greatest, c.least, c.greatest)
		}
	}
	if least, greatest := impl.RowBounds(filled(9, 9, impl.MaxEntry)); least != 9000000 || greatest != 9000000 {
		t.Errorf("RowBounds of 9 rows of MaxEntry = %d, %d", least, greatest)
	}
	if least, greatest := impl.RowBounds(with(filled(9, 9, impl.MaxEntry), 8, 8, 0)); least != 8000000 || greatest != 9000000 {
		t.Errorf("RowBounds of 9 rows, the last one with a 0, = %d, %d", least, greatest)
	}
	check := func(m [][]int) {
		t.Helper()
		least, greatest := impl.RowBounds(m)
		if wantLeast, wantGreatest := boundsByHand(m); least != wantLeast || greatest != wantGreatest {
			t.Errorf("RowBounds(%v) = %d, %d; want %d, %d", m, least, greatest, wantLeast, wantGreatest)
		}
	}
	for _, m := range slices.Concat(someMatrices(), someSmall(), notSmall(), largeMatrices(), someGraphs()) {
		check(m)
	}
	eachMatrix(2, []int{0, 1, 10, impl.MaxEntry}, check)
	for _, m := range noMatrices() {
		if least, greatest := impl.RowBounds(m); least != 0 || greatest != 0 {
			t.Errorf("RowBounds(%v) = %d, %d; want zero values", m, least, greatest)
		}
	}
}

// P8.
func TestGrowthLiesBetweenSumsOfRows(t *testing.T) {
	check := func(m [][]int) {
		t.Helper()
		p := charPolyByHand(m)
		least, greatest := impl.RowBounds(m)
		// The sums of columns are those of the transposed matrix, which has the same growth.
		leastColumn, greatestColumn := impl.RowBounds(impl.TurnMatrix(m))
		least, greatest = max(least, leastColumn), min(greatest, greatestColumn)
		for _, d := range someDs {
			floor := impl.FloorOfGrowth(m, d)
			if floor < least*d || floor > greatest*d {
				t.Errorf("FloorOfGrowth(%v, %d) = %d is not from %d to %d", m, d, floor, least*d, greatest*d)
			}
			if impl.IsBelow(m, least*d, d) || greatest*d < greatestQ && !impl.IsBelow(m, greatest*d+1, d) {
				t.Errorf("the growth of %v is not from %d to %d", m, least, greatest)
			}
		}
		if isBelowByHand(p, least, 1) || !isAtMostByHand(p, greatest, 1) {
			t.Errorf("the greatest zero of %v is not from %d to %d", p, least, greatest)
		}
	}
	eachMatrix(1, []int{0, 1, 5, 9}, check)
	eachMatrix(2, []int{0, 1, 2, 9}, check)
	eachMatrix(3, []int{0, 1}, check)
	for _, m := range someSmall() {
		check(m)
	}
	for _, c := range wholeGrowths() {
		check(c.m)
	}
}

func TestCompareGrowth(t *testing.T) {
	const golden, third, fourth = "1,1/1,0", "0,1,0/0,0,1/1,0,1", "0,1,0/0,0,1/1,1,0"
	for _, c := range []struct {
		a, b    string
		d, want int
	}{
		{"2", golden, 1, 1}, {golden, "2", 1, -1}, {"1", "1", 1, 0}, {"0", "0", 100, 0}, {"0", "0,1/0,0", 3, 0}, {golden, "0,1/1,1", 100, 0}, {"2", "1,1/1,1", 100, 0}, {"2", "1,2/1,0", 100, 0},
		// The floors are 1 and 1 for 1, 1 and 3 for 2 and so on.
		{"1", golden, 1, 0}, {"1", golden, 2, -1}, {golden, "1", 1, 0}, {golden, "1", 2, 1}, {"1", golden, 100, -1},
		// The growths begin with 1.618, 1.465 and 1.324: equal at 1 and 3, but different at 2 and 100.
		{golden, third, 1, 0}, {golden, third, 2, 1}, {golden, third, 3, 0}, {golden, third, 100, 1}, {third, golden, 2, -1}, {third, golden, 3, 0}, {third, golden, 100, -1},
		{third, fourth, 1, 0}, {third, fourth, 2, 0}, {third, fourth, 3, 1}, {third, fourth, 100, 1}, {fourth, third, 100, -1}, {fourth, third, 2, 0},
		{"9,9,9,9/9,9,9,9/9,9,9,9/9,9,9,9", "9,9,9,9/9,9,9,9/9,9,9,9/9,9,9,8", 1, 1}, {"9,9,9,9/9,9,9,9/9,9,9,9/9,9,9,9", "0", 100, 1}, {"0", "9,9,9,9/9,9,9,9/9,9,9,9/9,9,9,9", 100, -1},
		{"1", golden, 0, -2}, {"1", golden, 101, -2}, {"1", golden, -1, -2}, {"10", golden, 1, -2}, {golden, "10", 1, -2}, {"10", "10", 1, -2}, {"10", "11", 0, -2},
	} {
		if got := impl.CompareGrowth(rowsOf(c.a), rowsOf(c.b), c.d); got != c.want {
			t.Errorf("CompareGrowth(%s, %s, %d) = %d; want %d", c.a, c.b, c.d, got, c.want)
		}
	}
	list := fewSmall()
	for _, a := range list {
		for _, b := range list {
			for _, d := range []int{1, 5, 100} {
				if got, want := impl.CompareGrowth(a, b, d), cmp.Compare(impl.FloorOfGrowth(a, d), impl.FloorOfGrowth(b, d)); got != want {
					t.Errorf("CompareGrowth(%v, %v, %d) = %d; want %d", a, b, d, got, want)
				}
			}
		}
	}
}

func TestGrowthText(t *testing.T) {
	for _, c := range []struct {
		m    string
		d    int
		want string
	}{
		{"1,1/1,0", 10, "16/10"}, {"1,1/1,0", 1, "1/1"}, {"1,1/1,0", 100, "161/100"}, {"0", 1, "0/1"}, {"0", 100, "0/100"}, {"2", 50, "100/50"}, {"0,1/0,0", 7, "0/7"}, {"9,9,9,9/9,9,9,9/9,9,9,9/9,9,9,9", 100, "3600/100"},
		{"10", 1, ""}, {"1", 0, ""}, {"1", -1, ""}, {"1", 101, ""}, {"-", 1, ""}, {"1,2", 1, ""}, {"_1", 1, ""}, {"1000001", 1, ""},
	} {
		if got := impl.GrowthText(rowsOf(c.m), c.d); got != c.want {
			t.Errorf("GrowthText(%s, %d) = %q; want %q", c.m, c.d, got, c.want)
		}
	}
}

func TestIsGrowthless(t *testing.T) {
	for _, c := range []struct {
		m    [][]int
		want bool
	}{
		{rowsOf("0"), true}, {rowsOf("1"), true}, {rowsOf("2"), false}, {rowsOf("9"), false}, {rowsOf("10"), false}, {rowsOf("0,1/1,0"), true}, {rowsOf("1,1/1,0"), false}, {rowsOf("1,1/0,1"), true}, {rowsOf("1,9/0,1"), true},
		{rowsOf("1,0/9,1"), true}, {rowsOf("0,2/1,0"), false}, {rowsOf("0,1/2,0"), false}, {rowsOf("0,9/0,0"), true}, {rowsOf("0,0/0,0"), true}, {rowsOf("1,0/0,2"), false}, {rowsOf("2,0/0,1"), false}, {rowsOf("2,9/0,0"), false},
		// The least growths above 1 that matrices of 2, 3 and 4 rows have.
		{slowest(2), false}, {slowest(3), false}, {slowest(4), false}, {with(slowest(4), 3, 0, 0), true}, {with(slowest(4), 3, 1, 0), true},
		{ring(3), true}, {ring(4), true}, {unit(4), true}, {beside(ring(2), ring(2)), true}, {with(beside(ring(2), ring(2)), 0, 3, 9), true}, {with(with(beside(ring(2), ring(2)), 0, 3, 1), 3, 0, 1), false},
		{beside(ring(3), rowsOf("2")), false}, {beside(rowsOf("2"), ring(3)), false}, {beside(rowsOf("0"), slowest(3)), false}, {beside(slowest(3), rowsOf("0")), false}, {beside(chain(9), chain(9)), true}, {chain(9, 9, 9), true},
		{times(ring(4), 2), false}, {with(ring(4), 0, 1, 2), false}, {with(ring(4), 0, 0, 1), false}, {rowsOf("1,9,9,9/0,1,9,9/0,0,1,9/0,0,0,1"), true}, {rowsOf("1,0,0,0/9,1,0,0/9,9,1,0/9,9,9,2"), false}, {filled(4, 4, 9), false},
		{filled(5, 5, 0), false}, {unit(5), false}, {ring(5), false}, {with(filled(4, 4, 0), 0, 1, 10), false}, {chain(10), false}, {rowsOf("0,10/0,0"), false}, {nil, false}, {rowsOf("-"), false}, {rowsOf("_1"), false}, {rowsOf("0,_1/0,0"), false},
	} {
		if got := impl.IsGrowthless(c.m); got != c.want {
			t.Errorf("IsGrowthless(%v) = %v", c.m, got)
		}
	}
}

// countCircles returns the number of closed paths from v without a vertex twice, where those with different arcs are different.
func countCircles(m [][]int, v int) int {
	var further func(at int, passed []int) int
	further = func(at int, passed []int) int {
		count := m[at][v]
		for next := range m {
			if next != v && !slices.Contains(passed, next) {
				count += m[at][next] * further(next, append(slices.Clone(passed), next))
			}
		}
		return count
	}
	return further(v, nil)
}

func TestIsGrowthlessWithoutTwoClosedPathsAtAVertex(t *testing.T) {
	check := func(m [][]int) {
		want := true
		for v := range m {
			want = want && countCircles(m, v) <= 1
		}
		if got := impl.IsGrowthless(m); got != want || got != impl.IsBelow(m, 101, 100) {
			t.Errorf("IsGrowthless(%v) = %v; its growth is %s", m, got, impl.GrowthText(m, 100))
		}
	}
	eachMatrix(1, []int{0, 1, 2, 9}, check)
	eachMatrix(2, []int{0, 1, 2, 9}, check)
	eachMatrix(3, []int{0, 1, 2}, check)
	eachMatrix(4, []int{0, 1}, check)
	random := rand.New(rand.NewSource(10))
	for range 5000 {
		m := filled(4, 4, 0)
		for range 1 + random.Intn(6) {
			m[random.Intn(4)][random.Intn(4)] += 1 + random.Intn(4)/3
		}
		check(m)
	}
}

// checkNoGrowth demands the results for a matrix that is not small, or a d beyond the limits.
func checkNoGrowth(t *testing.T, m [][]int, d int) {
	t.Helper()
	for _, q := range append([]int{0, 1, 2, 36, 100, 1000, 3599, greatestQ}, otherQs...) {
		if impl.IsBelow(m, q, d) {
			t.Errorf("IsBelow(%v, %d, %d) = true", m, q, d)
		}
	}
	if got := impl.FloorOfGrowth(m, d); got != -1 {
		t.Errorf("FloorOfGrowth(%v, %d) = %d; want -1", m, d, got)
	}
	if got := impl.GrowthText(m, d); got != "" {
		t.Errorf("GrowthText(%v, %d) = %q; want nothing", m, d, got)
	}
	for _, other := range [][][]int{m, rowsOf("0"), rowsOf("1,1/1,0"), filled(4, 4, 9), rowsOf("10"), nil} {
		if got, turned := impl.CompareGrowth(m, other, d), impl.CompareGrowth(other, m, d); got != -2 || turned != -2 {
			t.Errorf("CompareGrowth(%v, %v, %d) = %d and %d; want -2", m, other, d, got, turned)
		}
	}
}

func TestGrowthOfNoSmallMatrix(t *testing.T) {
	for _, m := range slices.Concat(notSmall(), noMatrices()) {
		for _, d := range []int{1, 50, 100, 0, -1, 101} {
			checkNoGrowth(t, m, d)
		}
		if impl.IsGrowthless(m) {
			t.Errorf("IsGrowthless(%v) = true", m)
		}
	}
}

func TestGrowthBeyondTheLimits(t *testing.T) {
	for _, m := range fewSmall() {
		for _, d := range otherDs {
			checkNoGrowth(t, m, d)
		}
		for _, q := range otherQs {
			for _, d := range slices.Concat(someDs, otherDs) {
				if impl.IsBelow(m, q, d) {
					t.Errorf("IsBelow(%v, %d, %d) = true", m, q, d)
				}
			}
		}
		for _, d := range otherDs {
			for _, n := range []int{10, math.MinInt, math.MaxInt} {
				checkNoGrowth(t, with(m, len(m)-1, 0, n), d)
			}
		}
	}
}

func TestGrowthFunctionsKeepTheirArguments(t *testing.T) {
	for _, given := range slices.Concat(fewSmall(), notSmall(), someMatrices(), someOtherTables()) {
		checkKeptRows(t, given, nil, func(m [][]int) {
			for _, d := range []int{-1, 0, 1, 7, 100, 101} {
				for _, q := range []int{-1, 0, 3, 200, greatestQ, greatestQ + 1} {
					impl.IsBelow(m, q, d)
				}
				impl.FloorOfGrowth(m, d)
				impl.GrowthText(m, d)
				for _, other := range [][][]int{m, rowsOf("1,1/1,0"), rowsOf("10"), nil} {
					impl.CompareGrowth(m, other, d)
					impl.CompareGrowth(other, m, d)
				}
			}
			impl.RowBounds(m)
			impl.IsGrowthless(m)
		})
	}
}
