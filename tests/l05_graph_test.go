package tests

import (
	"math"
	"math/rand"
	"slices"
	"strconv"
	"testing"

	"loop.example/g03103/impl"
)

func sumOfRows(m [][]int) int {
	sum := 0
	for _, row := range m {
		for _, n := range row {
			sum += n
		}
	}
	return sum
}

// chain returns the matrix with these numbers of arcs from each vertex to the next one.
func chain(numbers ...int) [][]int {
	m := filled(len(numbers)+1, len(numbers)+1, 0)
	for i, n := range numbers {
		m[i][i+1] = n
	}
	return m
}

// beside returns the matrix of the vertices of a, followed by those of b.
func beside(a, b [][]int) [][]int {
	m := filled(len(a)+len(b), len(a)+len(b), 0)
	for i, row := range a {
		copy(m[i], row)
	}
	for i, row := range b {
		copy(m[len(a)+i][len(a):], row)
	}
	return m
}

// someGraphs are of every size, without arcs, with 60 arcs and with numbers of arcs in between.
func someGraphs() [][][]int {
	list := [][][]int{
		rowsOf("0"), rowsOf("1"), rowsOf("2"), rowsOf("7"), rowsOf("8"), rowsOf("59"), rowsOf("60"), rowsOf("1,1/1,0"), rowsOf("0,1/0,0"),
		rowsOf("0,0/1,0"), rowsOf("1,1/0,0"), rowsOf("0,1/0,1"), rowsOf("1,1/0,1"), rowsOf("0,1/1,0"), rowsOf("0,60/0,0"), rowsOf("0,0/60,0"),
		rowsOf("0,30/30,0"), rowsOf("15,15/15,15"), rowsOf("1,1,0/0,0,1/0,0,1"), rowsOf("1,2,3/4,5,6/7,8,9"), chain(12, 12, 12, 12, 12),
		chain(10, 10, 10, 10, 10, 10), chain(1, 1, 1, 1, 1, 1), chain(1, 1, 1, 1, 1, 1, 1, 1), chain(7, 7, 7, 7, 7, 7, 7, 7),
		beside(chain(10, 10, 10, 10, 10), rowsOf("1")), beside(rowsOf("1"), chain(10, 10, 10, 10, 10)),
	}
	random := rand.New(rand.NewSource(5))
	for size := 1; size <= impl.MaxSize; size++ {
		list = append(list, filled(size, size, 0), unit(size), with(filled(size, size, 0), size-1, 0, 60))
		for _, count := range []int{1, 2, size, 2 * size, 59, 60} {
			m := filled(size, size, 0)
			for range count {
				m[random.Intn(size)][random.Intn(size)]++
			}
			list = append(list, m)
		}
	}
	return list
}

// largeMatrices have more than 60 arcs.
func largeMatrices() [][][]int {
	list := [][][]int{
		rowsOf("61"), rowsOf("62"), rowsOf("1000"), rowsOf("1000000"), rowsOf("60,1/0,0"), rowsOf("0,1/0,60"), rowsOf("0,61/0,0"), rowsOf("0,0/61,0"),
		rowsOf("15,15/15,16"), rowsOf("30,1/0,30"), rowsOf("0,1000000/0,0"), filled(8, 8, 1), filled(9, 9, 1), filled(9, 9, impl.MaxEntry),
	}
	for size := 1; size <= impl.MaxSize; size++ {
		list = append(list, with(filled(size, size, 0), 0, size-1, 61), with(filled(size, size, 0), size-1, size-1, impl.MaxEntry))
	}
	return list
}

func noGraphs() [][][]int { return append(largeMatrices(), noMatrices()...) }

// numbersBeyond are far from all limits on numbers of arcs.
var numbersBeyond = []int{-2, -3, -6, -30, 8, 32, 100, 1 << 32, -1 << 32, 1<<32 + 1, math.MaxInt, math.MinInt}

func TestIsGraph(t *testing.T) {
	for _, m := range someGraphs() {
		if !impl.IsGraph(m) {
			t.Errorf("IsGraph(%v) = false", m)
		}
	}
	for _, m := range noGraphs() {
		if impl.IsGraph(m) {
			t.Errorf("IsGraph(%v) = true", m)
		}
	}
	for _, m := range someMatrices() {
		if got := impl.IsGraph(m); got != (sumOfRows(m) <= 60) {
			t.Errorf("IsGraph(%v) = %v", m, got)
		}
	}
	// Each number counts.
	for size := 1; size <= impl.MaxSize; size++ {
		for i := range size {
			for j := range size {
				m := with(filled(size, size, 0), size-1, 0, 50)
				m[i][j] += 10
				if !impl.IsGraph(m) || impl.IsGraph(with(m, i, j, m[i][j]+1)) {
					t.Errorf("IsGraph(%v) = %v; one arc more: %v", m, impl.IsGraph(m), !impl.IsGraph(m))
				}
			}
		}
	}
}

// arcsByHand lists the arcs as the document orders them.
func arcsByHand(m [][]int) [][]int {
	var arcs [][]int
	for i := range m {
		for j := range m {
			for k := 0; k < m[i][j]; k++ {
				arcs = append(arcs, []int{i, j})
			}
		}
	}
	return arcs
}

func TestArcsOf(t *testing.T) {
	for _, c := range []struct{ m, want string }{
		{"1", "0,0"}, {"2", "0,0/0,0"}, {"1,1/1,0", "0,0/0,1/1,0"}, {"0,2/1,0", "0,1/0,1/1,0"}, {"0,0/0,3", "1,1/1,1/1,1"},
		{"0,1,0/0,0,2/1,0,1", "0,1/1,2/1,2/2,0/2,2"}, {"0,0,1/0,1,0/1,0,0", "0,2/1,1/2,0"},
	} {
		if got := impl.ArcsOf(rowsOf(c.m)); !equalRows(got, rowsOf(c.want)) {
			t.Errorf("ArcsOf(%q) = %v; want %q", c.m, got, c.want)
		}
	}
	check := func(m [][]int) {
		got := impl.ArcsOf(m)
		if !equalRows(got, arcsByHand(m)) || len(got) != sumOfRows(m) {
			t.Errorf("ArcsOf(%v) = %v", m, got)
		}
	}
	eachMatrix(2, []int{0, 1, 2, 7}, check)
	eachMatrix(3, []int{0, 1}, check)
	for _, m := range someGraphs() {
		check(m)
	}
	for _, m := range noGraphs() {
		if got := impl.ArcsOf(m); len(got) != 0 {
			t.Errorf("ArcsOf(%v) = %v; want nil", m, got)
		}
	}
}

// isPathByHand judges numbers that may be no arcs.
func isPathByHand(arcs [][]int, path []int) bool {
	for i, n := range path {
		if n < 0 || n >= len(arcs) || i > 0 && arcs[path[i-1]][1] != arcs[n][0] {
			return false
		}
	}
	return true
}

func TestIsPath(t *testing.T) {
	for _, c := range []struct {
		m    string
		path []int
		want bool
	}{
		{"1,1/1,0", nil, true}, {"1,1/1,0", []int{}, true}, {"1,1/1,0", []int{0}, true}, {"1,1/1,0", []int{1}, true}, {"1,1/1,0", []int{2}, true},
		{"1,1/1,0", []int{3}, false}, {"1,1/1,0", []int{-1}, false}, {"1,1/1,0", []int{1, 2, 0}, true}, {"1,1/1,0", []int{0, 2}, false},
		{"1,1/1,0", []int{1, 1}, false}, {"1,1/1,0", []int{1, 0}, false}, {"1,1/1,0", []int{2, 2}, false}, {"1,1/1,0", []int{2, 1, 2, 0, 0, 1}, true},
		{"1,1/1,0", []int{2, 1, 2, 0, 2, 1}, false}, {"1,1/1,0", []int{2, 1, 2, 0, 0, 3}, false}, {"1,1/1,0", []int{0, 0, 0, 0, -1}, false},
		{"1,1/1,0", []int{-1, 0}, false}, {"1,1/1,0", []int{3, 0}, false}, {"1,1/1,0", []int{0, 3, 0}, false}, {"1,1/1,0", []int{0, -1, 0}, false},
		{"1,1/1,0", []int{math.MaxInt}, false}, {"1,1/1,0", []int{math.MinInt}, false}, {"1,1/1,0", []int{0, 1 << 32}, false},
		{"1,1/1,0", slices.Repeat([]int{0}, 1000), true}, {"1,1/1,0", slices.Repeat([]int{1, 2}, 1000), true},
		{"1,1/1,0", append(slices.Repeat([]int{1, 2}, 1000), 2), false}, {"1,1/1,0", append(slices.Repeat([]int{0}, 1000), 3), false},
		{"0", nil, true}, {"0", []int{0}, false}, {"0", []int{-1}, false}, {"0,0/0,0", []int{}, true}, {"0,0/0,0", []int{0}, false},
		{"0,1/0,0", []int{0}, true}, {"0,1/0,0", []int{0, 0}, false}, {"0,1/0,0", []int{1}, false}, {"2", []int{0, 1, 1, 0}, true}, {"2", []int{2}, false},
		{"60", []int{59, 0, 59}, true}, {"60", []int{60}, false}, {"60", []int{59, 60}, false}, {"0,60/0,0", []int{59}, true}, {"0,60/0,0", []int{59, 59}, false},
		// The vertex is what meets, not the number of the arc.
		{"0,2/2,0", []int{0, 2}, true}, {"0,2/2,0", []int{1, 3, 0, 2}, true}, {"0,2/2,0", []int{0, 1}, false}, {"0,2/2,0", []int{2, 3}, false},
	} {
		if got := impl.IsPath(rowsOf(c.m), c.path); got != c.want {
			t.Errorf("IsPath(%q, %v) = %v", c.m, c.path, got)
		}
	}
}

func TestIsPathOnAllShortLists(t *testing.T) {
	check := func(m [][]int) {
		arcs := arcsByHand(m)
		var extend func(path []int)
		extend = func(path []int) {
			if got := impl.IsPath(m, path); got != isPathByHand(arcs, path) {
				t.Errorf("IsPath(%v, %v) = %v", m, path, got)
			}
			if len(path) == 3 {
				return
			}
			for n := -1; n <= len(arcs); n++ {
				extend(append(slices.Clone(path), n))
			}
		}
		extend(nil)
	}
	eachMatrix(1, []int{0, 1, 2, 3}, check)
	eachMatrix(2, []int{0, 1, 2}, check)
	for _, m := range [][][]int{chain(1, 1), chain(2, 1, 2), rowsOf("1,1,0/0,0,1/1,0,1"), rowsOf("0,1,0/0,0,1/1,0,0")} {
		check(m)
	}
}

func TestIsPathOfNoGraph(t *testing.T) {
	for _, m := range noGraphs() {
		for _, path := range [][]int{nil, {}, {0}, {0, 0}, {1}, {-1}, {60}, {1 << 32}} {
			if impl.IsPath(m, path) {
				t.Errorf("IsPath(%v, %v) = true", m, path)
			}
		}
	}
}

// pathsByTrial tries all lists of n arcs, in ascending order.
func pathsByTrial(m [][]int, n int) [][]int {
	arcs := arcsByHand(m)
	if len(arcs) == 0 {
		return nil
	}
	var paths [][]int
	path := make([]int, n)
	for {
		if isPathByHand(arcs, path) {
			paths = append(paths, slices.Clone(path))
		}
		at := n - 1
		for at >= 0 && path[at] == len(arcs)-1 {
			path[at] = 0
			at--
		}
		if at < 0 {
			return paths
		}
		path[at]++
	}
}

// countByVertices adds up the paths of n arcs that end at each vertex, without a limit.
func countByVertices(m [][]int, n int) int {
	ends := slices.Repeat([]int{1}, len(m))
	for range n {
		next := make([]int, len(m))
		for i := range m {
			for j := range m {
				next[j] += ends[i] * m[i][j]
			}
		}
		ends = next
	}
	sum := 0
	for _, count := range ends {
		sum += count
	}
	return sum
}

func TestPathsOf(t *testing.T) {
	for _, c := range []struct {
		m    string
		n    int
		want string
	}{
		{"1,1/1,0", 1, "0/1/2"}, {"1,1/1,0", 2, "0,0/0,1/1,2/2,0/2,1"}, {"1,1/1,0", 3, "0,0,0/0,0,1/0,1,2/1,2,0/1,2,1/2,0,0/2,0,1/2,1,2"},
		{"1", 1, "0"}, {"1", 6, "0,0,0,0,0,0"}, {"2", 1, "0/1"}, {"2", 2, "0,0/0,1/1,0/1,1"}, {"0,1/0,0", 1, "0"}, {"0,1/1,0", 6, "0,1,0,1,0,1/1,0,1,0,1,0"},
		{"0,2/1,0", 2, "0,2/1,2/2,0/2,1"}, {"0,0,1/1,0,0/0,1,0", 4, "0,2,1,0/1,0,2,1/2,1,0,2"}, {"0,0,1/2,0,0/0,0,0", 2, "1,0/2,0"},
		{"0,1,0,0,0,0,0/0,0,1,0,0,0,0/0,0,0,1,0,0,0/0,0,0,0,1,0,0/0,0,0,0,0,1,0/0,0,0,0,0,0,1/0,0,0,0,0,0,0", 6, "0,1,2,3,4,5"},
		{"0,1,0,0,0,0,0/0,0,1,0,0,0,0/0,0,0,1,0,0,0/0,0,0,0,1,0,0/0,0,0,0,0,1,0/0,0,0,0,0,0,1/0,0,0,0,0,0,0", 5, "0,1,2,3,4/1,2,3,4,5"},
	} {
		if got := impl.PathsOf(rowsOf(c.m), c.n); !equalRows(got, rowsOf(c.want)) {
			t.Errorf("PathsOf(%q, %d) = %v; want %q", c.m, c.n, got, c.want)
		}
	}
}

func TestPathsOfOnSmallGraphs(t *testing.T) {
	check := func(m [][]int) {
		trials := 1
		for n := 1; n <= 6; n++ {
			trials *= max(1, sumOfRows(m))
			if trials > 5000 {
				return
			}
			want := pathsByTrial(m, n)
			if len(want) > 500 {
				want = nil
			}
			if got := impl.PathsOf(m, n); !equalRows(got, want) {
				t.Errorf("PathsOf(%v, %d) = %v; want %v", m, n, got, want)
			}
		}
	}
	eachMatrix(1, []int{0, 1, 2, 3, 4, 7, 8, 22, 23, 60}, check)
	eachMatrix(2, []int{0, 1, 2, 3}, check)
	eachMatrix(3, []int{0, 1}, check)
	for _, m := range someGraphs() {
		check(m)
	}
}

// Graphs without paths of n arcs, though some of them have many of fewer arcs.
func TestPathsOfWithoutAny(t *testing.T) {
	for size := 1; size <= impl.MaxSize; size++ {
		for n := 1; n <= 6; n++ {
			if got := impl.PathsOf(filled(size, size, 0), n); len(got) != 0 {
				t.Errorf("PathsOf of %d vertices without arcs and %d = %v", size, n, got)
			}
		}
	}
	for length := 1; length <= 5; length++ {
		for _, times := range []int{1, 2, 60 / length} {
			m := chain(slices.Repeat([]int{times}, length)...)
			for n := length + 1; n <= 6; n++ {
				if got := impl.PathsOf(m, n); len(got) != 0 {
					t.Errorf("PathsOf(%v, %d) = %v", m, n, got)
				}
			}
			if times == 1 && len(impl.PathsOf(m, length)) != 1 {
				t.Errorf("PathsOf(%v, %d) = %v", m, length, impl.PathsOf(m, length))
			}
		}
	}
}

func TestPathsOfAtMost500(t *testing.T) {
	for _, c := range []struct {
		m    [][]int
		n    int
		want int
	}{
		{chain(20, 25), 2, 500}, {chain(5, 10, 10), 3, 500}, {chain(5, 5, 4, 5), 4, 500}, {chain(5, 5, 2, 2, 5), 5, 500}, {chain(1, 2, 2, 5, 5, 5), 6, 500},
		{beside(chain(20, 25), rowsOf("1")), 2, 0}, {beside(rowsOf("1"), chain(20, 25)), 2, 0}, {beside(chain(5, 10, 10), rowsOf("1")), 3, 0},
		{beside(rowsOf("1"), chain(5, 5, 4, 5)), 4, 0}, {beside(chain(5, 5, 2, 2, 5), rowsOf("1")), 5, 0}, {beside(chain(1, 2, 2, 5, 5, 5), rowsOf("1")), 6, 0},
		{beside(rowsOf("1"), chain(1, 2, 2, 5, 5, 5)), 6, 0}, {beside(chain(1, 1, 1), chain(5, 10, 10)), 3, 0}, {beside(chain(1, 1), chain(5, 10, 10)), 3, 500},
		{chain(3, 167), 2, 0}, {rowsOf("22"), 2, 484}, {rowsOf("23"), 2, 0}, {rowsOf("7"), 3, 343}, {rowsOf("8"), 3, 0}, {rowsOf("4"), 4, 256}, {rowsOf("5"), 4, 0},
		{rowsOf("3"), 5, 243}, {rowsOf("4"), 5, 0}, {rowsOf("2"), 6, 64}, {rowsOf("3"), 6, 0}, {rowsOf("60"), 1, 60}, {rowsOf("60"), 2, 0}, {rowsOf("60"), 6, 0},
		{rowsOf("15,15/15,15"), 6, 0}, {chain(10, 10, 10, 10, 10, 10), 6, 0}, {chain(30, 17), 2, 0}, {chain(31, 16), 2, 496}, {chain(29, 17), 2, 493},
	} {
		got := impl.PathsOf(c.m, c.n)
		if len(got) != c.want || c.want > 0 && countByVertices(c.m, c.n) != c.want {
			t.Errorf("PathsOf(%v, %d) has %d; want %d of %d", c.m, c.n, len(got), c.want, countByVertices(c.m, c.n))
		}
	}
}

func TestPathsOfLimits(t *testing.T) {
	for _, m := range someGraphs() {
		for _, n := range append([]int{0, -1, 7}, numbersBeyond...) {
			if got := impl.PathsOf(m, n); len(got) != 0 {
				t.Errorf("PathsOf(%v, %d) = %v; want nil", m, n, got)
			}
		}
	}
	for _, m := range noGraphs() {
		for n := -1; n <= 7; n++ {
			if got := impl.PathsOf(m, n); len(got) != 0 {
				t.Errorf("PathsOf(%v, %d) = %v; want nil", m, n, got)
			}
		}
	}
}

// P5.
func TestPathsAreCountedByPowers(t *testing.T) {
	check := func(m [][]int) {
		arcs := arcsByHand(m)
		for n := 1; n <= 6; n++ {
			count, paths := countByVertices(m, n), impl.PathsOf(m, n)
			if counted := impl.CountPaths(m, n); counted != count && (counted != -1 || count <= impl.MaxEntry) {
				t.Errorf("CountPaths(%v, %d) = %d; want %d", m, n, counted, count)
			}
			if count > 500 && len(paths) != 0 || count <= 500 && len(paths) != count {
				t.Errorf("PathsOf(%v, %d) has %d paths of %d", m, n, len(paths), count)
			}
			for i, path := range paths {
				if len(path) != n || !isPathByHand(arcs, path) || !impl.IsPath(m, path) {
					t.Errorf("PathsOf(%v, %d) has %v", m, n, path)
				}
				if i > 0 && slices.Compare(paths[i-1], path) >= 0 {
					t.Errorf("PathsOf(%v, %d) has %v ahead of %v", m, n, paths[i-1], path)
				}
			}
		}
	}
	eachMatrix(1, []int{0, 1, 2, 3, 4, 7, 8, 10, 22, 23, 59, 60}, check)
	eachMatrix(2, []int{0, 1, 2, 5, 9}, check)
	eachMatrix(3, []int{0, 1}, check)
	for _, m := range someGraphs() {
		check(m)
	}
}

func TestCountPaths(t *testing.T) {
	for _, c := range []struct {
		m       [][]int
		n, want int
	}{
		{rowsOf("1,1/1,0"), 0, 2}, {rowsOf("1,1/1,0"), 1, 3}, {rowsOf("1,1/1,0"), 2, 5}, {rowsOf("1,1/1,0"), 5, 21}, {rowsOf("1,1/1,0"), -1, -1},
		{rowsOf("1,1/1,0"), 29, 2178309}, {rowsOf("1,1/1,0"), 30, -1}, {rowsOf("1,1/1,0"), 31, -1}, {rowsOf("0"), 0, 1}, {rowsOf("0"), 1, 0},
		{rowsOf("0"), 30, 0}, {rowsOf("0"), 31, -1}, {rowsOf("0"), -1, -1}, {rowsOf("1"), 30, 1}, {rowsOf("1"), 31, -1}, {filled(9, 9, 0), 0, 9},
		{filled(9, 9, 0), 1, 0}, {unit(9), 30, 9}, {rowsOf("1,1/0,1"), 30, 32}, {rowsOf("0,1/1,0"), 30, 2}, {chain(1, 1, 1), 3, 1}, {chain(1, 1, 1), 4, 0},
		{rowsOf("60"), 3, 216000}, {rowsOf("60"), 4, -1}, {rowsOf("10"), 6, 1000000}, {rowsOf("10"), 7, -1}, {chain(10, 10, 10, 10, 10, 10), 6, 1000000},
		// More than 60 arcs.
		{rowsOf("61"), 0, 1}, {rowsOf("61"), 1, 61}, {rowsOf("61"), 3, 226981}, {rowsOf("1000000"), 1, 1000000}, {rowsOf("1000000"), 2, -1},
		{rowsOf("1000000"), 0, 1}, {filled(9, 9, impl.MaxEntry), 0, 9}, {filled(9, 9, impl.MaxEntry), 1, 81000000}, {filled(9, 9, impl.MaxEntry), 2, -1},
		{filled(9, 9, 333), 2, 80838081}, {filled(9, 9, 334), 2, -1}, {rowsOf("0,1000000/0,0"), 2, 0}, {rowsOf("0,1000000/0,0"), 30, 0},
		// The power would fit, but a product on the way does not.
		{chain(1000, 1000), 2, 1000000}, {chain(1000, 1000), 3, 0}, {chain(1000, 1001), 1, 2001}, {chain(1000, 1001), 2, -1}, {chain(1000, 1001), 3, -1},
		{chain(1000, 1001), 30, -1}, {chain(100, 100, 101), 2, 20100}, {chain(100, 100, 101), 3, -1}, {chain(100, 100, 101), 4, -1},
		{chain(11, 10, 10, 10, 10, 10, 0), 7, -1},
	} {
		if got := impl.CountPaths(c.m, c.n); got != c.want {
			t.Errorf("CountPaths(%v, %d) = %d; want %d", c.m, c.n, got, c.want)
		}
	}
}

func TestCountPathsIsTheSumOfAPower(t *testing.T) {
	for _, m := range slices.Concat(someMatrices(), someGraphs(), largeMatrices()) {
		power, fits := unit(len(m)), true
		for n := range 31 {
			if n > 0 && fits {
				power, fits = product(power, m)
			}
			want := -1
			if fits {
				want = sumOfRows(power)
			}
			if got := impl.CountPaths(m, n); got != want {
				t.Errorf("CountPaths(%v, %d) = %d; want %d", m, n, got, want)
			}
		}
		for _, n := range []int{-1, -2, -30, 31, 32, 1 << 32, math.MaxInt, math.MinInt} {
			if got := impl.CountPaths(m, n); got != -1 {
				t.Errorf("CountPaths(%v, %d) = %d; want -1", m, n, got)
			}
		}
	}
	for _, m := range noMatrices() {
		for _, n := range []int{-1, 0, 1, 2, 30, 31} {
			if got := impl.CountPaths(m, n); got != -1 {
				t.Errorf("CountPaths(%v, %d) = %d; want -1", m, n, got)
			}
		}
	}
}

// livelyByWalks takes the vertices at which a path of len(m) arcs ends and one begins: each of them repeats a vertex.
func livelyByWalks(m [][]int) []int {
	begins, ends := slices.Repeat([]bool{true}, len(m)), slices.Repeat([]bool{true}, len(m))
	for range m {
		nextBegins, nextEnds := make([]bool, len(m)), make([]bool, len(m))
		for i := range m {
			for j := range m {
				if m[i][j] > 0 {
					nextBegins[i] = nextBegins[i] || begins[j]
					nextEnds[j] = nextEnds[j] || ends[i]
				}
			}
		}
		begins, ends = nextBegins, nextEnds
	}
	var lively []int
	for v := range m {
		if begins[v] && ends[v] {
			lively = append(lively, v)
		}
	}
	return lively
}

// checkLively demands these lively vertices, and what follows from them.
func checkLively(t *testing.T, m [][]int, want []int) {
	t.Helper()
	if got := impl.LivelyOf(m); !slices.Equal(got, want) {
		t.Errorf("LivelyOf(%v) = %v; want %v", m, got, want)
	}
	if got := impl.IsLively(m); got != (len(want) == len(m)) {
		t.Errorf("IsLively(%v) = %v", m, got)
	}
	trimmed := filled(len(want), len(want), 0)
	for i, v := range want {
		for j, u := range want {
			trimmed[i][j] = m[v][u]
		}
	}
	got, ok := impl.TrimGraph(m)
	checkResult(t, got, ok, trimmed, len(want) > 0, "TrimGraph", m)
}

func TestLivelyOf(t *testing.T) {
	for _, c := range []struct {
		m    [][]int
		want []int
	}{
		{rowsOf("0"), nil}, {rowsOf("1"), []int{0}}, {rowsOf("60"), []int{0}}, {rowsOf("1000000"), []int{0}}, {rowsOf("0,1/1,0"), []int{0, 1}},
		{rowsOf("1,1/1,0"), []int{0, 1}}, {rowsOf("0,0/0,1"), []int{1}}, {filled(9, 9, 0), nil}, {filled(9, 9, impl.MaxEntry), []int{0, 1, 2, 3, 4, 5, 6, 7, 8}},
		// A path leads to a vertex but none leads away from it, and the other way round.
		{rowsOf("1,1/0,0"), []int{0}}, {rowsOf("0,0/1,1"), []int{1}}, {rowsOf("0,1/0,1"), []int{1}}, {rowsOf("1,0/1,0"), []int{0}}, {rowsOf("0,1/0,0"), nil},
		{rowsOf("1,1,0/0,0,1/0,0,0"), []int{0}}, {rowsOf("0,1,0/0,0,1/0,0,1"), []int{2}}, {rowsOf("0,1,0/0,1,1/0,0,0"), []int{1}},
		{rowsOf("0,0,0/1,0,0/0,1,1"), []int{2}}, {rowsOf("1,1,1/0,0,0/0,0,0"), []int{0}}, {rowsOf("1,0,0/1,0,0/1,0,0"), []int{0}}, {chain(1, 1, 1, 1, 1, 1, 1, 1), nil},
		// Vertices between two loops.
		{rowsOf("1,1/0,1"), []int{0, 1}}, {rowsOf("1,1,0/0,0,1/0,0,1"), []int{0, 1, 2}}, {rowsOf("1,0,0/1,0,0/0,1,1"), []int{0, 1, 2}},
		{rowsOf("1,1,0,0/0,0,1,0/0,0,0,1/0,0,0,1"), []int{0, 1, 2, 3}}, {rowsOf("1,1,0,1/0,0,1,0/0,0,1,0/0,0,0,0"), []int{0, 1, 2}},
		{rowsOf("0,1,0,0,1/1,0,0,0,0/0,0,0,1,0/0,0,1,0,0/0,0,1,0,0"), []int{0, 1, 2, 3, 4}},
		// More than 60 arcs.
		{rowsOf("60,1000/0,0"), []int{0}}, {rowsOf("0,1000000/0,0"), nil}, {rowsOf("0,1000000/1000000,0"), []int{0, 1}}, {rowsOf("0,61/0,61"), []int{1}},
		{rowsOf("0,70,0/0,80,90/0,0,0"), []int{1}}, {rowsOf("61,62,0/0,0,63/0,0,64"), []int{0, 1, 2}},
	} {
		checkLively(t, c.m, c.want)
	}
}

func TestLivelyOfOnManyMatrices(t *testing.T) {
	check := func(m [][]int) { checkLively(t, m, livelyByWalks(m)) }
	eachMatrix(1, []int{0, 1, 2, 60, 61, impl.MaxEntry}, check)
	eachMatrix(2, []int{0, 1, 2, 61}, check)
	eachMatrix(3, []int{0, 1}, check)
	eachMatrix(4, []int{0, 1}, check)
	random := rand.New(rand.NewSource(55))
	for range 3000 {
		size := 5 + random.Intn(impl.MaxSize-4)
		m := filled(size, size, 0)
		for range 1 + random.Intn(2*size) {
			m[random.Intn(size)][random.Intn(size)] += 1 + random.Intn(20)
		}
		check(m)
	}
	for _, m := range slices.Concat(someMatrices(), someGraphs(), largeMatrices()) {
		check(m)
	}
}

func TestTrimGraph(t *testing.T) {
	for _, c := range []struct {
		m, want string
		ok      bool
	}{
		{"1,1/0,0", "1", true}, {"0,1/0,0", "", false}, {"0", "", false}, {"7", "7", true}, {"1,1/1,0", "1,1/1,0", true}, {"0,5/0,7", "7", true},
		{"0,1,2/0,3,4/0,5,6", "3,4/5,6", true}, {"1,2,3/0,0,0/4,5,6", "1,3/4,6", true}, {"1000000,9/0,0", "1000000", true}, {"0,61/0,0", "", false},
	} {
		got, ok := impl.TrimGraph(rowsOf(c.m))
		checkResult(t, got, ok, rowsOf(c.want), c.ok, "TrimGraph", c.m)
	}
}

func TestLivelyOfNoMatrix(t *testing.T) {
	for _, m := range noMatrices() {
		if got := impl.LivelyOf(m); len(got) != 0 {
			t.Errorf("LivelyOf(%v) = %v; want nil", m, got)
		}
		if impl.IsLively(m) {
			t.Errorf("IsLively(%v) = true", m)
		}
		got, ok := impl.TrimGraph(m)
		checkResult(t, got, ok, nil, false, "TrimGraph", m)
	}
}

// namedTable is a function that makes a table of a matrix.
type namedTable struct {
	name string
	make func(m [][]int) [][]int
}

func tableMakers() []namedTable {
	list := []namedTable{
		{"ArcsOf", impl.ArcsOf},
		{"LivelyOf", func(m [][]int) [][]int { return [][]int{impl.LivelyOf(m)} }},
		{"TrimGraph", func(m [][]int) [][]int {
			trimmed, _ := impl.TrimGraph(m)
			return trimmed
		}},
	}
	for n := range 8 {
		list = append(list, namedTable{"PathsOf " + strconv.Itoa(n), func(m [][]int) [][]int { return impl.PathsOf(m, n) }})
	}
	return list
}

func TestGraphFunctionsKeepTheirArguments(t *testing.T) {
	for _, given := range slices.Concat(someGraphs(), someMatrices(), noGraphs()) {
		checkKeptRows(t, given, tableMakers(), func(m [][]int) {
			for _, path := range [][]int{nil, {}, {0}, {0, 0}, {0, 1, 2, 0}, {-1, 0}, {60, 60}} {
				list := spareRows([][]int{path})
				wantList := wholeRows(list)
				impl.IsPath(m, list[0])
				if !equalRows(wholeRows(list), wantList) {
					t.Fatalf("IsPath of %v and %v changed the list to %v", given, path, wholeRows(list))
				}
			}
			impl.IsGraph(m)
			impl.IsLively(m)
			for _, n := range []int{-1, 0, 1, 5, 30, 31} {
				impl.CountPaths(m, n)
			}
		})
	}
}

// checkKeptRows demands that a copy of the matrix, with unused capacity, stays as it is: whatever is made of it, when that is changed, and when others
// are called.
func checkKeptRows(t *testing.T, given [][]int, makers []namedTable, callOthers func(m [][]int)) {
	t.Helper()
	m := spareRows(given)
	want := wholeRows(m)
	check := func(name string) {
		t.Helper()
		if !equalRows(wholeRows(m), want) {
			t.Fatalf("%s of %v changed it to %v", name, given, wholeRows(m))
		}
	}
	for _, f := range makers {
		made := f.make(m)
		check(f.name)
		// A change of the result shows whether it shares memory with the argument.
		overwriteRows(made)
		check("A change of the result of " + f.name)
	}
	callOthers(m)
	check("A function that returns no table")
}

func TestListsOfGraphsAreNewMemory(t *testing.T) {
	for _, m := range slices.Concat(someGraphs(), someMatrices()) {
		for _, f := range tableMakers() {
			checkNewMemory(t, f.name, m, func() [][]int { return f.make(m) })
		}
	}
}
