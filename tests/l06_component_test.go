package tests

import (
	"math/rand"
	"slices"
	"testing"

	"loop.example/g03103/impl"
)

// ring returns the matrix of one closed path through all vertices, in order.
func ring(size int) [][]int {
	m := filled(size, size, 0)
	for v := range m {
		m[v][(v+1)%size] = 1
	}
	return m
}

// slowest returns the ring with a further arc that makes it primitive as late as can be.
func slowest(size int) [][]int { return with(ring(size), size-1, 1%size, 1) }

// onlyPaths returns the matrix of this size with one arc between each two vertices that follow each other in a list.
func onlyPaths(size int, lists string) [][]int {
	m := filled(size, size, 0)
	for _, list := range rowsOf(lists) {
		for i := 1; i < len(list); i++ {
			m[list[i-1]][list[i]] = 1
		}
	}
	return m
}

// listsOf is rowsOf, with no list for an empty text.
func listsOf(text string) [][]int {
	if text == "" {
		return nil
	}
	return rowsOf(text)
}

// times returns m with each of its numbers multiplied by n.
func times(m [][]int, n int) [][]int {
	multiplied := copyRows(m)
	for _, row := range multiplied {
		for j := range row {
			row[j] *= n
		}
	}
	return multiplied
}

// pathLengths tells, for each n up to most, from where to where a path of just n arcs leads.
func pathLengths(m [][]int, most int) [][][]bool {
	lengths := make([][][]bool, most+1)
	for n := range lengths {
		lengths[n] = make([][]bool, len(m))
		for i := range m {
			lengths[n][i] = make([]bool, len(m))
			for j := range m {
				if n == 0 {
					lengths[n][i][j] = i == j
					continue
				}
				for k := range m {
					lengths[n][i][j] = lengths[n][i][j] || lengths[n-1][i][k] && m[k][j] > 0
				}
			}
		}
	}
	return lengths
}

// slowestStep is the number that the document gives as the greatest PrimitiveStep.
func slowestStep(size int) int { return size*size - 2*size + 2 }

// expected has what the functions of the chapter should return for a matrix.
type expected struct {
	reach, components           [][]int
	irreducible, primitive      bool
	period, primitiveStep, size int
	turns                       []int
}

// expectedOf reads all of it from the lengths of paths.
func expectedOf(m [][]int) expected {
	size := len(m)
	lengths := pathLengths(m, max(4*size, slowestStep(size)+2))
	want := expected{reach: filled(size, size, 0), irreducible: true, size: size}
	for i := range m {
		for j := range m {
			for n := 1; n <= size; n++ {
				if lengths[n][i][j] {
					want.reach[i][j] = 1
				}
			}
			want.irreducible = want.irreducible && want.reach[i][j] == 1
		}
	}
	want.components = componentsByHand(want.reach)
	want.period = periodByTrial(lengths)
	for n := len(lengths) - 1; n >= 1; n-- {
		if !slices.ContainsFunc(lengths[n], func(row []bool) bool { return slices.Contains(row, false) }) {
			want.primitive, want.primitiveStep = true, n
		}
	}
	if want.irreducible {
		want.turns = turnsByHand(lengths, want.period)
	}
	return want
}

// periodByTrial tries all divisors of the lengths of closed paths.
func periodByTrial(lengths [][][]bool) int {
	var closed []int
	for n := 1; n < len(lengths); n++ {
		for v := range lengths[n] {
			if lengths[n][v][v] {
				closed = append(closed, n)
			}
		}
	}
	if closed == nil {
		return 0
	}
	for p := slices.Min(closed); ; p-- {
		if !slices.ContainsFunc(closed, func(n int) bool { return n%p != 0 }) {
			return p
		}
	}
}

// componentsByHand puts each vertex into the list of the first vertex with which it is reached in both directions.
func componentsByHand(reach [][]int) [][]int {
	var lists [][]int
	placed := make([]bool, len(reach))
	for v := range reach {
		if placed[v] || reach[v][v] == 0 {
			continue
		}
		var list []int
		for u := v; u < len(reach); u++ {
			if reach[u][v] == 1 && reach[v][u] == 1 {
				list = append(list, u)
				placed[u] = true
			}
		}
		lists = append(lists, list)
	}
	return lists
}

// turnsByHand demands that all paths from vertex 0 to a vertex agree.
func turnsByHand(lengths [][][]bool, period int) []int {
	turns := slices.Repeat([]int{-1}, len(lengths[0]))
	for n := range lengths {
		for v := range turns {
			if !lengths[n][0][v] {
				continue
			}
			if turns[v] >= 0 && turns[v] != n%period {
				panic("paths to a vertex that differ modulo the period")
			}
			turns[v] = n % period
		}
	}
	return turns
}

// checkComponents compares all functions of the chapter with the lengths of paths.
func checkComponents(t *testing.T, m [][]int) {
	t.Helper()
	want := expectedOf(m)
	if got := impl.ReachOf(m); !equalRows(got, want.reach) {
		t.Errorf("ReachOf(%v) = %v; want %v", m, got, want.reach)
	}
	if got := impl.ComponentsOf(m); !equalRows(got, want.components) {
		t.Errorf("ComponentsOf(%v) = %v; want %v", m, got, want.components)
	}
	if got := impl.IsIrreducible(m); got != want.irreducible {
		t.Errorf("IsIrreducible(%v) = %v", m, got)
	}
	if got := impl.PeriodOf(m); got != want.period {
		t.Errorf("PeriodOf(%v) = %d; want %d", m, got, want.period)
	}
	if got := impl.IsPrimitive(m); got != want.primitive {
		t.Errorf("IsPrimitive(%v) = %v", m, got)
	}
	if got := impl.PrimitiveStep(m); got != want.primitiveStep || got > slowestStep(want.size) {
		t.Errorf("PrimitiveStep(%v) = %d; want %d", m, got, want.primitiveStep)
	}
	if got := impl.TurnsOf(m); !slices.Equal(got, want.turns) {
		t.Errorf("TurnsOf(%v) = %v; want %v", m, got, want.turns)
	}
}

// someComponents have components of several kinds, in every order, and vertices around them.
func someComponents() [][][]int {
	list := [][][]int{
		beside(ring(2), ring(3)), beside(ring(3), ring(2)), beside(ring(2), ring(4)), beside(ring(4), ring(4)), beside(ring(3), ring(6)),
		beside(ring(4), ring(5)), beside(ring(1), ring(8)), beside(ring(8), ring(1)), beside(beside(ring(2), ring(3)), ring(4)),
		beside(slowest(4), ring(5)), beside(slowest(5), slowest(4)), times(ring(9), impl.MaxEntry), times(slowest(9), impl.MaxEntry),
		onlyPaths(8, "0,1,2,3,0/0,4,5,6,7,0"), onlyPaths(9, "0,1,2,3,0/0,4,5,6,7,8,0"), onlyPaths(9, "8,7,6,5,4,3,2,1,0,8"),
		onlyPaths(9, "0,2,4,6,8,0/1,3,5,7,1"), onlyPaths(9, "0,8,0/1,7,1/2,6,2/3,5,3"), onlyPaths(9, "0,3,6,0/1,4,7,1/2,5,8,2/0,1/1,2"),
	}
	for size := 1; size <= impl.MaxSize; size++ {
		list = append(list, ring(size), slowest(size), impl.TurnMatrix(ring(size)), impl.TurnMatrix(slowest(size)), filled(size, size, 1))
	}
	random := rand.New(rand.NewSource(6))
	for range 3000 {
		size := 5 + random.Intn(impl.MaxSize-4)
		m := filled(size, size, 0)
		for range 1 + random.Intn(3*size) {
			m[random.Intn(size)][random.Intn(size)] += 1 + random.Intn(20)
		}
		list = append(list, m, periodic(random, size, 1+random.Intn(5)))
	}
	return list
}

// periodic returns a matrix with arcs only from vertices of one class to those of the next of so many classes.
func periodic(random *rand.Rand, size, classes int) [][]int {
	class := make([]int, size)
	for v := range class {
		class[v] = random.Intn(classes)
	}
	m := filled(size, size, 0)
	for i := range m {
		for j := range m {
			if (class[i]+1)%classes == class[j] && random.Intn(3) > 0 {
				m[i][j] = 1 + random.Intn(impl.MaxEntry)
			}
		}
	}
	return m
}

func TestComponentsAndPeriodsOnManyMatrices(t *testing.T) {
	check := func(m [][]int) { checkComponents(t, m) }
	eachMatrix(1, []int{0, 1, 2, 60, 61, impl.MaxEntry}, check)
	eachMatrix(2, []int{0, 1, 2, 61, impl.MaxEntry}, check)
	eachMatrix(3, []int{0, 1, 3}, check)
	eachMatrix(4, []int{0, 1}, check)
	for _, m := range slices.Concat(someComponents(), someMatrices(), someGraphs(), largeMatrices()) {
		check(m)
	}
}

func TestReachOf(t *testing.T) {
	for _, c := range []struct{ m, want string }{
		{"0", "0"}, {"1", "1"}, {"7", "1"}, {"1000000", "1"}, {"0,0/0,0", "0,0/0,0"}, {"0,1/0,0", "0,1/0,0"}, {"0,0/1,0", "0,0/1,0"},
		{"0,1/1,0", "1,1/1,1"}, {"1,1/1,0", "1,1/1,1"}, {"1,0/0,1", "1,0/0,1"}, {"1,1/0,1", "1,1/0,1"}, {"1,1/0,0", "1,1/0,0"}, {"0,1/0,1", "0,1/0,1"},
		{"0,1000000/0,0", "0,1/0,0"}, {"0,61/61,0", "1,1/1,1"}, {"0,1,0/0,0,1/0,0,0", "0,1,1/0,0,1/0,0,0"}, {"0,0,0/1,0,0/0,1,0", "0,0,0/1,0,0/1,1,0"},
		{"0,1,0/0,0,1/0,1,0", "0,1,1/0,1,1/0,1,1"}, {"0,1,0/1,0,1/0,0,0", "1,1,1/1,1,1/0,0,0"}, {"1,1,0/0,0,1/0,0,1", "1,1,1/0,0,1/0,0,1"},
		{"0,2,0/0,0,2/2,0,0", "1,1,1/1,1,1/1,1,1"}, {"0,0,1,0/0,0,0,1/1,0,0,0/0,1,0,0", "1,0,1,0/0,1,0,1/1,0,1,0/0,1,0,1"},
	} {
		if got := impl.ReachOf(rowsOf(c.m)); !equalRows(got, rowsOf(c.want)) {
			t.Errorf("ReachOf(%q) = %v; want %q", c.m, got, c.want)
		}
	}
	for size := 1; size <= impl.MaxSize; size++ {
		if got := impl.ReachOf(ring(size)); !equalRows(got, filled(size, size, 1)) {
			t.Errorf("ReachOf(%v) = %v", ring(size), got)
		}
		if got := impl.ReachOf(filled(size, size, 0)); !equalRows(got, filled(size, size, 0)) {
			t.Errorf("ReachOf of %d vertices without arcs = %v", size, got)
		}
	}
}

func TestComponentsOf(t *testing.T) {
	for _, c := range []struct {
		m    [][]int
		want string
	}{
		{rowsOf("0"), ""}, {rowsOf("1"), "0"}, {rowsOf("60"), "0"}, {rowsOf("1000000"), "0"}, {rowsOf("0,0/0,0"), ""}, {filled(9, 9, 0), ""},
		{rowsOf("0,1/0,0"), ""}, {rowsOf("0,0/1,0"), ""}, {chain(1, 1, 1, 1, 1, 1, 1, 1), ""}, {rowsOf("0,1/1,0"), "0,1"}, {rowsOf("1,1/1,0"), "0,1"},
		{rowsOf("1,0/0,1"), "0/1"}, {unit(9), "0/1/2/3/4/5/6/7/8"}, {filled(9, 9, impl.MaxEntry), "0,1,2,3,4,5,6,7,8"},
		// A vertex that does not reach itself: before, between, behind and beside components.
		{rowsOf("0,1,0/0,0,1/0,1,0"), "1,2"}, {rowsOf("1,1,0/0,0,1/0,0,1"), "0/2"}, {rowsOf("0,1,0/1,0,1/0,0,0"), "0,1"}, {rowsOf("1,0/0,0"), "0"},
		{rowsOf("0,0/0,1"), "1"}, {rowsOf("0,0,0/0,0,1/0,1,0"), "1,2"}, {rowsOf("0,0,1/0,0,0/1,0,0"), "0,2"}, {rowsOf("0,1,1/1,0,0/0,0,0"), "0,1"},
		{onlyPaths(9, "0,1,2,3,1/3,4,5,6,7,5/7,8"), "1,2,3/5,6,7"}, {onlyPaths(9, "8,7,6,5,7/5,4,3,2,1,3/1,0"), "1,2,3/5,6,7"},
		// Components of which one leads to the other, but not back.
		{rowsOf("1,1/0,1"), "0/1"}, {rowsOf("1,0/1,1"), "0/1"}, {rowsOf("1,1,0/0,0,1/0,1,0"), "0/1,2"}, {rowsOf("0,1,0/1,0,0/0,1,1"), "0,1/2"},
		{onlyPaths(4, "0,1,0/2,3,2/1,2"), "0,1/2,3"}, {onlyPaths(4, "0,1,0/2,3,2/2,1"), "0,1/2,3"}, {onlyPaths(4, "0,1,0/2,3,2/0,2/0,3/1,2/1,3"), "0,1/2,3"},
		// Components whose vertices alternate, or lie within each other.
		{onlyPaths(4, "0,2,0/1,3,1"), "0,2/1,3"}, {onlyPaths(4, "0,2,0/1,3,1/0,1"), "0,2/1,3"}, {onlyPaths(4, "0,2,0/1,3,1/3,2"), "0,2/1,3"},
		{onlyPaths(4, "0,3,0/1,2,1"), "0,3/1,2"}, {onlyPaths(3, "0,2,0/1,1"), "0,2/1"}, {onlyPaths(9, "0,2,4,6,8,0/1,3,5,7,1/4,5"), "0,2,4,6,8/1,3,5,7"},
		{onlyPaths(9, "8,0,8/7,1,7/6,2,6/5,3,5/4,4"), "0,8/1,7/2,6/3,5/4"}, {onlyPaths(9, "6,3,0,6/7,4,1,7/8,5,2,8/8,7/7,6"), "0,3,6/1,4,7/2,5,8"},
		// More than 60 arcs.
		{rowsOf("61,62/0,63"), "0/1"}, {rowsOf("0,1000000/1000000,0"), "0,1"}, {rowsOf("0,1000000/0,0"), ""}, {rowsOf("1000000,1000000/0,0"), "0"},
	} {
		if got := impl.ComponentsOf(c.m); !equalRows(got, listsOf(c.want)) {
			t.Errorf("ComponentsOf(%v) = %v; want %q", c.m, got, c.want)
		}
	}
}

func TestIsIrreducible(t *testing.T) {
	for _, c := range []struct {
		m    [][]int
		want bool
	}{
		{rowsOf("0"), false}, {rowsOf("1"), true}, {rowsOf("1000000"), true}, {rowsOf("0,0/0,0"), false}, {rowsOf("0,1/0,0"), false}, {rowsOf("0,1/1,0"), true},
		{rowsOf("1,1/1,0"), true}, {rowsOf("1,1/0,1"), false}, {rowsOf("1,0/0,1"), false}, {rowsOf("1,0/1,1"), false}, {filled(9, 9, impl.MaxEntry), true},
		{rowsOf("0,1,0/0,0,1/1,0,0"), true}, {rowsOf("0,1,0/0,0,1/0,1,0"), false}, {beside(ring(4), ring(5)), false}, {rowsOf("0,61/61,0"), true},
	} {
		if got := impl.IsIrreducible(c.m); got != c.want {
			t.Errorf("IsIrreducible(%v) = %v", c.m, got)
		}
	}
	for size := 2; size <= impl.MaxSize; size++ {
		for v := range size {
			// Without any one of its arcs, a ring is a path.
			if m := with(ring(size), v, (v+1)%size, 0); !impl.IsIrreducible(ring(size)) || impl.IsIrreducible(m) {
				t.Errorf("IsIrreducible(%v) = %v, of the whole ring %v", m, impl.IsIrreducible(m), impl.IsIrreducible(ring(size)))
			}
		}
	}
}

func TestPeriodOf(t *testing.T) {
	for _, c := range []struct {
		m    [][]int
		want int
	}{
		{rowsOf("0"), 0}, {rowsOf("1"), 1}, {rowsOf("1000000"), 1}, {rowsOf("0,0/0,0"), 0}, {rowsOf("0,1/0,0"), 0}, {filled(9, 9, 0), 0},
		{chain(1, 1, 1, 1, 1, 1, 1, 1), 0}, {rowsOf("0,1000000/0,0"), 0}, {rowsOf("0,1/1,0"), 2}, {rowsOf("0,1000000/1000000,0"), 2}, {rowsOf("0,61/1,0"), 2},
		{rowsOf("1,1/1,0"), 1}, {rowsOf("1,1/0,1"), 1}, {rowsOf("0,1/0,1"), 1}, {rowsOf("0,1,0/0,0,1/0,1,0"), 2}, {rowsOf("0,1,0/1,0,1/0,1,0"), 2},
		{rowsOf("0,1,0/0,0,1/1,1,0"), 1}, {rowsOf("0,1,1,0/0,0,0,1/0,0,0,1/1,0,0,0"), 3}, {onlyPaths(4, "0,1,2,3,0/1,0"), 2}, {filled(9, 9, impl.MaxEntry), 1},
		{onlyPaths(8, "0,1,2,3,0/0,4,5,6,7,0"), 1}, {onlyPaths(9, "0,1,2,3,0/0,4,5,6,7,8,0"), 2}, {onlyPaths(7, "0,1,2,3,0/0,4,5,6,0"), 4},
		{onlyPaths(8, "0,1,2,0/0,3,4,5,6,7,0"), 3}, {onlyPaths(9, "0,1,2,3,4,5,6,7,8,0/8,3"), 3}, {onlyPaths(9, "0,1,2,3,4,5,6,7,8,0/8,7"), 1},
		// Several components count together.
		{beside(ring(2), ring(3)), 1}, {beside(ring(3), ring(2)), 1}, {beside(ring(2), ring(4)), 2}, {beside(ring(4), ring(2)), 2}, {beside(ring(4), ring(4)), 4},
		{beside(ring(3), ring(6)), 3}, {beside(ring(4), ring(5)), 1}, {beside(ring(1), ring(8)), 1}, {beside(ring(8), ring(1)), 1}, {beside(ring(4), rowsOf("0")), 4},
		{beside(rowsOf("0"), ring(4)), 4}, {beside(beside(ring(2), ring(3)), ring(4)), 1}, {onlyPaths(6, "0,1,0/1,2/2,3,4,5,2"), 2}, {onlyPaths(5, "0,1,0/1,2/2,3,4,2"), 1},
	} {
		if got := impl.PeriodOf(c.m); got != c.want {
			t.Errorf("PeriodOf(%v) = %d; want %d", c.m, got, c.want)
		}
	}
}

func TestIsPrimitive(t *testing.T) {
	for _, c := range []struct {
		m    [][]int
		want bool
	}{
		{rowsOf("0"), false}, {rowsOf("1"), true}, {rowsOf("61"), true}, {rowsOf("0,1/1,0"), false}, {rowsOf("0,1000000/1000000,0"), false}, {rowsOf("1,1/1,0"), true},
		{rowsOf("0,1,1,0/0,0,0,1/0,0,0,1/1,0,0,0"), false}, {rowsOf("0,1,0/0,0,1/1,1,0"), true}, {filled(9, 9, impl.MaxEntry), true}, {filled(9, 9, 0), false},
		// The period is 1, but not all vertices are reached.
		{rowsOf("1,1/0,1"), false}, {rowsOf("1,0/0,1"), false}, {rowsOf("1,1/0,0"), false}, {rowsOf("0,1/0,1"), false}, {beside(ring(2), ring(3)), false},
	} {
		if got := impl.IsPrimitive(c.m); got != c.want {
			t.Errorf("IsPrimitive(%v) = %v", c.m, got)
		}
	}
}

func TestPrimitiveStep(t *testing.T) {
	for _, c := range []struct {
		m    [][]int
		want int
	}{
		{rowsOf("0"), 0}, {rowsOf("1"), 1}, {rowsOf("1000000"), 1}, {rowsOf("1,1/1,1"), 1}, {rowsOf("1,1/1,0"), 2}, {rowsOf("0,1/1,1"), 2}, {rowsOf("0,1/1,0"), 0},
		{rowsOf("1,1/0,1"), 0}, {rowsOf("1,0/0,1"), 0}, {rowsOf("0,1,0/0,0,1/1,1,0"), 5}, {rowsOf("0,1,0/1,0,1/0,1,0"), 0}, {rowsOf("0,1,1/1,0,1/1,1,0"), 2},
		{rowsOf("1,1,0/0,1,1/1,0,1"), 2}, {rowsOf("1,1,0/0,0,1/1,0,0"), 4}, {rowsOf("1000000,1000000/1000000,0"), 2}, {filled(9, 9, 0), 0},
		{beside(ring(2), ring(3)), 0}, {with(filled(9, 9, 1), 8, 8, 0), 2}, {with(filled(9, 9, 1), 0, 8, 0), 2},
	} {
		if got := impl.PrimitiveStep(c.m); got != c.want {
			t.Errorf("PrimitiveStep(%v) = %d; want %d", c.m, got, c.want)
		}
	}
	for size, slow := range map[int]int{1: 1, 2: 2, 3: 5, 4: 10, 5: 17, 6: 26, 7: 37, 8: 50, 9: 65} {
		for _, n := range []int{1, 2, 61, impl.MaxEntry} {
			for _, m := range [][][]int{slowest(size), impl.TurnMatrix(slowest(size))} {
				if got := impl.PrimitiveStep(times(m, n)); got != slow {
					t.Errorf("PrimitiveStep(%v) = %d; want %d", times(m, n), got, slow)
				}
			}
			if got := impl.PrimitiveStep(filled(size, size, n)); got != 1 {
				t.Errorf("PrimitiveStep(%v) = %d; want 1", filled(size, size, n), got)
			}
		}
	}
}

func TestTurnsOf(t *testing.T) {
	for _, c := range []struct {
		m    [][]int
		want []int
	}{
		{rowsOf("1"), []int{0}}, {rowsOf("1000000"), []int{0}}, {rowsOf("1,1/1,0"), []int{0, 0}}, {rowsOf("0,1/1,0"), []int{0, 1}}, {slowest(9), make([]int, 9)},
		{rowsOf("0,1000000/1000000,0"), []int{0, 1}}, {rowsOf("0,1,1,0/0,0,0,1/0,0,0,1/1,0,0,0"), []int{0, 1, 1, 2}}, {onlyPaths(4, "0,1,2,3,0/1,0"), []int{0, 1, 0, 1}},
		{onlyPaths(9, "0,1,2,3,0/0,4,5,6,7,8,0"), []int{0, 1, 0, 1, 1, 0, 1, 0, 1}}, {onlyPaths(7, "0,1,2,3,0/0,4,5,6,0"), []int{0, 1, 2, 3, 1, 2, 3}},
		{onlyPaths(9, "0,1,2,3,4,5,6,7,8,0/8,3"), []int{0, 1, 2, 0, 1, 2, 0, 1, 2}}, {onlyPaths(5, "0,4,1,3,2,0"), []int{0, 2, 4, 3, 1}},
		{filled(9, 9, impl.MaxEntry), make([]int, 9)},
		// Not irreducible.
		{rowsOf("0"), nil}, {rowsOf("1,0/0,1"), nil}, {rowsOf("1,1/0,1"), nil}, {rowsOf("1,0/1,1"), nil}, {rowsOf("0,1/0,0"), nil}, {beside(ring(4), ring(5)), nil},
		{rowsOf("0,1,0/1,0,1/0,0,0"), nil}, {rowsOf("0,1,0/0,0,1/0,1,0"), nil}, {filled(9, 9, 0), nil},
	} {
		if got := impl.TurnsOf(c.m); !slices.Equal(got, c.want) {
			t.Errorf("TurnsOf(%v) = %v; want %v", c.m, got, c.want)
		}
	}
}

// One closed path through all vertices, in order or against it.
func TestRings(t *testing.T) {
	for size := 1; size <= impl.MaxSize; size++ {
		var ahead, back []int
		for v := range size {
			ahead, back = append(ahead, v), append(back, (size-v)%size)
		}
		for _, n := range []int{1, 7, impl.MaxEntry} {
			m := times(ring(size), n)
			turned := impl.TurnMatrix(m)
			if !slices.Equal(impl.TurnsOf(m), ahead) || !slices.Equal(impl.TurnsOf(turned), back) {
				t.Errorf("TurnsOf(%v) = %v, turned %v", m, impl.TurnsOf(m), impl.TurnsOf(turned))
			}
			for _, m := range [][][]int{m, turned} {
				if impl.PeriodOf(m) != size || impl.IsPrimitive(m) != (size == 1) || impl.PrimitiveStep(m) != 1/size || !equalRows(impl.ComponentsOf(m), [][]int{ahead}) {
					t.Errorf("PeriodOf(%v) = %d, PrimitiveStep = %d, ComponentsOf = %v", m, impl.PeriodOf(m), impl.PrimitiveStep(m), impl.ComponentsOf(m))
				}
			}
		}
	}
}

// P6.
func TestPeriodsDivideClosedPaths(t *testing.T) {
	check := func(m [][]int) {
		period := impl.PeriodOf(m)
		arcs := impl.ArcsOf(m)
		divides := func(n int) bool { return period > 0 && n%period == 0 }
		for n := 1; n <= 6; n++ {
			for _, path := range impl.PathsOf(m, n) {
				if arcs[path[0]][0] == arcs[path[n-1]][1] && !divides(n) {
					t.Errorf("PeriodOf(%v) = %d does not divide the length of the closed path %v", m, period, path)
				}
			}
		}
		for n := 1; n <= 30; n++ {
			if power, ok := impl.PowerMatrix(m, n); ok && impl.TraceOf(power) > 0 && !divides(n) {
				t.Errorf("PeriodOf(%v) = %d does not divide %d, for which there are %d closed paths", m, period, n, impl.TraceOf(power))
			}
		}
		// A divisor of all of them that is not the greatest one would not do.
		if want := periodByTrial(pathLengths(m, 4*len(m))); period != want {
			t.Errorf("PeriodOf(%v) = %d; want %d", m, period, want)
		}
	}
	eachMatrix(1, []int{0, 1, 2, 60}, check)
	eachMatrix(2, []int{0, 1, 2}, check)
	eachMatrix(3, []int{0, 1}, check)
	for _, m := range slices.Concat(someComponents()[:100], someGraphs()) {
		check(m)
	}
}

func TestComponentsOfNoMatrix(t *testing.T) {
	for _, m := range noMatrices() {
		if reach, components, turns := impl.ReachOf(m), impl.ComponentsOf(m), impl.TurnsOf(m); len(reach) != 0 || len(components) != 0 || len(turns) != 0 {
			t.Errorf("ReachOf(%v) = %v, ComponentsOf = %v, TurnsOf = %v; want nil", m, reach, components, turns)
		}
		if period, step := impl.PeriodOf(m), impl.PrimitiveStep(m); period != 0 || step != 0 {
			t.Errorf("PeriodOf(%v) = %d, PrimitiveStep = %d; want 0", m, period, step)
		}
		if impl.IsIrreducible(m) || impl.IsPrimitive(m) {
			t.Errorf("IsIrreducible(%v) = %v, IsPrimitive = %v", m, impl.IsIrreducible(m), impl.IsPrimitive(m))
		}
	}
}

func componentMakers() []namedTable {
	return []namedTable{
		{"ReachOf", impl.ReachOf},
		{"ComponentsOf", impl.ComponentsOf},
		{"TurnsOf", func(m [][]int) [][]int { return [][]int{impl.TurnsOf(m)} }},
	}
}

func TestComponentFunctionsKeepTheirArguments(t *testing.T) {
	for _, given := range slices.Concat(someComponents()[:100], someGraphs(), someMatrices(), noGraphs()) {
		checkKeptRows(t, given, componentMakers(), func(m [][]int) {
			impl.IsIrreducible(m)
			impl.PeriodOf(m)
			impl.IsPrimitive(m)
			impl.PrimitiveStep(m)
		})
	}
}

func TestListsOfComponentsAreNewMemory(t *testing.T) {
	for _, m := range slices.Concat(someComponents()[:100], someGraphs(), someMatrices()) {
		for _, f := range componentMakers() {
			checkNewMemory(t, f.name, m, func() [][]int { return f.make(m) })
		}
	}
}
