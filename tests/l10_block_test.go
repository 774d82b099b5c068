package tests

import (
	"math"
	"math/rand"
	"slices"
	"strconv"
	"strings"
	"testing"

	"loop.example/g03103/impl"
)

// noPowers are beyond the limits of PowerGraph.
var noPowers = []int{0, -1, 31, -2, -30, -31, 32, 60, 256, 256 + 1, 1 << 32, 1<<32 + 1, -1 << 32, math.MinInt, math.MinInt + 1, math.MaxInt}

// noBlockLengths are beyond the limits of BlockWords.
var noBlockLengths = []int{0, -1, 4, -2, -3, 5, 6, 7, 16, 17, 256 + 1, 256 + 2, 1 << 32, 1<<32 + 2, -1 << 32, math.MinInt, math.MinInt + 1, math.MaxInt}

// fewArcs are graphs of every size with up to one arc more than MaxSize.
func fewArcs() [][][]int {
	var list [][][]int
	random := rand.New(rand.NewSource(10))
	for size := 1; size <= impl.MaxSize; size++ {
		list = append(list, filled(size, size, 0), unit(size), ring(size), impl.TurnMatrix(ring(size)), slowest(size))
		for count := 1; count <= impl.MaxSize+1; count++ {
			for range 12 {
				m := filled(size, size, 0)
				for range count {
					m[random.Intn(size)][random.Intn(size)]++
				}
				list = append(list, m)
			}
		}
	}
	return list
}

// manyFewArcs calls visit for more of them.
func manyFewArcs(visit func([][]int)) {
	eachMatrix(1, []int{0, 1, 2, 3, 4, 5, 6, 7, 8, 9, 10, 11}, visit)
	eachMatrix(2, []int{0, 1, 2, 3, 4}, visit)
	eachMatrix(3, []int{0, 1, 2}, visit)
	for _, m := range fewArcs() {
		visit(m)
	}
}

// blockByHand tells for each two arcs whether they follow each other.
func blockByHand(m [][]int) ([][]int, bool) {
	if sum := sumOfRows(m); sum == 0 || sum > 9 {
		return nil, false
	}
	arcs := arcsByHand(m)
	block := filled(len(arcs), len(arcs), 0)
	for p, first := range arcs {
		for q, second := range arcs {
			if first[1] == second[0] {
				block[p][q] = 1
			}
		}
	}
	return block, true
}

// closedByHand returns the numbers of closed paths of 1 to most arcs, without a limit.
func closedByHand(m [][]int, most int) []int {
	var closed []int
	power := unit(len(m))
	for range most {
		power, _ = product(power, m)
		trace := 0
		for v := range m {
			trace += power[v][v]
		}
		closed = append(closed, trace)
	}
	return closed
}

func TestBlockGraph(t *testing.T) {
	for _, c := range []struct{ m, want string }{
		{"1,1/1,0", "1,1,0/0,0,1/1,1,0"}, {"0,1/1,0", "0,1/1,0"}, {"1,1/1,1", "1,1,0,0/0,0,1,1/1,1,0,0/0,0,1,1"}, {"1,1,0/0,0,1/1,1,0", "1,1,0,0,0/0,0,1,0,0/0,0,0,1,1/1,1,0,0,0/0,0,1,0,0"},
		// One arc, from a vertex to itself and to another.
		{"1", "1"}, {"1,0/0,0", "1"}, {"0,0/0,1", "1"}, {"0,1/0,0", "0"}, {"0,0/1,0", "0"}, {"0,0,0/0,1,0/0,0,0", "1"}, {"0,0,0/0,0,1/0,0,0", "0"}, {"0,0,0/0,0,0/1,0,0", "0"},
		// Several arcs between the same two vertices.
		{"2", "1,1/1,1"}, {"3", "1,1,1/1,1,1/1,1,1"}, {"0,2/0,0", "0,0/0,0"}, {"0,0/2,0", "0,0/0,0"}, {"0,2/1,0", "0,0,1/0,0,1/1,1,0"}, {"0,1/2,0", "0,1,1/1,0,0/1,0,0"}, {"0,2/2,0", "0,0,1,1/0,0,1,1/1,1,0,0/1,1,0,0"},
		{"1,2/0,1", "1,1,1,0/0,0,0,1/0,0,0,1/0,0,0,1"}, {"1,0/2,1", "1,0,0,0/1,0,0,0/1,0,0,0/0,1,1,1"}, {"2,1/0,0", "1,1,1/1,1,1/0,0,0"}, {"0,1/0,2", "0,1,1/0,1,1/0,1,1"},
		// Vertices that no arc touches, and parts without a path between them.
		{"1,0/0,1", "1,0/0,1"}, {"1,0,0/0,0,0/0,0,1", "1,0/0,1"}, {"0,0,1/0,0,0/1,0,0", "0,1/1,0"}, {"1,1,0/1,0,0/0,0,0", "1,1,0/0,0,1/1,1,0"}, {"0,0,0/0,1,1/0,1,0", "1,1,0/0,0,1/1,1,0"}, {"1,0,1/0,0,0/1,0,0", "1,1,0/0,0,1/1,1,0"},
		// Paths that end.
		{"0,1,0/0,0,1/0,0,0", "0,1/0,0"}, {"0,0,0/1,0,0/0,1,0", "0,0/1,0"}, {"0,1,1/0,0,1/0,0,0", "0,0,1/0,0,0/0,0,0"}, {"0,1,0/0,0,1/1,1,0", "0,1,0,0/0,0,1,1/1,0,0,0/0,1,0,0"},
	} {
		got, ok := impl.BlockGraph(rowsOf(c.m))
		checkResult(t, got, ok, rowsOf(c.want), true, "BlockGraph", c.m)
	}
}

// With MaxSize arcs there is one, with one arc more there is none.
func TestBlockGraphAtMaxSize(t *testing.T) {
	for _, c := range []struct{ m, want [][]int }{
		{rowsOf("9"), filled(9, 9, 1)}, {rowsOf("0,9/0,0"), filled(9, 9, 0)}, {rowsOf("0,0/9,0"), filled(9, 9, 0)}, {rowsOf("0,0/0,9"), filled(9, 9, 1)}, {unit(9), unit(9)}, {ring(9), ring(9)}, {impl.TurnMatrix(ring(9)), impl.TurnMatrix(ring(9))},
		{slowest(8), rowsOf("0,1,0,0,0,0,0,0,0/0,0,1,0,0,0,0,0,0/0,0,0,1,0,0,0,0,0/0,0,0,0,1,0,0,0,0/0,0,0,0,0,1,0,0,0/0,0,0,0,0,0,1,0,0/0,0,0,0,0,0,0,1,1/1,0,0,0,0,0,0,0,0/0,1,0,0,0,0,0,0,0")},
		{filled(3, 3, 1), rowsOf("1,1,1,0,0,0,0,0,0/0,0,0,1,1,1,0,0,0/0,0,0,0,0,0,1,1,1/1,1,1,0,0,0,0,0,0/0,0,0,1,1,1,0,0,0/0,0,0,0,0,0,1,1,1/1,1,1,0,0,0,0,0,0/0,0,0,1,1,1,0,0,0/0,0,0,0,0,0,1,1,1")},
	} {
		got, ok := impl.BlockGraph(c.m)
		checkResult(t, got, ok, c.want, true, "BlockGraph", c.m)
		for i := range c.m {
			for j := range c.m {
				more := with(c.m, i, j, c.m[i][j]+1)
				got, ok := impl.BlockGraph(more)
				checkResult(t, got, ok, nil, false, "BlockGraph", more)
				if impl.IsBlockOf(more, c.want) || impl.IsBlockOf(more, nil) {
					t.Errorf("IsBlockOf of %v, which has 10 arcs, is true", more)
				}
			}
		}
	}
}

func TestBlockGraphWithoutArcs(t *testing.T) {
	for size := 1; size <= impl.MaxSize; size++ {
		m := filled(size, size, 0)
		got, ok := impl.BlockGraph(m)
		checkResult(t, got, ok, nil, false, "BlockGraph", m)
		for _, n := range [][][]int{nil, {}, {nil}, {{}}, {{0}}, m, {{1}}, {{-7}}} {
			if impl.IsBlockOf(m, n) {
				t.Errorf("IsBlockOf(%v, %v) = true", m, n)
			}
		}
	}
}

func TestBlockGraphOfManyGraphs(t *testing.T) {
	check := func(m [][]int) {
		want, accepted := blockByHand(m)
		got, ok := impl.BlockGraph(m)
		checkResult(t, got, ok, want, accepted, "BlockGraph", m)
		if impl.IsBlockOf(m, want) != accepted {
			t.Errorf("IsBlockOf(%v, %v) = %v", m, want, !accepted)
		}
	}
	manyFewArcs(check)
	for _, m := range slices.Concat(someGraphs(), someMatrices(), largeMatrices()) {
		check(m)
	}
}

// P10.
func TestLongerBlocksHaveTheSameClosedPaths(t *testing.T) {
	succeeded := 0
	manyFewArcs(func(m [][]int) {
		block, ok := impl.BlockGraph(m)
		if !ok {
			return
		}
		succeeded++
		if !impl.IsMatrix(block) || len(block) != sumOfRows(m) {
			t.Fatalf("BlockGraph(%v) = %v", m, block)
		}
		if got, want := closedByHand(block, 11), closedByHand(m, 11); !slices.Equal(got, want) {
			t.Errorf("BlockGraph(%v) = %v has the numbers of closed paths %v; want %v", m, block, got, want)
		}
		for n := 1; n <= 6; n++ {
			power, fits := impl.PowerMatrix(m, n)
			longer, longerFits := impl.PowerMatrix(block, n)
			if fits && longerFits && impl.TraceOf(power) != impl.TraceOf(longer) {
				t.Errorf("%v has %d closed paths of %d arcs, its BlockGraph %d", m, impl.TraceOf(power), n, impl.TraceOf(longer))
			}
			if got, want := countByVertices(block, n), countByVertices(m, n+1); got != want {
				t.Errorf("BlockGraph(%v) has %d paths of %d arcs; there are %d of one arc more", m, got, n, want)
			}
		}
		if impl.PeriodOf(block) != impl.PeriodOf(m) {
			t.Errorf("BlockGraph(%v) has the period %d; want %d", m, impl.PeriodOf(block), impl.PeriodOf(m))
		}
	})
	if succeeded < 1000 {
		t.Errorf("only %d graphs have a BlockGraph", succeeded)
	}
}

// The arcs of a BlockGraph are the paths of 2 arcs, in their order.
func TestBlockGraphOfABlockGraph(t *testing.T) {
	for _, c := range []struct{ m, want string }{
		{"1,1/1,0", "1,1,0,0,0/0,0,1,0,0/0,0,0,1,1/1,1,0,0,0/0,0,1,0,0"}, {"2", "1,1,0,0/0,0,1,1/1,1,0,0/0,0,1,1"}, {"1", "1"}, {"0,1/1,0", "0,1/1,0"}, {"0,1,0/0,0,1/0,0,0", "0"}, {"1,0/0,1", "1,0/0,1"},
		{"3", "1,1,1,0,0,0,0,0,0/0,0,0,1,1,1,0,0,0/0,0,0,0,0,0,1,1,1/1,1,1,0,0,0,0,0,0/0,0,0,1,1,1,0,0,0/0,0,0,0,0,0,1,1,1/1,1,1,0,0,0,0,0,0/0,0,0,1,1,1,0,0,0/0,0,0,0,0,0,1,1,1"},
	} {
		block, _ := impl.BlockGraph(rowsOf(c.m))
		got, ok := impl.BlockGraph(block)
		checkResult(t, got, ok, rowsOf(c.want), true, "BlockGraph of BlockGraph", c.m)
	}
	for _, m := range []string{"0,1/0,0", "4", "0,2/0,0", "1,1,0/0,1,1/1,0,2"} {
		block, ok := impl.BlockGraph(rowsOf(m))
		if !ok {
			t.Errorf("BlockGraph(%q) fails", m)
		}
		got, ok := impl.BlockGraph(block)
		checkResult(t, got, ok, nil, false, "BlockGraph of BlockGraph", m)
	}
	manyFewArcs(func(m [][]int) {
		block, ok := impl.BlockGraph(m)
		if !ok {
			return
		}
		paths := impl.PathsOf(m, 2)
		if got := arcsByHand(block); !equalRows(got, paths) {
			t.Errorf("BlockGraph(%v) has the arcs %v; want %v", m, got, paths)
		}
		second, ok := impl.BlockGraph(block)
		if ok != (1 <= len(paths) && len(paths) <= 9) {
			t.Errorf("BlockGraph of BlockGraph(%v) = %v, %v; the paths are %v", m, second, ok, paths)
		}
		if ok && !slices.Equal(closedByHand(second, 9), closedByHand(m, 9)) {
			t.Errorf("BlockGraph of BlockGraph(%v) = %v has other numbers of closed paths", m, second)
		}
	})
}

func TestBlockGraphOfNoGraph(t *testing.T) {
	for _, m := range noGraphs() {
		got, ok := impl.BlockGraph(m)
		checkResult(t, got, ok, nil, false, "BlockGraph", m)
	}
}

// digits writes pairs of numbers as BlockWords does.
func digits(pairs [][]int) []string {
	var words []string
	for _, pair := range pairs {
		words = append(words, strconv.Itoa(pair[0])+strconv.Itoa(pair[1]))
	}
	return words
}

// blockWordsByHand reads the languages of the lengths 0 to n + 1.
func blockWordsByHand(lists [][]string, n int) []string {
	if len(lists[n]) > 10 {
		return nil
	}
	var pairs [][]int
	for _, w := range lists[n+1] {
		pairs = append(pairs, []int{slices.Index(lists[n], w[:n]), slices.Index(lists[n], w[1:])})
	}
	return digits(pairs)
}

func TestBlockWords(t *testing.T) {
	for _, c := range []struct {
		text string
		// For the lengths 1, 2 and 3.
		want [3]string
	}{
		{"1", [3]string{"00", "00", "00"}}, {"2", [3]string{"00 01 10 11", "00 01 12 13 20 21 32 33", "00 01 12 13 24 25 36 37 40 41 52 53 64 65 76 77"}},
		{"2 bb", [3]string{"00 01 10", "00 01 12 20 21", "00 01 12 23 24 30 31 42"}}, {"2 aa bb", [3]string{"01 10", "01 10", "01 10"}}, {"2 ab ba", [3]string{"00 11", "00 11", "00 11"}},
		{"2 ab", [3]string{"00 10 11", "00 10 21 22", "00 10 21 32 33"}}, {"2 ba", [3]string{"00 01 11", "00 01 12 22", "00 01 12 23 33"}}, {"2 aba bab", [3]string{"00 01 10 11", "00 01 13 20 32 33", "00 01 12 24 25 30 31 43 54 55"}},
		// The indices are those in the language, not those among all words.
		{"2 ba bb", [3]string{"00", "00", "00"}}, {"2 b", [3]string{"00", "00", "00"}}, {"2 a", [3]string{"00", "00", "00"}}, {"3 a b", [3]string{"00", "00", "00"}}, {"3 a c", [3]string{"00", "00", "00"}},
		{"3 b", [3]string{"00 01 10 11", "00 01 12 13 20 21 32 33", "00 01 12 13 24 25 36 37 40 41 52 53 64 65 76 77"}}, {"3 a cc", [3]string{"00 01 10", "00 01 12 20 21", "00 01 12 23 24 30 31 42"}},
		// 9 words of length 2, and too many of length 3.
		{"3", [3]string{"00 01 02 10 11 12 20 21 22", "00 01 02 13 14 15 26 27 28 30 31 32 43 44 45 56 57 58 60 61 62 73 74 75 86 87 88", ""}},
		{"3 ccc", [3]string{"00 01 02 10 11 12 20 21 22", "00 01 02 13 14 15 26 27 28 30 31 32 43 44 45 56 57 58 60 61 62 73 74 75 86 87", ""}},
		{"3 ab bc ca", [3]string{"00 02 10 11 21 22", "00 01 14 15 20 21 32 33 42 43 54 55", ""}},
		// 10 words of length 3, the last of which has the index 9.
		{"3 ba ca cb", [3]string{"00 01 02 11 12 22", "00 01 02 13 14 25 33 34 45 55", "00 01 02 13 14 25 36 37 48 59 66 67 78 89 99"}},
		// Without points.
		{"1 a", [3]string{}}, {"1 aaa", [3]string{}}, {"2 a b", [3]string{}}, {"2 " + eightWords, [3]string{}}, {"3 a b c", [3]string{}}, {"3 aa ba bb ca cb cc", [3]string{}},
	} {
		s := mustShift(t, c.text)
		for i, want := range c.want {
			if got := impl.BlockWords(s, i+1); !slices.Equal(got, strings.Fields(want)) {
				t.Errorf("BlockWords(%q, %d) = %q; want %q", c.text, i+1, got, want)
			}
		}
	}
}

func TestBlockWordsOfManyShifts(t *testing.T) {
	counts := map[int]int{}
	check := func(s impl.Shift) {
		t.Helper()
		lists := languages(s, 4)
		counts[len(lists[3])]++
		for n := 1; n <= 3; n++ {
			if got, want := impl.BlockWords(s, n), blockWordsByHand(lists, n); !slices.Equal(got, want) {
				t.Errorf("BlockWords(%#v, %d) = %q; want %q", s, n, got, want)
			}
		}
	}
	eachListOf(shortWords(1), 3, func(forbidden []string) { check(impl.Shift{Letters: 1, Forbidden: forbidden}) })
	eachListOf(shortWords(2), 3, func(forbidden []string) { check(impl.Shift{Letters: 2, Forbidden: forbidden}) })
	for _, s := range slices.Concat(fewShifts(t), someShifts(), randomShifts(9, 1500)) {
		check(s)
	}
	for _, n := range []int{0, 1, 8, 9, 10, 11, 12, 26, 27} {
		if counts[n] == 0 {
			t.Errorf("no shift has %d words of length 3", n)
		}
	}
}

// P10 for the words of shifts.
func TestBlocksOfShiftsHaveTheSameClosedPaths(t *testing.T) {
	closedOf := func(s impl.Shift, n int) []int {
		size := len(impl.LanguageOf(s, n))
		table := filled(size, size, 0)
		for _, w := range impl.BlockWords(s, n) {
			table[w[0]-'0'][w[1]-'0']++
		}
		return closedByHand(table, 8)
	}
	for _, s := range slices.Concat(fewShifts(t), someShifts(), randomShifts(9, 500)) {
		graph, ok := impl.GraphOf(s)
		if !ok {
			continue
		}
		want := closedByHand(graph, 8)
		if got := digits(impl.ArcsOf(graph)); !slices.Equal(impl.BlockWords(s, 2), got) {
			t.Errorf("BlockWords(%#v, 2) = %q; want the arcs %q", s, impl.BlockWords(s, 2), got)
		}
		// Words of 3 letters tell more than pairs of letters do.
		longer := func(w string) bool { return len(w) > 2 }
		if least, ok := impl.ForbiddenOf(s); ok && !slices.ContainsFunc(least.Forbidden, longer) && !slices.Equal(closedOf(s, 1), want) {
			t.Errorf("BlockWords(%#v, 1) has the numbers of closed paths %v; want %v", s, closedOf(s, 1), want)
		}
		if len(impl.LanguageOf(s, 3)) <= 10 && !slices.Equal(closedOf(s, 3), want) {
			t.Errorf("BlockWords(%#v, 3) has the numbers of closed paths %v; want %v", s, closedOf(s, 3), want)
		}
		if block, ok := impl.BlockGraph(graph); ok && !slices.Equal(impl.BlockWords(s, 3), digits(impl.ArcsOf(block))) {
			t.Errorf("BlockWords(%#v, 3) = %q; want the arcs of %v", s, impl.BlockWords(s, 3), block)
		}
	}
}

func TestBlockWordsBeyondTheLimits(t *testing.T) {
	for _, s := range fewShifts(t) {
		for _, n := range noBlockLengths {
			if got := impl.BlockWords(s, n); len(got) != 0 {
				t.Errorf("BlockWords(%#v, %d) = %q; want nil", s, n, got)
			}
		}
	}
	for _, c := range []struct {
		text  string
		words int
	}{
		{"3 ba ca cb", 10}, {"3 aac ba bbc cb cba cc cca ccb", 10}, {"3 aa abc ac bca bcb cb ccc", 9}, {"3 ab bac bb bbc cc", 11}, {"3 aab abb acb baa bba bca ca cb", 11}, {"3 aa bb cc", 12}, {"3 aaa", 26}, {"3", 27},
	} {
		s := mustShift(t, c.text)
		if got := len(languages(s, 3)[3]); got != c.words {
			t.Errorf("%q has %d words of length 3; want %d", c.text, got, c.words)
		}
		if got := impl.BlockWords(s, 3); (len(got) > 0) != (c.words <= 10) {
			t.Errorf("BlockWords(%q, 3) = %q", c.text, got)
		}
	}
}

func TestBlockWordsOfNoShift(t *testing.T) {
	for _, s := range noShifts() {
		for _, n := range append([]int{1, 2, 3}, noBlockLengths...) {
			if got := impl.BlockWords(s, n); len(got) != 0 {
				t.Errorf("BlockWords(%#v, %d) = %q; want nil", s, n, got)
			}
		}
	}
}

func TestPowerGraph(t *testing.T) {
	for _, c := range []struct {
		m    [][]int
		n    int
		want string
		ok   bool
	}{
		{rowsOf("1,1/1,0"), 0, "", false}, {rowsOf("1,1/1,0"), -1, "", false}, {rowsOf("1,1/1,0"), 1, "1,1/1,0", true}, {rowsOf("1,1/1,0"), 2, "2,1/1,1", true}, {rowsOf("1,1/1,0"), 3, "3,2/2,1", true},
		{rowsOf("1,1/1,0"), 29, "832040,514229/514229,317811", true}, {rowsOf("1,1/1,0"), 30, "", false}, {rowsOf("1"), 0, "", false}, {rowsOf("1"), 1, "1", true}, {rowsOf("1"), 30, "1", true}, {rowsOf("1"), 31, "", false},
		{rowsOf("1,1/0,1"), 30, "1,30/0,1", true}, {rowsOf("1,1/0,1"), 31, "", false}, {rowsOf("0,1/1,0"), 30, "1,0/0,1", true}, {rowsOf("0,1/1,0"), 29, "0,1/1,0", true}, {ring(3), 2, "0,0,1/1,0,0/0,1,0", true},
		// At MaxEntry, and beyond it.
		{rowsOf("10"), 6, "1000000", true}, {rowsOf("10"), 7, "", false}, {rowsOf("1000"), 2, "1000000", true}, {rowsOf("1001"), 2, "", false}, {rowsOf("1000000"), 1, "1000000", true}, {rowsOf("1000000"), 2, "", false},
		{chain(1000, 1000), 2, "0,0,1000000/0,0,0/0,0,0", true}, {chain(1000, 1001), 2, "", false}, {chain(101, 9901), 2, "", false}, {chain(1000, 1001), 3, "", false}, {rowsOf("1,999971/0,1"), 1, "1,999971/0,1", true}, {rowsOf("1,33333/0,1"), 30, "1,999990/0,1", true},
		{rowsOf("1,33334/0,1"), 29, "1,966686/0,1", true}, {rowsOf("1,33334/0,1"), 30, "", false}, {rowsOf("0,1000000/0,0"), 2, "0,0/0,0", true},
		// Without arcs.
		{rowsOf("0"), 0, "", false}, {rowsOf("0"), 1, "0", true}, {rowsOf("0"), 2, "0", true}, {rowsOf("0"), 30, "0", true}, {rowsOf("0"), 31, "", false}, {rowsOf("0,0/0,0"), 2, "0,0/0,0", true}, {rowsOf("0,0/0,0"), 0, "", false},
	} {
		got, ok := impl.PowerGraph(c.m, c.n)
		checkResult(t, got, ok, rowsOf(c.want), c.ok, "PowerGraph", c.m, c.n)
	}
}

func TestPowerGraphOfManyMatrices(t *testing.T) {
	for _, m := range slices.Concat(someMatrices(), someGraphs(), largeMatrices()) {
		want, fits := unit(len(m)), true
		for n := 1; n <= 30; n++ {
			if fits {
				want, fits = product(want, m)
			}
			got, ok := impl.PowerGraph(m, n)
			checkResult(t, got, ok, want, fits, "PowerGraph", m, n)
		}
		for _, n := range noPowers {
			got, ok := impl.PowerGraph(m, n)
			checkResult(t, got, ok, nil, false, "PowerGraph", m, n)
		}
	}
	for _, m := range noMatrices() {
		for _, n := range append([]int{1, 2, 29, 30}, noPowers...) {
			got, ok := impl.PowerGraph(m, n)
			checkResult(t, got, ok, nil, false, "PowerGraph", m, n)
		}
	}
}

func TestArcsOfAPowerGraphArePaths(t *testing.T) {
	for _, m := range slices.Concat(someGraphs(), fewArcs()) {
		arcs := arcsByHand(m)
		for n := 1; n <= 6; n++ {
			if countByVertices(m, n) > 500 {
				continue
			}
			want := filled(len(m), len(m), 0)
			for _, path := range impl.PathsOf(m, n) {
				want[arcs[path[0]][0]][arcs[path[n-1]][1]]++
			}
			got, ok := impl.PowerGraph(m, n)
			checkResult(t, got, ok, want, true, "PowerGraph", m, n)
		}
	}
}

func TestJoinGraphs(t *testing.T) {
	for _, c := range []struct{ a, b, want string }{
		{"1", "2", "1,0/0,2"}, {"2", "1", "2,0/0,1"}, {"0", "0", "0,0/0,0"}, {"0", "1", "0,0/0,1"}, {"1000000", "1000000", "1000000,0/0,1000000"}, {"60", "61", "60,0/0,61"}, {"1000000", "7", "1000000,0/0,7"},
		{"1,1/1,0", "3", "1,1,0/1,0,0/0,0,3"}, {"3", "1,1/1,0", "3,0,0/0,1,1/0,1,0"}, {"1,2/3,4", "5,6/7,8", "1,2,0,0/3,4,0,0/0,0,5,6/0,0,7,8"}, {"5,6/7,8", "1,2/3,4", "5,6,0,0/7,8,0,0/0,0,1,2/0,0,3,4"},
		{"1,2,3/4,5,6/7,8,9", "0", "1,2,3,0/4,5,6,0/7,8,9,0/0,0,0,0"}, {"0", "1,2,3/4,5,6/7,8,9", "0,0,0,0/0,1,2,3/0,4,5,6/0,7,8,9"}, {"0,1/0,0", "0,0/1,0", "0,1,0,0/0,0,0,0/0,0,0,0/0,0,1,0"},
	} {
		got, ok := impl.JoinGraphs(rowsOf(c.a), rowsOf(c.b))
		checkResult(t, got, ok, rowsOf(c.want), true, "JoinGraphs", c.a, c.b)
	}
}

// numbered returns the matrix with the numbers from first on.
func numbered(size, first int) [][]int {
	m := filled(size, size, 0)
	for i := range m {
		for j := range m {
			m[i][j] = first + i*size + j
		}
	}
	return m
}

// pairByHand follows the document number by number.
func pairByHand(a, b [][]int) ([][]int, bool) {
	size := len(a) * len(b)
	if size > 9 {
		return nil, false
	}
	pairs, fits := filled(size, size, 0), true
	for i := range a {
		for k := range b {
			for j := range a {
				for l := range b {
					arcs := a[i][j] * b[k][l]
					pairs[i*len(b)+k][j*len(b)+l] = arcs
					fits = fits && arcs <= 1000000
				}
			}
		}
	}
	return pairs, fits
}

// checkTwo compares both functions of two matrices with what the document says.
func checkTwo(t *testing.T, a, b [][]int) {
	t.Helper()
	joined, ok := impl.JoinGraphs(a, b)
	checkResult(t, joined, ok, beside(a, b), len(a)+len(b) <= 9, "JoinGraphs", a, b)
	pairs, ok := impl.PairGraph(a, b)
	want, accepted := pairByHand(a, b)
	checkResult(t, pairs, ok, want, accepted, "PairGraph", a, b)
}

// All sums and products of sizes, below MaxSize, equal to it and beyond.
func TestJoinGraphsAndPairGraphOfAllSizes(t *testing.T) {
	for size := 1; size <= impl.MaxSize; size++ {
		for other := 1; other <= impl.MaxSize; other++ {
			a, b := numbered(size, 1), numbered(other, 101)
			_, joined := impl.JoinGraphs(a, b)
			_, paired := impl.PairGraph(a, b)
			if joined != (size+other <= 9) || paired != (size*other <= 9) {
				t.Errorf("JoinGraphs of %d and %d vertices: %v, PairGraph: %v", size, other, joined, paired)
			}
			checkTwo(t, a, b)
			checkTwo(t, filled(size, size, 0), b)
			checkTwo(t, a, filled(other, other, 0))
			checkTwo(t, unit(size), unit(other))
		}
	}
}

func TestJoinGraphsAndPairGraphOfManyPairs(t *testing.T) {
	list := slices.Concat(someMatrices(), someGraphs()[:60], largeMatrices(), [][][]int{rowsOf("1,2/3,4"), rowsOf("1000,1/1,1000"), rowsOf("1000"), rowsOf("1001"), rowsOf("0,1000/1001,0")})
	for _, a := range list {
		for _, b := range list {
			checkTwo(t, a, b)
		}
	}
	var small [][][]int
	for size := 1; size <= 2; size++ {
		eachMatrix(size, []int{0, 1, 3}, func(m [][]int) { small = append(small, m) })
	}
	for _, a := range small {
		for _, b := range small {
			checkTwo(t, a, b)
		}
	}
}

func TestPairGraph(t *testing.T) {
	for _, c := range []struct{ a, b, want string }{
		{"2", "1,1/1,0", "2,2/2,0"}, {"1,1/1,0", "2", "2,2/2,0"}, {"2", "3", "6"}, {"1", "1,2/3,4", "1,2/3,4"}, {"1,2/3,4", "1", "1,2/3,4"}, {"0", "1,2/3,4", "0,0/0,0"}, {"0", "1000000", "0"}, {"1000000", "0", "0"},
		{"0,0/0,0", "7", "0,0/0,0"}, {"0,0/0,0", "1,1/1,1", "0,0,0,0/0,0,0,0/0,0,0,0/0,0,0,0"},
		// The order of the pairs.
		{"0,1/0,0", "1,2/3,4", "0,0,1,2/0,0,3,4/0,0,0,0/0,0,0,0"}, {"1,2/3,4", "0,1/0,0", "0,1,0,2/0,0,0,0/0,3,0,4/0,0,0,0"}, {"1,2/3,4", "1,10/100,1000", "1,10,2,20/100,1000,200,2000/3,30,4,40/300,3000,400,4000"},
		{"1,10/100,1000", "1,2/3,4", "1,2,10,20/3,4,30,40/100,200,1000,2000/300,400,3000,4000"}, {"1,0/0,1", "1,2/3,4", "1,2,0,0/3,4,0,0/0,0,1,2/0,0,3,4"}, {"1,2/3,4", "1,0/0,1", "1,0,2,0/0,1,0,2/3,0,4,0/0,3,0,4"},
		{"0,1/0,0", "0,1,0/0,0,1/1,0,0", "0,0,0,0,1,0/0,0,0,0,0,1/0,0,0,1,0,0/0,0,0,0,0,0/0,0,0,0,0,0/0,0,0,0,0,0"}, {"0,1,0/0,0,1/1,0,0", "0,1/0,0", "0,0,0,1,0,0/0,0,0,0,0,0/0,0,0,0,0,1/0,0,0,0,0,0/0,1,0,0,0,0/0,0,0,0,0,0"},
		// At MaxEntry.
		{"1000", "1000", "1000000"}, {"1000000", "1", "1000000"}, {"1", "1000000", "1000000"}, {"500000", "2", "1000000"}, {"999999", "1", "999999"}, {"1000,0/0,1", "1,0/0,1000", "1000,0,0,0/0,1000000,0,0/0,0,1,0/0,0,0,1000"}, {"0,1000000/0,0", "0,1/1,0", "0,0,0,1000000/0,0,1000000,0/0,0,0,0/0,0,0,0"},
	} {
		got, ok := impl.PairGraph(rowsOf(c.a), rowsOf(c.b))
		checkResult(t, got, ok, rowsOf(c.want), true, "PairGraph", c.a, c.b)
	}
}

func TestPairGraphBeyondMaxEntry(t *testing.T) {
	for _, c := range []struct{ a, b string }{
		{"1000", "1001"}, {"1001", "1000"}, {"1000000", "2"}, {"2", "1000000"}, {"1000000", "1000000"}, {"101", "9901"}, {"500001", "2"}, {"0,1000/0,0", "0,0/1001,0"}, {"1000000,1000000/1000000,1000000", "1000000,1000000/1000000,1000000"}, {"1,1/1,1001", "1,1/1,1000"},
	} {
		got, ok := impl.PairGraph(rowsOf(c.a), rowsOf(c.b))
		checkResult(t, got, ok, nil, false, "PairGraph", c.a, c.b)
	}
	// Just one product is at the limit, or beyond it.
	for _, sizes := range [][2]int{{3, 3}, {2, 4}, {4, 2}, {1, 9}, {9, 1}} {
		zeroA, zeroB := filled(sizes[0], sizes[0], 0), filled(sizes[1], sizes[1], 0)
		for i := range zeroA {
			for k := range zeroB {
				a, b := with(zeroA, i, (i+1)%sizes[0], 1000), with(zeroB, (k+1)%sizes[1], k, 1000)
				checkTwo(t, a, b)
				for _, pair := range [][2][][]int{{times(a, 2), b}, {with(zeroA, i, (i+1)%sizes[0], 1001), b}, {a, with(zeroB, (k+1)%sizes[1], k, 1001)}, {times(a, 1000), times(b, 1000)}} {
					got, ok := impl.PairGraph(pair[0], pair[1])
					checkResult(t, got, ok, nil, false, "PairGraph", pair[0], pair[1])
					got, ok = impl.PairGraph(pair[1], pair[0])
					checkResult(t, got, ok, nil, false, "PairGraph", pair[1], pair[0])
				}
			}
		}
	}
}

// When a and b are exchanged, the same graph has its vertices in another order.
func TestJoinGraphsAndPairGraphExchanged(t *testing.T) {
	for sizeA := 1; sizeA <= impl.MaxSize; sizeA++ {
		for sizeB := 1; sizeB <= impl.MaxSize; sizeB++ {
			a, b := numbered(sizeA, 3), numbered(sizeB, 50)
			if joined, ok := impl.JoinGraphs(a, b); ok {
				var order []int
				for v := range joined {
					order = append(order, (v+sizeA)%len(joined))
				}
				got, ok := impl.JoinGraphs(b, a)
				checkResult(t, got, ok, renumbered(joined, order), true, "JoinGraphs", b, a)
				if equalRows(got, joined) {
					t.Errorf("JoinGraphs(%v, %v) has the same order when both are exchanged", a, b)
				}
			}
			if pairs, ok := impl.PairGraph(a, b); ok {
				var order []int
				for k := range b {
					for i := range a {
						order = append(order, i*sizeB+k)
					}
				}
				got, ok := impl.PairGraph(b, a)
				checkResult(t, got, ok, renumbered(pairs, order), true, "PairGraph", b, a)
				if equalRows(got, pairs) != (sizeA == 1 || sizeB == 1) {
					t.Errorf("PairGraph(%v, %v) = %v; exchanged: %v", a, b, pairs, got)
				}
			}
		}
	}
}

// Closed paths of two graphs side by side are those of either; those of pairs are pairs of closed paths.
func TestClosedPathsOfTwoGraphs(t *testing.T) {
	list := slices.Concat(someGraphs(), fewArcs())
	for i, a := range list {
		for j := i % 37; j < len(list); j += 37 {
			b := list[j]
			closedA, closedB := closedByHand(a, 5), closedByHand(b, 5)
			sums, products := make([]int, 5), make([]int, 5)
			for n := range 5 {
				sums[n], products[n] = closedA[n]+closedB[n], closedA[n]*closedB[n]
			}
			if joined, ok := impl.JoinGraphs(a, b); ok && !slices.Equal(closedByHand(joined, 5), sums) {
				t.Errorf("JoinGraphs(%v, %v) has the numbers of closed paths %v; want %v", a, b, closedByHand(joined, 5), sums)
			}
			if pairs, ok := impl.PairGraph(a, b); ok && !slices.Equal(closedByHand(pairs, 5), products) {
				t.Errorf("PairGraph(%v, %v) has the numbers of closed paths %v; want %v", a, b, closedByHand(pairs, 5), products)
			}
		}
	}
}

func TestTwoGraphsOfWhichOneIsNone(t *testing.T) {
	check := func(a, b [][]int) {
		t.Helper()
		got, ok := impl.JoinGraphs(a, b)
		checkResult(t, got, ok, nil, false, "JoinGraphs", a, b)
		got, ok = impl.PairGraph(a, b)
		checkResult(t, got, ok, nil, false, "PairGraph", a, b)
		if impl.IsBlockOf(a, b) {
			t.Errorf("IsBlockOf(%v, %v) = true", a, b)
		}
	}
	others := [][][]int{rowsOf("0"), rowsOf("1"), rowsOf("2"), rowsOf("1000000"), rowsOf("1,1/1,0"), rowsOf("0,0/0,0"), filled(9, 9, 0), filled(9, 9, 1), unit(9), nil, {}, {nil}, {{}}, filled(1, 1, -1), filled(1, 1, math.MinInt)}
	for _, m := range noMatrices() {
		check(m, m)
		for _, other := range others {
			check(m, other)
			check(other, m)
		}
	}
}

func TestIsBlockOf(t *testing.T) {
	for _, c := range []struct {
		m, n string
		want bool
	}{
		{"2", "1,1/1,1", true}, {"2", "2", false}, {"1", "1", true}, {"1,1/1,0", "1,1,0/0,0,1/1,1,0", true}, {"1,1/1,0", "1,1/1,0", false}, {"1,1,0/0,0,1/1,1,0", "1,1/1,0", false}, {"0,1/1,0", "0,1/1,0", true}, {"0,1,0/0,0,1/1,0,0", "0,1,0/0,0,1/1,0,0", true},
		{"0", "0", false}, {"0", "1", false}, {"0,0/0,0", "0,0/0,0", false}, {"0,0/0,0", "0", false}, {"0,1/0,0", "0", true}, {"0,1/0,0", "1", false}, {"0,1/0,0", "0,0/0,0", false}, {"0,2/0,0", "0,0/0,0", true}, {"0,2/0,0", "0", false}, {"0,2/0,0", "0,0,0/0,0,0/0,0,0", false},
		// The same arcs in another order.
		{"1,1/1,0", "0,1,0/0,1,1/1,0,0", false}, {"0,1/1,1", "0,1,1/1,0,0/0,1,1", true}, {"0,1/1,1", "1,1,0/0,0,1/1,1,0", false}, {"0,2/1,0", "0,0,1/0,0,1/1,1,0", true}, {"0,1/2,0", "0,0,1/0,0,1/1,1,0", false},
		// Turned.
		{"1,2/0,1", "1,1,1,0/0,0,0,1/0,0,0,1/0,0,0,1", true}, {"1,2/0,1", "1,0,0,0/1,0,0,0/1,0,0,0/0,1,1,1", false}, {"1,0/2,1", "1,0,0,0/1,0,0,0/1,0,0,0/0,1,1,1", true},
		{"10", "1", false}, {"60", "60", false}, {"61", "61", false},
	} {
		if got := impl.IsBlockOf(rowsOf(c.m), rowsOf(c.n)); got != c.want {
			t.Errorf("IsBlockOf(%q, %q) = %v", c.m, c.n, got)
		}
	}
	for _, m := range slices.Concat(fewArcs(), [][][]int{rowsOf("9"), unit(9), filled(3, 3, 1), rowsOf("0,9/0,0")}) {
		block, ok := blockByHand(m)
		if !ok {
			continue
		}
		if !impl.IsBlockOf(m, block) {
			t.Errorf("IsBlockOf(%v, %v) = false", m, block)
		}
		for _, n := range nearTables(block) {
			if impl.IsBlockOf(m, n) {
				t.Errorf("IsBlockOf(%v, %v) = true", m, n)
			}
		}
	}
}

// nearTables differ from the matrix in one number, or in their size.
func nearTables(m [][]int) [][][]int {
	size := len(m)
	list := [][][]int{
		nil, {}, {nil}, m[1:], m[:size-1], append(copyRows(m), nil), append(copyRows(m), m[0]), append(copyRows(m), filled(1, size, 0)...), append([][]int{nil}, m...), beside(m, rowsOf("0")), beside(rowsOf("0"), m), beside(m, rowsOf("1")), filled(size, 0, 0),
	}
	for i, row := range m {
		long, short, none := copyRows(m), copyRows(m), copyRows(m)
		long[i], short[i], none[i] = append(long[i], 0), row[1:], nil
		list = append(list, long, short, none)
		for j, n := range row {
			list = append(list, with(m, i, j, 1-n), with(m, i, j, n+2), with(m, i, j, -1), with(m, i, j, impl.MaxEntry), with(m, i, j, impl.MaxEntry+1), with(m, i, j, math.MinInt), with(m, i, j, math.MaxInt))
		}
	}
	return list
}

func TestIsBlockOfAllPairs(t *testing.T) {
	var list [][][]int
	for size := 1; size <= 2; size++ {
		eachMatrix(size, []int{0, 1, 2}, func(m [][]int) { list = append(list, m) })
	}
	list = slices.Concat(list, fewArcs()[:200], noMatrices()[:30])
	for _, m := range list {
		var want [][]int
		accepted := false
		if impl.IsMatrix(m) {
			want, accepted = blockByHand(m)
		}
		for _, n := range list {
			if got := impl.IsBlockOf(m, n); got != (accepted && equalRows(want, n)) {
				t.Errorf("IsBlockOf(%v, %v) = %v", m, n, got)
			}
		}
	}
}

func blockMakers() []namedResult {
	list := []namedResult{
		{"BlockGraph", func(a, b [][]int) [][]int {
			m, _ := impl.BlockGraph(a)
			return m
		}},
		{"JoinGraphs", func(a, b [][]int) [][]int {
			m, _ := impl.JoinGraphs(a, b)
			return m
		}},
		{"PairGraph", func(a, b [][]int) [][]int {
			m, _ := impl.PairGraph(a, b)
			return m
		}},
	}
	for _, n := range []int{-1, 0, 1, 2, 30, 31} {
		list = append(list, namedResult{"PowerGraph " + strconv.Itoa(n), func(a, b [][]int) [][]int {
			m, _ := impl.PowerGraph(a, n)
			return m
		}})
	}
	return list
}

func TestBlockFunctionsKeepTheirArguments(t *testing.T) {
	for _, m := range slices.Concat(someMatrices(), someGraphs(), fewArcs()[:300], noGraphs()) {
		for _, other := range [][][]int{m, rowsOf("1"), rowsOf("1,2/3,4"), nil, rowsOf("1,2")} {
			checkKeptPair(t, m, other, blockMakers(), func(a, b [][]int) {
				impl.IsBlockOf(a, b)
				impl.IsBlockOf(b, a)
				impl.IsBlockOf(a, a)
			})
		}
		if block, ok := impl.BlockGraph(m); ok {
			checkKeptPair(t, m, block, nil, func(a, b [][]int) { impl.IsBlockOf(a, b) })
		}
	}
}

func TestBlocksAreNewMemory(t *testing.T) {
	for _, m := range slices.Concat(someMatrices(), someGraphs(), fewArcs()) {
		for _, f := range blockMakers() {
			checkNewMemory(t, f.name, m, func() [][]int { return f.make(m, m) })
			checkNewMemory(t, f.name+" with 2 vertices", m, func() [][]int { return f.make(m, rowsOf("0,1/1,1")) })
		}
	}
}

func TestBlockWordsKeepForbidden(t *testing.T) {
	for _, given := range slices.Concat(fewShifts(t), noShifts(), []impl.Shift{shiftOf(3, "ba ca cb")}) {
		s, whole := spareShift(given)
		before := slices.Clone(whole)
		for n := -1; n <= 5; n++ {
			kept := impl.BlockWords(s, n)
			want := slices.Clone(kept)
			overwrite(impl.BlockWords(s, n))
			if got := impl.BlockWords(s, n); !slices.Equal(got, want) || !slices.Equal(kept, want) {
				t.Fatalf("BlockWords(%#v, %d) = %q and %q after another result was changed; want %q", s, n, kept, got, want)
			}
			if !slices.Equal(whole, before) {
				t.Fatalf("BlockWords(%#v, %d) changed a list to %q; want %q", given, n, whole, before)
			}
		}
	}
}
