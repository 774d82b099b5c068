package tests

import (
	"math"
	"math/rand"
	"slices"
	"strconv"
	"strings"
	"testing"

	"loop.example/g03103/impl"
)

const mostCounted = 20

// notCounted are lengths beyond the limits.
var notCounted = []int{-1, -2, -20, 21, 22, 30, 31, 256, 256 + 3, 1 << 32, 1<<32 + 3, -1 << 32, math.MinInt, math.MinInt + 1, math.MaxInt}

// pointless are shifts without points.
var pointless = []string{
	"1 a", "1 aa", "1 aaa", "1 a aa aaa", "2 a b", "2 aa b", "2 aaa b", "2 aa ab bb", "2 aa ba bb", "2 aa aba bb", "2 aaa ab bb", "2 aaa ab bbb", "2 " + eightWords, "2 a aa aaa aab ab b bb bbb",
	"3 a b c", "3 a b cc", "3 a b ccc", "3 aa ba bb ca cb cc", "3 aaa ba bbb ca cb ccc", "3 aa ba bb cab cac cb cc", "3 aa ab ac ba bb ca cb cc",
}

// randomShifts have 3 letters and from 3 to 8 Forbidden words.
func randomShifts(seed int64, count int) []impl.Shift {
	random := rand.New(rand.NewSource(seed))
	words := shortWords(3)
	var list []impl.Shift
	for range count {
		forbidden := map[string]bool{}
		for size := 3 + random.Intn(6); len(forbidden) < size; {
			forbidden[words[random.Intn(len(words))]] = true
		}
		var kept []string
		for _, w := range words {
			if forbidden[w] {
				kept = append(kept, w)
			}
		}
		list = append(list, impl.Shift{Letters: 3, Forbidden: kept})
	}
	return list
}

// manyShifts are more than eachShift gives.
func manyShifts(visit func(impl.Shift)) {
	eachShift(visit)
	for _, s := range slices.Concat(someShifts(), randomShifts(9, 1500)) {
		visit(s)
	}
}

// fewShifts are of every kind, with points and without.
func fewShifts(t *testing.T) []impl.Shift {
	list := slices.Clone(someShifts()[:19])
	for _, text := range slices.Concat(pointless, []string{
		"2 b", "2 a", "2 ab", "2 ab ba", "2 ab bb", "2 b bb", "2 b ba bb", "2 aa aab", "2 aaa bbb", "2 aab aba abb baa bab bba", "3 c", "3 b c", "3 bb", "3 c cc", "3 ab ba ca cb", "3 aaa aab aac aba abb abc aca acb",
		"2 aaa aab aba abb baa bab bba", "3 aa ab ac ba bb bc ca cb", "3 ac bc ca cb", "1 ",
	}) {
		list = append(list, mustShift(t, text))
	}
	return append(list, randomShifts(90, 20)...)
}

// graphByHand puts 1 between the two parts of each of the words of 3 letters.
func graphByHand(states, arcs []string) [][]int {
	graph := filled(len(states), len(states), 0)
	for i, u := range states {
		for j, v := range states {
			if u[1] == v[0] && slices.Contains(arcs, u+v[1:]) {
				graph[i][j] = 1
			}
		}
	}
	return graph
}

// countsByHand returns the numbers of words of the lengths 0 to most whose parts of 3 letters are in the language, which is given up to this length.
func countsByHand(lists [][]string, most int) []int {
	counts := []int{len(lists[0]), len(lists[1])}
	ends := map[string]int{}
	for _, w := range lists[2] {
		ends[w] = 1
	}
	for len(counts) <= most {
		sum := 0
		for _, count := range ends {
			sum += count
		}
		counts = append(counts, sum)
		next := map[string]int{}
		for _, w := range lists[3] {
			next[w[1:]] += ends[w[:2]]
		}
		ends = next
	}
	return counts
}

// forbiddenByHand returns the words up to 3 letters that are not in the language, but all of whose other parts are.
func forbiddenByHand(k int, lists [][]string) []string {
	var forbidden []string
	for _, w := range shortWords(k) {
		least := !slices.Contains(lists[len(w)], w)
		for from := range w {
			for to := from; to <= len(w); to++ {
				if to-from < len(w) {
					least = least && slices.Contains(lists[to-from], w[from:to])
				}
			}
		}
		if least {
			forbidden = append(forbidden, w)
		}
	}
	return forbidden
}

// describe writes any shift, also one with other bytes in its words.
func describe(s impl.Shift) string {
	return strconv.Itoa(s.Letters) + " " + strconv.Quote(strings.Join(s.Forbidden, " "))
}

func checkShift(t *testing.T, name string, got impl.Shift, ok bool, want impl.Shift, accepted bool) {
	t.Helper()
	if ok != accepted || !equalShift(got, want) {
		t.Errorf("%s = %#v, %v; want %#v, %v", name, got, ok, want, accepted)
	}
}

// checkPresented compares all functions of one shift with its language.
func checkPresented(t *testing.T, s impl.Shift) {
	t.Helper()
	lists := languages(s, 3)
	if got := impl.StatesOf(s); !slices.Equal(got, lists[2]) {
		t.Errorf("StatesOf(%#v) = %q; want %q", s, got, lists[2])
	}
	hasPoints := len(lists[0]) > 0
	var want [][]int
	if hasPoints {
		want = graphByHand(lists[2], lists[3])
	}
	graph, ok := impl.GraphOf(s)
	if ok != hasPoints || !equalRows(graph, want) {
		t.Errorf("GraphOf(%#v) = %v, %v; want %v, %v", s, graph, ok, want, hasPoints)
	}
	for n, want := range countsByHand(lists, mostCounted) {
		if got := impl.CountWords(s, n); got != want {
			t.Errorf("CountWords(%#v, %d) = %d; want %d", s, n, got, want)
		}
	}
	if got := impl.IsConnected(s); got != (hasPoints && allOnes(expectedOf(want).reach)) {
		t.Errorf("IsConnected(%#v) = %v", s, got)
	}
	least := impl.Shift{}
	if hasPoints {
		least = impl.Shift{Letters: s.Letters, Forbidden: forbiddenByHand(s.Letters, lists)}
	}
	got, ok := impl.ForbiddenOf(s)
	checkShift(t, "ForbiddenOf of "+describe(s), got, ok, least, hasPoints)
}

func allOnes(m [][]int) bool {
	return !slices.ContainsFunc(m, func(row []int) bool { return slices.Contains(row, 0) })
}

func TestGraphsOfManyShifts(t *testing.T) {
	manyShifts(func(s impl.Shift) {
		t.Helper()
		checkPresented(t, s)
	})
	for _, s := range fewShifts(t) {
		checkPresented(t, s)
	}
}

// spelled returns the words of the paths of n arcs, in the order of the paths.
func spelled(states []string, graph [][]int, n int) []string {
	arcs := arcsByHand(graph)
	var words []string
	for _, path := range impl.PathsOf(graph, n) {
		w := states[arcs[path[0]][0]]
		for _, arc := range path {
			w += states[arcs[arc][1]][1:]
		}
		words = append(words, w)
	}
	return words
}

// P9.
func TestWordsOfAShiftArePathsOfItsGraph(t *testing.T) {
	check := func(s impl.Shift, most int) {
		t.Helper()
		graph, ok := impl.GraphOf(s)
		states := impl.StatesOf(s)
		if ok != (len(states) > 0) || ok && !impl.IsGraph(graph) || ok && !impl.IsLively(graph) || len(graph) != len(states) {
			t.Fatalf("GraphOf(%#v) = %v, %v; its states are %q", s, graph, ok, states)
		}
		for n, words := range languages(s, most) {
			if got := impl.CountWords(s, n); got != len(words) {
				t.Errorf("CountWords(%#v, %d) = %d; the words are %q", s, n, got, words)
			}
			if n < 3 || !ok || len(words) > 500 {
				continue
			}
			// Paths ascend as their words do.
			if got := spelled(states, graph, n-2); !slices.Equal(got, words) {
				t.Errorf("%#v: the paths of %d arcs are %q; the words are %q", s, n-2, got, words)
			}
		}
		for n := 2; n <= mostCounted; n++ {
			paths := impl.CountPaths(graph, n-2)
			if got := impl.CountWords(s, n); got != paths && paths != -1 {
				t.Errorf("CountWords(%#v, %d) = %d; there are %d paths", s, n, got, paths)
			}
		}
	}
	manyShifts(func(s impl.Shift) { check(s, 4) })
	for _, s := range fewShifts(t) {
		check(s, 6)
	}
}

func TestStatesOf(t *testing.T) {
	for _, c := range []struct {
		text, want string
	}{
		{"2 bb", "aa ab ba"}, {"2", "aa ab ba bb"}, {"1", "aa"}, {"3", "aa ab ac ba bb bc ca cb cc"}, {"2 aa bb", "ab ba"}, {"2 ab", "aa ba bb"}, {"2 ab ba", "aa bb"}, {"3 ab bc ca", "aa ac ba bb cb cc"},
		{"2 aab", "aa ab ba bb"}, {"2 aab ba", "aa bb"}, {"2 aba bab", "aa ab ba bb"}, {"3 aa bb cc", "ab ac ba bc ca cb"}, {"3 c", "aa ab ba bb"}, {"3 b", "aa ac ca cc"}, {"3 a", "bb bc cb cc"}, {"3 b c", "aa"}, {"3 a b", "cc"},
		// Pairs that avoid the words, but that no point goes through.
		{"2 ba bb", "aa"}, {"2 ab bb", "aa"}, {"2 aab bab", "aa ba bb"}, {"2 aaa aab", "ab ba bb"}, {"2 aaa baa", "ab ba bb"}, {"3 bb ca cb cc", "aa ab ba"}, {"3 aa ac bb bc ca cb", "ab ba cc"}, {"3 aab bab cab", "aa ac ba bb bc ca cb cc"},
		{"2 b", "aa"}, {"2 a", "bb"}, {"2 b bb", "aa"}, {"2 aaa aab aba abb baa bab bba", "bb"}, {"1 a", ""}, {"1 aaa", ""}, {"2 a b", ""}, {"2 " + eightWords, ""}, {"3 aa ba bb ca cb cc", ""},
	} {
		s := mustShift(t, c.text)
		if got := impl.StatesOf(s); !slices.Equal(got, strings.Fields(c.want)) || !slices.Equal(got, impl.LanguageOf(s, 2)) {
			t.Errorf("StatesOf(%q) = %q; want %q", c.text, got, c.want)
		}
	}
}

func TestGraphOf(t *testing.T) {
	for _, c := range []struct {
		text, want string
	}{
		{"2 bb", "1,1,0/0,0,1/1,1,0"}, {"2", "1,1,0,0/0,0,1,1/1,1,0,0/0,0,1,1"}, {"1", "1"}, {"2 aa bb", "0,1/1,0"}, {"2 ab", "1,0,0/1,0,0/0,1,1"}, {"2 ab ba", "1,0/0,1"}, {"2 aab", "1,0,0,0/0,0,1,1/1,1,0,0/0,0,1,1"},
		{"2 aba bab", "1,1,0,0/0,0,0,1/1,0,0,0/0,0,1,1"}, {"2 ba bb", "1"}, {"2 b", "1"}, {"2 a", "1"}, {"2 b bb", "1"}, {"3 b c", "1"}, {"2 aaa aab", "0,1,1/1,0,0/0,1,1"}, {"3 c", "1,1,0,0/0,0,1,1/1,1,0,0/0,0,1,1"},
		{"3 ab bc ca", "1,1,0,0,0,0/0,0,0,0,1,1/1,1,0,0,0,0/0,0,1,1,0,0/0,0,1,1,0,0/0,0,0,0,1,1"}, {"2 aaa", "0,1,0,0/0,0,1,1/1,1,0,0/0,0,1,1"}, {"2 bba", "1,1,0,0/0,0,1,1/1,1,0,0/0,0,0,1"},
		// Without one word of 3 letters, 9 states, as without any.
		{"3", "1,1,1,0,0,0,0,0,0/0,0,0,1,1,1,0,0,0/0,0,0,0,0,0,1,1,1/1,1,1,0,0,0,0,0,0/0,0,0,1,1,1,0,0,0/0,0,0,0,0,0,1,1,1/1,1,1,0,0,0,0,0,0/0,0,0,1,1,1,0,0,0/0,0,0,0,0,0,1,1,1"},
		{"3 cac", "1,1,1,0,0,0,0,0,0/0,0,0,1,1,1,0,0,0/0,0,0,0,0,0,1,1,1/1,1,1,0,0,0,0,0,0/0,0,0,1,1,1,0,0,0/0,0,0,0,0,0,1,1,1/1,1,0,0,0,0,0,0,0/0,0,0,1,1,1,0,0,0/0,0,0,0,0,0,1,1,1"},
	} {
		got, ok := impl.GraphOf(mustShift(t, c.text))
		checkResult(t, got, ok, rowsOf(c.want), true, "GraphOf", c.text)
	}
}

func TestCountWords(t *testing.T) {
	for _, c := range []struct {
		text string
		// The numbers of words of the lengths 0, 1, 2, 3 and 20.
		want [5]int
	}{
		{"1", [5]int{1, 1, 1, 1, 1}}, {"2", [5]int{1, 2, 4, 8, 1 << 20}}, {"3", [5]int{1, 3, 9, 27, 3486784401}}, {"2 bb", [5]int{1, 2, 3, 5, 17711}}, {"2 aa bb", [5]int{1, 2, 2, 2, 2}}, {"2 ab", [5]int{1, 2, 3, 4, 21}},
		{"2 ab ba", [5]int{1, 2, 2, 2, 2}}, {"2 ba bb", [5]int{1, 1, 1, 1, 1}}, {"2 b", [5]int{1, 1, 1, 1, 1}}, {"3 ab bc ca", [5]int{1, 3, 6, 12, 3 << 19}}, {"3 aa bb cc", [5]int{1, 3, 6, 12, 3 << 19}}, {"3 c", [5]int{1, 2, 4, 8, 1 << 20}},
		{"3 b c", [5]int{1, 1, 1, 1, 1}}, {"3 ba ca cb", [5]int{1, 3, 6, 10, 231}}, {"3 aaa", [5]int{1, 3, 9, 26, 2119349824}}, {"2 aaa", [5]int{1, 2, 4, 7, 223317}}, {"2 aaa bbb", [5]int{1, 2, 4, 6, 21892}}, {"3 cc", [5]int{1, 3, 8, 22, 578272256}},
		{"1 a", [5]int{}}, {"1 aa", [5]int{}}, {"1 aaa", [5]int{}}, {"2 a b", [5]int{}}, {"2 " + eightWords, [5]int{}}, {"3 aa ba bb ca cb cc", [5]int{}},
	} {
		s := mustShift(t, c.text)
		for i, n := range []int{0, 1, 2, 3, 20} {
			if got := impl.CountWords(s, n); got != c.want[i] {
				t.Errorf("CountWords(%q, %d) = %d; want %d", c.text, n, got, c.want[i])
			}
		}
	}
	for n := range mostCounted + 1 {
		for k := 1; k <= 3; k++ {
			if got := impl.CountWords(shiftOf(k, ""), n); got != power(k, n) {
				t.Errorf("CountWords of all words with %d letters and %d = %d; want %d", k, n, got, power(k, n))
			}
		}
	}
	if got := impl.CountWords(shiftOf(2, "bb"), 5); got != 13 {
		t.Errorf("CountWords of 2 bb and 5 = %d; want 13", got)
	}
}

// The numbers of words grow beyond those that a matrix may have.
func TestCountWordsBeyondMaxEntry(t *testing.T) {
	for _, c := range []struct {
		text string
		// From this number of arcs on there are no powers of the graph.
		first int
	}{
		{"3", 15}, {"3 aaa", 15}, {"3 cc", 16}, {"3 abc cba", 16},
	} {
		s := mustShift(t, c.text)
		graph, _ := impl.GraphOf(s)
		counts := countsByHand(languages(s, 3), mostCounted)
		for n := 2; n <= mostCounted; n++ {
			paths := impl.CountPaths(graph, n-2)
			if (paths == -1) != (n-2 >= c.first) {
				t.Errorf("CountPaths of the graph of %q and %d = %d", c.text, n-2, paths)
			}
			if got := impl.CountWords(s, n); got != counts[n] {
				t.Errorf("CountWords(%q, %d) = %d; want %d", c.text, n, got, counts[n])
			}
		}
	}
}

func TestCountWordsBeyondTheLimits(t *testing.T) {
	for _, s := range fewShifts(t) {
		for _, n := range notCounted {
			if got := impl.CountWords(s, n); got != -1 {
				t.Errorf("CountWords(%#v, %d) = %d; want -1", s, n, got)
			}
		}
	}
}

func TestIsConnected(t *testing.T) {
	for _, c := range []struct {
		text string
		want bool
	}{
		{"1", true}, {"2", true}, {"3", true}, {"2 bb", true}, {"3 ab bc ca", true}, {"2 aba bab", true}, {"3 aa bb cc", true}, {"3 c", true}, {"3 bb", true},
		// One point; two points in one graph; points that are apart.
		{"2 b", true}, {"2 a", true}, {"2 ba bb", true}, {"3 b c", true}, {"2 aa bb", true}, {"3 aa ab bb bc ca cc", true}, {"3 aa ac ba bb cb cc", true}, {"2 ab ba", false}, {"2 aab ba", false}, {"3 aa ac bb bc ca cb", false}, {"3 ab ba c", false},
		{"3 aaa ab ac ba bb ca", true}, {"3 ac bc ca cb", false}, {"3 ab ac ba bc ca cb", false},
		// Paths in one direction only.
		{"2 ab", false}, {"2 ba", false}, {"3 ba ca cb", false}, {"2 aab", false}, {"2 baa", false}, {"2 bab", true}, {"3 ca cb", false}, {"3 ac bc", false}, {"2 aab aba", false}, {"2 aab bba", false}, {"2 aaa bbb", true}, {"2 aab abb", false},
		{"1 a", false}, {"1 aaa", false}, {"2 a b", false}, {"2 " + eightWords, false}, {"3 aa ba bb ca cb cc", false},
	} {
		if got := impl.IsConnected(mustShift(t, c.text)); got != c.want {
			t.Errorf("IsConnected(%q) = %v", c.text, got)
		}
	}
}

func TestForbiddenOf(t *testing.T) {
	for _, c := range []struct {
		text, want string
	}{
		{"2 ba bb", "2 b"}, {"1", "1"}, {"2", "2"}, {"3", "3"}, {"2 bb", "2 bb"}, {"3 ab bc ca", "3 ab bc ca"}, {"2 aab", "2 aab"}, {"2 aba bab", "2 aba bab"}, {"2 aab bab", "2 ab"}, {"3 bb ca cb cc", "3 bb c"},
		// A letter that no point has.
		{"2 b", "2 b"}, {"2 a", "2 a"}, {"3 c", "3 c"}, {"3 b c", "3 b c"}, {"3 a c", "3 a c"}, {"2 ab bb", "2 b"}, {"3 b bb c", "3 b c"},
		// Words that forbid nothing more than others do.
		{"2 b bb", "2 b"}, {"2 b bab bbb", "2 b"}, {"2 aa aaa", "2 aa"}, {"2 aa aab baa", "2 aa"}, {"2 bb bbb", "2 bb"}, {"3 aab ab bab", "3 ab"}, {"2 a aa aaa aab ab", "2 a"}, {"2 abb bb bba", "2 bb"},
		// Words that are not in the language without being Forbidden.
		{"2 aaa aab", "2 aa"}, {"2 aaa baa", "2 aa"}, {"2 aab ba", "2 ab ba"}, {"2 abb ba", "2 ab ba"}, {"2 aaa ab", "2 a"}, {"3 aaa aab aac", "3 aa"}, {"3 ca cb ccc", "3 c"}, {"3 ac bc ccc", "3 c"}, {"3 aab bab cab", "3 ab"},
		{"3 ba bb bc", "3 b"}, {"3 ab ac bb cb", "3 ac b"}, {"3 ba bb ca cb ccc", "3 b c"}, {"3 bca cb cc", "3 bc cb cc"}, {"3 aa ba bb cab cb cc", "3 aa b cc"},
	} {
		got, ok := impl.ForbiddenOf(mustShift(t, c.text))
		checkShift(t, "ForbiddenOf of "+c.text, got, ok, mustShift(t, c.want), true)
	}
	for _, text := range pointless {
		got, ok := impl.ForbiddenOf(mustShift(t, text))
		checkShift(t, "ForbiddenOf of "+text, got, ok, impl.Shift{}, false)
	}
}

// countMissing returns the number of words up to 3 letters that are not in the language, whether their parts are or not.
func countMissing(s impl.Shift) int {
	missing := slices.DeleteFunc(shortWords(s.Letters), func(w string) bool { return impl.InLanguage(s, w) })
	return len(missing)
}

func TestForbiddenOfAtTheLimit(t *testing.T) {
	for _, c := range []struct {
		text    string
		missing int
		want    string
	}{
		// All words up to 3 letters that are not in the language are 8, or more, but those whose other parts all are in it are fewer.
		{"2 aa bb", 8, "2 aa bb"}, {"2 ab ba", 8, "2 ab ba"}, {"2 aab ba", 8, "2 ab ba"}, {"2 b", 11, "2 b"}, {"2 ba bb", 11, "2 b"}, {"2 aaa aab aba abb baa bab bba", 11, "2 a"},
		{"3 c", 25, "3 c"}, {"3 ab bc ca", 18, "3 ab bc ca"}, {"3 ba bb ca cb ccc", 36, "3 b c"}, {"3 aa ab ac ba bb bc ca cb", 36, "3 a b"}, {"3 aaa aab aac aba abb abc aca acb", 14, "3 aa ab aca acb"},
		// Those whose other parts all are in it are 8, too.
		{"3 aaa abb acc bab bbc bca cac cbb", 8, "3 aaa abb acc bab bbc bca cac cbb"}, {"3 aab aac baa bac bca cab cb cc", 21, "3 aab aac baa bac bc cab cb cc"}, {"3 aaa abb acb bab bba bc caa cc", 21, "3 aaa abb bab bba bc caa cb cc"},
		{"3 aa abb abc bac bba bbb ca cc", 24, "3 aa abb abc ac bba bbb ca cc"}, {"3 aac ab aca acb bb bcc caa cba", 21, "3 aac ab aca acb ba bb bcc caa"},
	} {
		s := mustShift(t, c.text)
		if got := countMissing(s); got != c.missing {
			t.Errorf("%q has %d missing words; want %d", c.text, got, c.missing)
		}
		got, ok := impl.ForbiddenOf(s)
		checkShift(t, "ForbiddenOf of "+c.text, got, ok, mustShift(t, c.want), true)
	}
}

// The words of ForbiddenOf are never more than the Forbidden words: each letter takes the one that repeats it, and each longer word takes itself or, as one
// of its sides cannot be continued, the one that forbids to continue it by a pair that can be.
func TestForbiddenOfHasTheSameLanguage(t *testing.T) {
	check := func(s impl.Shift) {
		t.Helper()
		least, ok := impl.ForbiddenOf(s)
		if ok == impl.IsEmptyShift(s) || len(least.Forbidden) > len(s.Forbidden) {
			t.Errorf("ForbiddenOf(%#v) = %#v, %v", s, least, ok)
		}
		if !ok {
			return
		}
		again, ok := impl.ForbiddenOf(least)
		if !impl.IsShift(least) || !impl.AreSameShift(s, least) || !impl.AreSameShift(least, s) || !ok || !equalShift(again, least) {
			t.Errorf("ForbiddenOf(%#v) = %#v, and of that %#v", s, least, again)
		}
		for n := range 7 {
			if !slices.Equal(impl.LanguageOf(s, n), impl.LanguageOf(least, n)) {
				t.Errorf("ForbiddenOf(%#v) = %#v; the words of length %d differ", s, least, n)
			}
		}
		for i := range least.Forbidden {
			if fewer := (impl.Shift{Letters: s.Letters, Forbidden: slices.Delete(slices.Clone(least.Forbidden), i, i+1)}); impl.AreSameShift(s, fewer) {
				t.Errorf("ForbiddenOf(%#v) = %#v; %q is too much", s, least, least.Forbidden[i])
			}
		}
	}
	for _, s := range slices.Concat(someShifts(), randomShifts(19, 2000), fewShifts(t)) {
		check(s)
	}
}

func TestAreSameShift(t *testing.T) {
	for _, c := range []struct {
		s, t string
		want bool
	}{
		{"2 ba bb", "2 b", true}, {"2 ab bb", "2 b", true}, {"2 ab bb", "2 ba bb", true}, {"2 bb", "2", false}, {"2 bb", "2 bb", true}, {"1", "1", true}, {"2", "2", true}, {"3", "3", true}, {"2 bb", "2 bb bbb", true}, {"2 aa", "2 bb", false},
		{"2 aab ba", "2 ab ba", true}, {"2 ab", "2 ba", false}, {"2 aab", "2 baa", false}, {"3 aaa aab aac", "3 aa", true}, {"3 aaa aab", "3 aa", false}, {"3 ba bb bc", "3 b", true}, {"3 ba bb ca cb ccc", "3 b c", true}, {"3 b c", "3 a c", false},
		// The words of 2 letters are the same, those of 3 are not.
		{"2 aaa", "2", false}, {"2 aba", "2 bab", false}, {"2 aab abb", "2 aab", false}, {"3 abc", "3", false}, {"3 ccc", "3 cbc", false},
		// With different Letters, the languages of which are equal for some.
		{"2 b", "1", false}, {"3 b c", "1", false}, {"3 c", "2", false}, {"3 bb c", "2 bb", false}, {"2", "3", false}, {"1", "2", false}, {"2 bb", "3 bb", false},
		// Without points.
		{"1 a", "1 a", true}, {"1 a", "1 aaa", true}, {"2 a b", "2 aaa ab bbb", true}, {"2 " + eightWords, "2 a b", true}, {"3 a b c", "3 aa ba bb ca cb cc", true}, {"1 a", "1", false}, {"2 a b", "2 b", false}, {"3 a b c", "3", false},
		{"1 a", "2 a b", false}, {"2 a b", "3 a b c", false}, {"1 aaa", "3 a b c", false}, {"1 a", "2 b", false}, {"1 a", "2", false},
	} {
		s, other := mustShift(t, c.s), mustShift(t, c.t)
		if got, turned := impl.AreSameShift(s, other), impl.AreSameShift(other, s); got != c.want || turned != c.want {
			t.Errorf("AreSameShift(%q, %q) = %v and %v", c.s, c.t, got, turned)
		}
	}
}

func TestAreSameShiftOfAllPairs(t *testing.T) {
	list := fewShifts(t)
	eachListOf(shortWords(2), 2, func(forbidden []string) { list = append(list, impl.Shift{Letters: 2, Forbidden: forbidden}) })
	eachListOf(shortWords(1), 3, func(forbidden []string) { list = append(list, impl.Shift{Letters: 1, Forbidden: forbidden}) })
	var words [][][]string
	for _, s := range list {
		words = append(words, languages(s, 4))
	}
	same := 0
	for i, s := range list {
		for j, other := range list {
			want := s.Letters == other.Letters && slices.EqualFunc(words[i], words[j], slices.Equal[[]string])
			if want && i != j {
				same++
			}
			if got := impl.AreSameShift(s, other); got != want {
				t.Errorf("AreSameShift(%#v, %#v) = %v", s, other, got)
			}
		}
	}
	if same < 100 {
		t.Errorf("only %d pairs have the same language", same)
	}
}

func TestMeetShifts(t *testing.T) {
	for _, c := range []struct {
		s, t, want string
	}{
		{"2 aa", "2 bb", "2 aa bb"}, {"2 bb", "2 aa", "2 aa bb"}, {"1", "1", "1"}, {"2", "2", "2"}, {"3", "3", "3"}, {"2", "2 bb", "2 bb"}, {"2 bb", "2", "2 bb"}, {"1 a", "1", "1 a"}, {"1 a", "1 aaa", "1 a aaa"}, {"1 aa", "1 a aaa", "1 a aa aaa"},
		// Words that forbid nothing more than others do are kept, too, and the points may be none.
		{"2 b", "2 bb", "2 b bb"}, {"2 bb", "2 b", "2 b bb"}, {"2 a", "2 b", "2 a b"}, {"2 ba", "2 bb", "2 ba bb"}, {"3 a b", "3 c", "3 a b c"}, {"3 ca", "3 a", "3 a ca"}, {"2 aab", "2 aa", "2 aa aab"}, {"2 a b", "2", "2 a b"},
		// Common words.
		{"2 bb", "2 bb", "2 bb"}, {"2 aa bb", "2 bb", "2 aa bb"}, {"2 aa bb", "2 aa", "2 aa bb"}, {"2 aa ab", "2 ab bb", "2 aa ab bb"}, {"3 ab bc ca", "3 ab ca cb", "3 ab bc ca cb"}, {"3 ab bc ca", "3 ab bc ca", "3 ab bc ca"}, {"3 a c", "3 b c", "3 a b c"},
		// 8 together.
		{"2 aaa aab aba abb", "2 baa bab bba bbb", "2 " + eightWords}, {"2 " + eightWords, "2", "2 " + eightWords}, {"2", "2 " + eightWords, "2 " + eightWords}, {"2 " + eightWords, "2 " + eightWords, "2 " + eightWords}, {"2 " + eightWords, "2 aba", "2 " + eightWords},
		{"2 aaa aab aba abb baa", "2 abb baa bab bba bbb", "2 " + eightWords}, {"2 aaa aab aba abb baa bab bba", "2 aab aba abb baa bab bba bbb", "2 " + eightWords}, {"3 aa ac bb ca", "3 ab ba bc cb", "3 aa ab ac ba bb bc ca cb"}, {"3 aa ab ac", "3 a b c cc ccc", "3 a aa ab ac b c cc ccc"},
	} {
		got, ok := impl.MeetShifts(mustShift(t, c.s), mustShift(t, c.t))
		checkShift(t, "MeetShifts of "+c.s+" and "+c.t, got, ok, mustShift(t, c.want), true)
	}
	for _, c := range []struct{ s, t string }{
		// More than 8: 9, and up to 16.
		{"2 " + eightWords, "2 a"}, {"2 b", "2 " + eightWords}, {"2 aaa aab aba abb", "2 aa baa bab bba bbb"}, {"2 aaa aab aba abb baa", "2 a abb baa bab bba bbb"}, {"3 aaa", "3 aa ab ac ba bb bc ca cb"}, {"3 aa ab ac ba bb bc ca cb", "3 cc"}, {"3 aa ab ac ba bb", "3 bc ca cb cc"},
		{"2 " + eightWords, "2 a aa ab b ba bb"}, {"3 aaa aab aac aba abb abc aca acb", "3 caa cab cac cba cbb cbc cca ccb"}, {"2 a aa aaa aab ab abb b bb", "2 aba abb baa bab bba bbb"},
		// Different Letters.
		{"3", "2 bb"}, {"2 bb", "3"}, {"1", "2"}, {"2", "1"}, {"1", "3"}, {"3 bb", "2 bb"}, {"2 a", "1 a"}, {"2 " + eightWords, "3 a"},
	} {
		got, ok := impl.MeetShifts(mustShift(t, c.s), mustShift(t, c.t))
		checkShift(t, "MeetShifts of "+c.s+" and "+c.t, got, ok, impl.Shift{}, false)
	}
}

// meetByHand collects the Forbidden words of both in a map.
func meetByHand(s, other impl.Shift) (impl.Shift, bool) {
	words := map[string]bool{}
	for _, w := range slices.Concat(s.Forbidden, other.Forbidden) {
		words[w] = true
	}
	if s.Letters != other.Letters || len(words) > 8 {
		return impl.Shift{}, false
	}
	var forbidden []string
	for _, w := range shortWords(s.Letters) {
		if words[w] {
			forbidden = append(forbidden, w)
		}
	}
	return impl.Shift{Letters: s.Letters, Forbidden: forbidden}, true
}

func TestMeetShiftsOfAllPairs(t *testing.T) {
	list := slices.Concat(fewShifts(t), someShifts()[19:60], randomShifts(99, 60))
	for _, s := range list {
		for _, other := range list {
			want, accepted := meetByHand(s, other)
			got, ok := impl.MeetShifts(s, other)
			checkShift(t, "MeetShifts of "+describe(s)+" and "+describe(other), got, ok, want, accepted)
		}
	}
}

// A point of the shift where two meet is a point of both.
func TestWordsOfShiftsThatMeet(t *testing.T) {
	list := fewShifts(t)
	for _, s := range list {
		for _, other := range list {
			met, ok := impl.MeetShifts(s, other)
			if !ok {
				continue
			}
			for _, w := range impl.WordsOf(met.Letters, 4) {
				if impl.AvoidsAll(met, w) != (impl.AvoidsAll(s, w) && impl.AvoidsAll(other, w)) || impl.InLanguage(met, w) && !(impl.InLanguage(s, w) && impl.InLanguage(other, w)) {
					t.Errorf("MeetShifts(%#v, %#v) = %#v; %q is in one of the languages only", s, other, met, w)
				}
			}
		}
	}
}

func TestGraphsOfShiftsWithoutPoints(t *testing.T) {
	for _, text := range pointless {
		s := mustShift(t, text)
		if got := impl.StatesOf(s); len(got) != 0 {
			t.Errorf("StatesOf(%q) = %q; want nil", text, got)
		}
		graph, ok := impl.GraphOf(s)
		checkResult(t, graph, ok, nil, false, "GraphOf", text)
		for n := range mostCounted + 1 {
			if got := impl.CountWords(s, n); got != 0 {
				t.Errorf("CountWords(%q, %d) = %d; want 0", text, n, got)
			}
		}
		for _, n := range notCounted {
			if got := impl.CountWords(s, n); got != -1 {
				t.Errorf("CountWords(%q, %d) = %d; want -1", text, n, got)
			}
		}
		if impl.IsConnected(s) {
			t.Errorf("IsConnected(%q) = true", text)
		}
		for _, other := range append(fewShifts(t), impl.Shift{Letters: s.Letters}) {
			want := s.Letters == other.Letters && impl.IsEmptyShift(other)
			if got, turned := impl.AreSameShift(s, other), impl.AreSameShift(other, s); got != want || turned != want {
				t.Errorf("AreSameShift(%q, %#v) = %v and %v", text, other, got, turned)
			}
		}
		met, ok := impl.MeetShifts(s, impl.Shift{Letters: s.Letters})
		checkShift(t, "MeetShifts of "+text+" and all words", met, ok, s, true)
	}
}

func TestGraphsOfNoShift(t *testing.T) {
	for _, s := range noShifts() {
		if got := impl.StatesOf(s); len(got) != 0 {
			t.Errorf("StatesOf(%#v) = %q; want nil", s, got)
		}
		graph, ok := impl.GraphOf(s)
		checkResult(t, graph, ok, nil, false, "GraphOf", s)
		for _, n := range append([]int{0, 1, 2, 3, 10, 20}, notCounted...) {
			if got := impl.CountWords(s, n); got != -1 {
				t.Errorf("CountWords(%#v, %d) = %d; want -1", s, n, got)
			}
		}
		if impl.IsConnected(s) {
			t.Errorf("IsConnected(%#v) = true", s)
		}
		got, ok := impl.ForbiddenOf(s)
		checkShift(t, "ForbiddenOf of "+describe(s), got, ok, impl.Shift{}, false)
		for _, other := range []impl.Shift{s, shiftOf(1, ""), shiftOf(2, ""), shiftOf(3, ""), shiftOf(2, "bb"), shiftOf(2, "a b"), shiftOf(3, "ab bc ca"), shiftOf(2, eightWords), {Letters: s.Letters}, {}} {
			if impl.AreSameShift(s, other) || impl.AreSameShift(other, s) {
				t.Errorf("AreSameShift(%#v, %#v) = %v and %v", s, other, impl.AreSameShift(s, other), impl.AreSameShift(other, s))
			}
			for _, pair := range [][2]impl.Shift{{s, other}, {other, s}} {
				got, ok := impl.MeetShifts(pair[0], pair[1])
				checkShift(t, "MeetShifts of "+describe(pair[0])+" and "+describe(pair[1]), got, ok, impl.Shift{}, false)
			}
		}
	}
}

// spareShift has the words of a shift in a list with unused capacity, which is returned as a whole, too.
func spareShift(s impl.Shift) (impl.Shift, []string) {
	whole := slices.Concat(s.Forbidden, []string{"b", "aa", "?", ""})
	return impl.Shift{Letters: s.Letters, Forbidden: whole[:len(s.Forbidden)]}, whole
}

func TestGraphFunctionsKeepForbidden(t *testing.T) {
	check := func(name string, got, want []string) {
		t.Helper()
		if !slices.Equal(got, want) {
			t.Fatalf("%s changed a list to %q; want %q", name, got, want)
		}
	}
	list := slices.Concat(fewShifts(t)[:40], noShifts()[:60], []impl.Shift{shiftOf(1, ""), shiftOf(2, "aa bb"), shiftOf(3, "a b c")})
	for i, given := range list {
		s, whole := spareShift(given)
		other, otherWhole := spareShift(list[(i*7+3)%len(list)])
		before, otherBefore := slices.Clone(whole), slices.Clone(otherWhole)
		overwrite(impl.StatesOf(s))
		graph, _ := impl.GraphOf(s)
		overwriteRows(graph)
		for n := -1; n <= 21; n++ {
			impl.CountWords(s, n)
		}
		impl.IsConnected(s)
		check("A function of one shift", whole, before)
		least, _ := impl.ForbiddenOf(s)
		check("ForbiddenOf", whole, before)
		overwrite(least.Forbidden)
		check("A change of the result of ForbiddenOf", whole, before)
		for _, pair := range [][2]impl.Shift{{s, other}, {other, s}, {s, s}, {s, {Letters: s.Letters}}, {{Letters: s.Letters}, s}} {
			impl.AreSameShift(pair[0], pair[1])
			met, _ := impl.MeetShifts(pair[0], pair[1])
			check("MeetShifts", whole, before)
			check("MeetShifts", otherWhole, otherBefore)
			overwrite(met.Forbidden)
			check("A change of the result of MeetShifts", whole, before)
			check("A change of the result of MeetShifts", otherWhole, otherBefore)
		}
	}
}

func TestGraphsOfShiftsAreNewMemory(t *testing.T) {
	for _, s := range fewShifts(t) {
		checkNewMemory(t, "GraphOf of "+impl.ShiftText(s), nil, func() [][]int {
			graph, _ := impl.GraphOf(s)
			return graph
		})
		for name, list := range map[string]func() []string{
			"StatesOf": func() []string { return impl.StatesOf(s) },
			"ForbiddenOf": func() []string {
				least, _ := impl.ForbiddenOf(s)
				return least.Forbidden
			},
			"MeetShifts": func() []string {
				met, _ := impl.MeetShifts(s, s)
				return met.Forbidden
			},
			"MeetShifts with all words": func() []string {
				met, _ := impl.MeetShifts(impl.Shift{Letters: s.Letters}, s)
				return met.Forbidden
			},
		} {
			kept := list()
			want := slices.Clone(kept)
			overwrite(list())
			if got := list(); !slices.Equal(got, want) || !slices.Equal(kept, want) {
				t.Errorf("%s of %#v = %q and %q after another result was changed; want %q", name, s, kept, got, want)
			}
		}
	}
}
