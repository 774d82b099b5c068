package tests

import (
	"math"
	"math/rand"
	"slices"
	"strconv"
	"strings"
	"testing"

	"loop.example/g03103/impl"
)

const mostLabelStates = 12

// otherStateCounts are just beyond 1 to 12, and far from them.
var otherStateCounts = []int{0, 13, -1, -12, 14, 15, 16, 17, 31, 32, 63, 64, 65, 256, 256 + 1, 256 + 12, 1<<16 + 2, 1 << 32, 1<<32 + 1, 1<<32 + 12, -1 << 32, 1 << 62, math.MinInt, math.MinInt + 1, math.MinInt + 12, math.MaxInt, math.MaxInt - 1}

// notRead are lengths of words just beyond the limits and far from them.
var notRead = []int{-1, 7, -2, -6, 8, 9, 16, 17, 256, 256 + 2, 1 << 32, 1<<32 + 2, -1 << 32, 1 << 62, math.MinInt, math.MinInt + 1, math.MinInt + 6, math.MaxInt, math.MaxInt - 1}

// otherNumbers are just beyond 0 to count - 1, and far from them.
func otherNumbers(count int) []int {
	return []int{-1, count, -2, -count, count + 1, 13, 16, 64, 255, 256, 256 + count - 1, 1 << 16, 1 << 32, 1<<32 + count - 1, -1 << 32, 1 << 62, math.MinInt, math.MinInt + 1, math.MaxInt, math.MaxInt - 1}
}

// otherSets are no sets of these states.
func otherSets(states int) []int {
	all := 1<<states - 1
	return []int{-1, all + 1, -2, -all, -all - 1, all + 2, 2*all + 1, 1 << 13, 1 << 16, 1<<16 + 1, 1<<16 + all, 1 << 32, 1<<32 + 1, -1 << 32, 1 << 62, math.MinInt, math.MinInt + 1, math.MinInt + all, math.MaxInt, math.MaxInt - 1}
}

// labelsFrom reads a text as LabelsText writes it, except that arcs may have any order.
func labelsFrom(text string) impl.Labels {
	number := func(s string) int {
		n, err := strconv.Atoi(s)
		if err != nil {
			panic(err)
		}
		return n
	}
	parts := strings.Fields(text)
	l := impl.Labels{Letters: number(parts[0]), States: number(parts[1])}
	for _, part := range parts[2:] {
		at := strings.IndexAny(part, "abcd")
		l.Arcs = append(l.Arcs, impl.Arc{From: number(part[:at]), To: number(part[at+1:]), Letter: int(part[at] - 'a')})
	}
	return l
}

func mustLabels(t *testing.T, text string) impl.Labels {
	t.Helper()
	l := labelsFrom(text)
	if !impl.IsLabels(l) {
		t.Fatalf("IsLabels of %q = false", text)
	}
	return l
}

// textByHand writes any labelled graph, also one that is none.
func textByHand(l impl.Labels) string {
	text := strconv.Itoa(l.Letters) + " " + strconv.Itoa(l.States)
	for _, a := range l.Arcs {
		text += " " + strconv.Itoa(a.From) + string(rune('a'+a.Letter)) + strconv.Itoa(a.To)
	}
	return text
}

// allArcs are the arcs that there can be, in order.
func allArcs(k, states int) []impl.Arc {
	var arcs []impl.Arc
	for from := range states {
		for letter := range k {
			for to := range states {
				arcs = append(arcs, impl.Arc{From: from, To: to, Letter: letter})
			}
		}
	}
	return arcs
}

// eachLabels calls visit for each labelled graph of this form.
func eachLabels(k, states int, visit func(impl.Labels)) {
	all := allArcs(k, states)
	for chosen := range 1 << len(all) {
		l := impl.Labels{Letters: k, States: states}
		for i, a := range all {
			if chosen>>i&1 == 1 {
				l.Arcs = append(l.Arcs, a)
			}
		}
		visit(l)
	}
}

// smallForms are Letters and States of which there are so few labelled graphs that all can be tried.
var smallForms = [][2]int{{1, 1}, {2, 1}, {3, 1}, {1, 2}, {2, 2}, {3, 2}, {1, 3}}

func eachSmallLabels(visit func(impl.Labels)) {
	for _, form := range smallForms {
		eachLabels(form[0], form[1], visit)
	}
}

// randomLabels has count arcs, or all that there can be if they are fewer.
func randomLabels(random *rand.Rand, k, states, count int) impl.Labels {
	all := allArcs(k, states)
	chosen := random.Perm(len(all))[:min(count, len(all))]
	slices.Sort(chosen)
	l := impl.Labels{Letters: k, States: states}
	for _, i := range chosen {
		l.Arcs = append(l.Arcs, all[i])
	}
	return l
}

// ringLabels lead from each state to the next one and from the last to the first, or, if they are open, not from the last; their letters take turns.
func ringLabels(k, states int, open bool) impl.Labels {
	l := impl.Labels{Letters: k, States: states}
	for from := range states {
		if !open || from < states-1 {
			l.Arcs = append(l.Arcs, impl.Arc{From: from, To: (from + 1) % states, Letter: from % k})
		}
	}
	return l
}

// namedLabels have even runs of b, one point, no words, or states of all kinds.
var namedLabels = []string{
	"2 2 0a0 0b1 1b0", "2 2 0a1", "1 1 0a0", "1 1", "3 1 0a0 0b0 0c0", "2 1 0b0", "2 2 0a0 0b1 1a0", "2 3 0a0 0b1 1a2 2a0 2b1", "2 3 0a1 0a2 1b0 2b2", "2 2 0a0 0a1 1a0 1b1", "3 3 0a1 0c1 1b0 2a0 2b0", "2 5 0a1 1a3 1b1 3a4 3b1 4b1",
	"2 4 0a1 1a1 1b2 2a3 2b2", "3 5 0a1 1a2 2a2 2b3 3c4", "2 3 0a0 0b1 1a2 2b2", "3 12 0a11 11c0", "2 12 11b11", "3 12 10a11 11a10 11b11 11c0",
}

// someLabels have every form, without arcs, with all that there can be, and with numbers of arcs in between.
func someLabels() []impl.Labels {
	var list []impl.Labels
	for _, text := range namedLabels {
		list = append(list, labelsFrom(text))
	}
	random := rand.New(rand.NewSource(14))
	for k := 1; k <= 3; k++ {
		for states := 1; states <= mostLabelStates; states++ {
			list = append(list, impl.Labels{Letters: k, States: states}, impl.Labels{Letters: k, States: states, Arcs: []impl.Arc{}}, impl.Labels{Letters: k, States: states, Arcs: allArcs(k, states)}, ringLabels(k, states, false), ringLabels(k, states, true))
			for _, count := range []int{1, states - 1, states, states + 2, 2 * states, 4 * states} {
				list = append(list, randomLabels(random, k, states, count))
			}
		}
	}
	return list
}

// noLabels are no labelled graphs, most of them nearly.
func noLabels() []impl.Labels {
	list := []impl.Labels{{}, {Arcs: []impl.Arc{}}, {Arcs: []impl.Arc{{}}}, {Letters: 1}, {States: 1}, {Letters: 1, States: 1, Arcs: []impl.Arc{{}, {}}}}
	for _, k := range otherLetterCounts() {
		list = append(list, impl.Labels{Letters: k, States: 1}, impl.Labels{Letters: k, States: 12}, impl.Labels{Letters: k, States: 2, Arcs: []impl.Arc{{From: 0, To: 1}, {From: 1, To: 0}}}, impl.Labels{Letters: k, States: k})
	}
	for _, states := range otherStateCounts {
		list = append(list, impl.Labels{Letters: 1, States: states}, impl.Labels{Letters: 3, States: states}, impl.Labels{Letters: 2, States: states, Arcs: []impl.Arc{{}}}, impl.Labels{Letters: 2, States: states, Arcs: []impl.Arc{{From: 0, To: 1, Letter: 1}, {From: 1, To: 0}}})
	}
	for _, text := range []string{
		// A state or a letter too much.
		"1 1 0b0", "2 1 0c0", "3 1 0d0", "1 1 0a1", "1 1 1a0", "1 1 0a0 1a0", "2 2 0a0 0b2", "2 2 0a0 2a0", "2 2 0a2 1b0", "2 2 0a0 0c1 1b0", "3 2 0a0 0d1", "3 2 0a0 1d1", "2 12 0a12", "2 12 12a0", "2 12 0a0 11b12", "2 12 0a0 12b11", "1 12 0a0 11b11",
		// Twice.
		"1 1 0a0 0a0", "2 2 0a0 0a0 0b1 1b0", "2 2 0a0 0b1 0b1 1b0", "2 2 0a0 0b1 1b0 1b0", "2 2 0a0 0b1 0a0", "3 12 11c11 11c11",
		// Out of order, by To, by Letter, by From.
		"1 2 0a1 0a0", "1 2 1a1 1a0", "2 2 0b0 0a0", "2 2 0b0 0a1", "2 2 0b1 0a0", "2 2 1b0 1a1", "2 2 1a0 0a0", "2 2 1a0 0b1", "2 2 1a0 0a1", "2 2 1b1 0a0", "2 2 0a0 1b0 0b1", "2 2 0b1 0a0 1b0", "2 2 1b0 0b1 0a0", "2 2 0a0 0b1 1b0 0a1", "3 12 11c11 11c10", "3 12 11c11 11b11", "3 12 11c11 10c11",
		// In order by To and then by Letter.
		"2 2 0a0 0b0 0a1 0b1", "2 2 0a0 1a0 0b1", "2 3 0a2 0b0 1a0 0b1",
	} {
		list = append(list, labelsFrom(text))
	}
	for _, n := range []int{-1, -2, 3, 12, 13, 256, 1 << 32, math.MinInt, math.MaxInt} {
		for _, a := range []impl.Arc{{From: n}, {To: n}, {Letter: n}, {From: n, To: n, Letter: n}, {From: 2, To: n}, {From: 2, To: 2, Letter: n}} {
			list = append(list, impl.Labels{Letters: 3, States: 3, Arcs: []impl.Arc{a}}, impl.Labels{Letters: 3, States: 3, Arcs: []impl.Arc{{From: 0, To: 1}, {From: 1, To: 2, Letter: 1}, a}}, impl.Labels{Letters: 3, States: 3, Arcs: []impl.Arc{a, {From: 2, To: 2, Letter: 2}}})
		}
	}
	return append(list, impl.Labels{Letters: 2, States: 2, Arcs: make([]impl.Arc, 1000)}, impl.Labels{Letters: 3, States: 12, Arcs: slices.Concat(allArcs(3, 12), allArcs(3, 12))})
}

// relation tells from which states to which ones the word is read.
func relation(l impl.Labels, w string) [][]bool {
	r := make([][]bool, l.States)
	for p := range r {
		r[p] = make([]bool, l.States)
		r[p][p] = w == ""
	}
	if len(w) == 1 {
		for _, a := range l.Arcs {
			if letters[a.Letter] == w[0] {
				r[a.From][a.To] = true
			}
		}
	}
	if len(w) > 1 {
		first, second := relation(l, w[:len(w)/2]), relation(l, w[len(w)/2:])
		for p := range r {
			for q := range r {
				for over := range r {
					r[p][q] = r[p][q] || first[p][over] && second[over][q]
				}
			}
		}
	}
	return r
}

// endsByHand adds up the powers of 2 of the states that are related to one of the set.
func endsByHand(r [][]bool, set int) int {
	ends := 0
	for q := range r {
		for p := range r {
			if set>>p&1 == 1 && r[p][q] {
				ends |= 1 << q
			}
		}
	}
	return ends
}

func isReadByHand(l impl.Labels, w string) bool {
	return slices.ContainsFunc(relation(l, w), func(row []bool) bool { return slices.Contains(row, true) })
}

func readWordsByHand(l impl.Labels, n int) []string {
	return slices.DeleteFunc(codedWords(l.Letters, n), func(w string) bool { return !isReadByHand(l, w) })
}

func arcCountsByHand(l impl.Labels) [][]int {
	m := filled(l.States, l.States, 0)
	for _, a := range l.Arcs {
		m[a.From][a.To]++
	}
	return m
}

// trimByHand takes the states at which long paths end and begin.
func trimByHand(l impl.Labels) impl.Labels {
	lively := livelyByWalks(arcCountsByHand(l))
	number := map[int]int{}
	for i, v := range lively {
		number[v] = i
	}
	trimmed := impl.Labels{States: len(lively)}
	if len(lively) > 0 {
		trimmed.Letters = l.Letters
	}
	for _, a := range l.Arcs {
		if slices.Contains(lively, a.From) && slices.Contains(lively, a.To) {
			trimmed.Arcs = append(trimmed.Arcs, impl.Arc{From: number[a.From], To: number[a.To], Letter: a.Letter})
		}
	}
	return trimmed
}

// labelsByHand has an arc for each word of 3 letters in the language.
func labelsByHand(k int, lists [][]string) impl.Labels {
	if len(lists[2]) == 0 {
		return impl.Labels{}
	}
	l := impl.Labels{Letters: k, States: len(lists[2])}
	for _, w := range lists[3] {
		l.Arcs = append(l.Arcs, impl.Arc{From: slices.Index(lists[2], w[:2]), To: slices.Index(lists[2], w[1:]), Letter: strings.Index(letters, w[2:])})
	}
	return l
}

func sameLabels(a, b impl.Labels) bool {
	return a.Letters == b.Letters && a.States == b.States && slices.Equal(a.Arcs, b.Arcs)
}

func checkLabels(t *testing.T, name string, got impl.Labels, ok bool, want impl.Labels, accepted bool) {
	t.Helper()
	if ok != accepted || !sameLabels(got, want) {
		t.Errorf("%s = %#v, %v; want %#v, %v", name, got, ok, want, accepted)
	}
}

func checkReadFrom(t *testing.T, l impl.Labels, set int, w string, want int) {
	t.Helper()
	if got := impl.ReadFrom(l, set, w); got != want {
		t.Errorf("ReadFrom(%q, %d, %q) = %d; want %d", textByHand(l), set, w, got, want)
	}
}

func checkReadsWord(t *testing.T, l impl.Labels, w string, want bool) {
	t.Helper()
	if got := impl.ReadsWord(l, w); got != want {
		t.Errorf("ReadsWord(%q, %q) = %v", textByHand(l), w, got)
	}
}

func checkReadWords(t *testing.T, l impl.Labels, n int, want []string) {
	t.Helper()
	if got := impl.ReadWords(l, n); !slices.Equal(got, want) {
		t.Errorf("ReadWords(%q, %d) = %q; want %q", textByHand(l), n, got, want)
	}
}

func checkTrim(t *testing.T, l, want impl.Labels) {
	t.Helper()
	got, ok := impl.TrimLabels(l)
	checkLabels(t, "TrimLabels of "+textByHand(l), got, ok, want, want.States > 0)
}

func checkMatrixOf(t *testing.T, l impl.Labels, want [][]int, accepted bool) {
	t.Helper()
	got, ok := impl.MatrixOf(l)
	checkResult(t, got, ok, want, accepted, "MatrixOf", textByHand(l))
}

func checkIsLabels(t *testing.T, l impl.Labels, want bool) {
	t.Helper()
	if got := impl.IsLabels(l); got != want {
		t.Errorf("IsLabels(%#v) = %v", l, got)
	}
}

func TestIsLabels(t *testing.T) {
	for _, l := range someLabels() {
		checkIsLabels(t, l, true)
	}
	eachSmallLabels(func(l impl.Labels) { checkIsLabels(t, l, true) })
	for _, l := range noLabels() {
		checkIsLabels(t, l, false)
	}
}

func TestIsLabelsAtTheLimits(t *testing.T) {
	for _, k := range append([]int{1, 2, 3}, otherLetterCounts()...) {
		for _, states := range append([]int{1, 2, 11, 12}, otherStateCounts...) {
			want := 1 <= k && k <= 3 && 1 <= states && states <= 12
			for _, arcs := range [][]impl.Arc{nil, {}, {{}}} {
				checkIsLabels(t, impl.Labels{Letters: k, States: states, Arcs: arcs}, want)
			}
		}
	}
}

// Each field of one arc, which stands alone, first, in between or last.
func TestIsLabelsOnEachField(t *testing.T) {
	for k := 1; k <= 3; k++ {
		for states := 1; states <= mostLabelStates; states++ {
			check := func(a impl.Arc, want bool) {
				t.Helper()
				first, last := impl.Arc{}, impl.Arc{From: states - 1, To: states - 1, Letter: k - 1}
				for _, arcs := range [][]impl.Arc{{a}, {a, last}, {first, a}, {first, a, last}} {
					ordered := !slices.Contains(arcs[1:], arcs[0]) && !slices.Contains(arcs[:len(arcs)-1], arcs[len(arcs)-1])
					checkIsLabels(t, impl.Labels{Letters: k, States: states, Arcs: arcs}, want && ordered)
				}
			}
			for _, a := range allArcs(k, states) {
				check(a, true)
			}
			for _, n := range otherNumbers(states) {
				for _, a := range []impl.Arc{{From: n}, {To: n}, {From: n, To: states - 1}, {From: states - 1, To: n, Letter: k - 1}} {
					check(a, 0 <= n && n < states)
				}
			}
			for _, n := range otherNumbers(k) {
				check(impl.Arc{Letter: n}, 0 <= n && n < k)
				check(impl.Arc{From: states - 1, Letter: n}, 0 <= n && n < k)
			}
		}
	}
}

// All lists of up to 3 arcs tell order and repetition at once.
func TestIsLabelsOnAllShortLists(t *testing.T) {
	for _, form := range [][2]int{{1, 2}, {2, 2}, {3, 2}, {1, 3}, {3, 1}} {
		all := allArcs(form[0], form[1])
		var extend func(chosen []int)
		extend = func(chosen []int) {
			l := impl.Labels{Letters: form[0], States: form[1]}
			ascending := true
			for i, n := range chosen {
				l.Arcs = append(l.Arcs, all[n])
				ascending = ascending && (i == 0 || chosen[i-1] < n)
			}
			checkIsLabels(t, l, ascending)
			if len(chosen) == 3 {
				return
			}
			for n := range all {
				extend(append(slices.Clone(chosen), n))
			}
		}
		extend(nil)
	}
}

func TestIsLabelsWithAllArcs(t *testing.T) {
	for k := 1; k <= 3; k++ {
		for states := 1; states <= mostLabelStates; states++ {
			all := allArcs(k, states)
			with := func(arcs []impl.Arc) impl.Labels { return impl.Labels{Letters: k, States: states, Arcs: arcs} }
			checkIsLabels(t, with(all), true)
			for i := range all {
				checkIsLabels(t, with(slices.Delete(slices.Clone(all), i, i+1)), true)
				checkIsLabels(t, with(slices.Insert(slices.Clone(all), i, all[i])), false)
				turned := slices.Clone(all)
				if i > 0 {
					turned[i-1], turned[i] = turned[i], turned[i-1]
					checkIsLabels(t, with(turned), false)
				}
			}
			checkIsLabels(t, with(append(slices.Clone(all), impl.Arc{From: states})), false)
		}
	}
}

func TestReadFrom(t *testing.T) {
	for _, c := range []struct {
		text string
		set  int
		w    string
		want int
	}{
		{"2 2 0a0 0b1 1b0", 3, "ab", 2}, {"2 2 0a0 0b1 1b0", 0, "a", 0}, {"2 2 0a0 0b1 1b0", 4, "a", -1}, {"2 2 0a0 0b1 1b0", 3, "", 3}, {"2 2 0a0 0b1 1b0", 2, "", 2}, {"2 2 0a0 0b1 1b0", 0, "", 0}, {"2 2 0a0 0b1 1b0", 3, "b", 3}, {"2 2 0a0 0b1 1b0", 3, "bb", 3},
		{"2 2 0a0 0b1 1b0", 3, "a", 1}, {"2 2 0a0 0b1 1b0", 3, "aba", 0}, {"2 2 0a0 0b1 1b0", 3, "abba", 1}, {"2 2 0a0 0b1 1b0", 3, "aaaaaaaaaaaaaaaa", 1}, {"2 2 0a0 0b1 1b0", 3, "abbabbabbabbabba", 1}, {"2 2 0a0 0b1 1b0", 3, "abbabbbabbabbabb", 0}, {"2 2 0a0 0b1 1b0", 3, "bbbbbbbbbbbbbbbb", 3}, {"2 2 0a0 0b1 1b0", 3, "c", -1},
		// Read from one state and not from another.
		{"2 2 0a0 0b1 1b0", 1, "a", 1}, {"2 2 0a0 0b1 1b0", 2, "a", 0}, {"2 2 0a0 0b1 1b0", 1, "ba", 0}, {"2 2 0a0 0b1 1b0", 2, "ba", 1}, {"2 2 0a0 0b1 1b0", 1, "bab", 0}, {"2 2 0a0 0b1 1b0", 2, "bab", 2}, {"2 2 0a0 0b1 1b0", 1, "bbbbbbbbbbbbbbba", 0}, {"2 2 0a0 0b1 1b0", 2, "bbbbbbbbbbbbbbba", 1}, {"2 2 0a0 0b1 1b0", 1, "aaaaaaaaaaaaaaab", 2}, {"2 2 0a0 0b1 1b0", 2, "baaaaaaaaaaaaaab", 2}, {"2 2 0a0 0b1 1b0", 2, "aaaaaaaaaaaaaaab", 0},
		// To several states.
		{"2 3 0a1 0a2 1b0 2b2", 1, "a", 6}, {"2 3 0a1 0a2 1b0 2b2", 1, "ab", 5}, {"2 3 0a1 0a2 1b0 2b2", 1, "aba", 6}, {"2 3 0a1 0a2 1b0 2b2", 6, "b", 5}, {"2 3 0a1 0a2 1b0 2b2", 4, "bb", 4}, {"2 3 0a1 0a2 1b0 2b2", 2, "bb", 0}, {"2 3 0a1 0a2 1b0 2b2", 7, "aa", 0}, {"2 3 0a1 0a2 1b0 2b2", 5, "a", 6}, {"2 3 0a1 0a2 1b0 2b2", 8, "a", -1},
		{"3 1 0a0 0c0", 1, "acca", 1}, {"3 1 0a0 0c0", 1, "abca", 0}, {"3 1 0a0 0c0", 0, "acca", 0}, {"3 1 0a0 0c0", 1, "acad", -1}, {"3 1 0a0 0c0", 2, "", -1}, {"3 2 0b1 1c0", 3, "bcbcbcbcbcbcbcbc", 1}, {"3 2 0b1 1c0", 3, "cbcbcbcbcbcbcbcb", 2}, {"3 2 0b1 1c0", 1, "cbcbcbcbcbcbcbcb", 0}, {"3 2 0b1 1c0", 1, "cbcbcbcbcbcbcbcba", -1},
		// Without arcs.
		{"1 1", 1, "", 1}, {"1 1", 0, "", 0}, {"1 1", 1, "a", 0}, {"1 1", 0, "a", 0}, {"1 1", 2, "", -1}, {"1 1", -1, "", -1}, {"1 1", 1, "b", -1}, {"3 12", 4095, "", 4095}, {"3 12", 4095, "a", 0}, {"3 12", 2048, "", 2048}, {"3 12", 2048, "abcabcabcabcabca", 0}, {"3 12", 0, "c", 0}, {"3 12", 4096, "c", -1}, {"2 12", 4095, "c", -1},
		// 12 states.
		{"3 12 0a11 11c0", 4095, "a", 2048}, {"3 12 0a11 11c0", 4095, "acacacacacacacac", 1}, {"3 12 0a11 11c0", 2048, "cacacacacacacaca", 2048}, {"3 12 0a11 11c0", 2046, "a", 0}, {"3 12 0a11 11c0", 2046, "", 2046}, {"2 12 11b11", 4095, "bbbbbbbbbbbbbbbb", 2048}, {"2 12 11b11", 2047, "b", 0}, {"2 12 11b11", 4096, "b", -1},
	} {
		checkReadFrom(t, mustLabels(t, c.text), c.set, c.w, c.want)
	}
	ring := ringLabels(1, 12, false)
	for n := range impl.MaxWord + 1 {
		w := strings.Repeat("a", n)
		for from := range 12 {
			checkReadFrom(t, ring, 1<<from, w, 1<<((from+n)%12))
		}
		checkReadFrom(t, ring, 4095, w, 4095)
		checkReadFrom(t, ringLabels(1, 12, true), 4095, w, 4095&(4095<<n))
	}
}

func TestReadFromOfAllSmallGraphs(t *testing.T) {
	eachSmallLabels(func(l impl.Labels) {
		for n := range 4 {
			for _, w := range codedWords(l.Letters, n) {
				r := relation(l, w)
				for set := range 1 << l.States {
					checkReadFrom(t, l, set, w, endsByHand(r, set))
				}
			}
		}
	})
}

func TestReadFromOfManyGraphs(t *testing.T) {
	random := rand.New(rand.NewSource(141))
	for _, l := range someLabels() {
		all := 1<<l.States - 1
		for _, n := range []int{0, 1, 2, 3, 5, 8, 13, 15, 16} {
			w := randomWord(random, l.Letters, n)
			r := relation(l, w)
			sets := []int{0, all, random.Intn(all + 1), random.Intn(all + 1)}
			for p := range l.States {
				sets = append(sets, 1<<p)
			}
			for _, set := range sets {
				checkReadFrom(t, l, set, w, endsByHand(r, set))
			}
		}
	}
}

// Reading goes on from where it ended, and from each state of a set by itself.
func TestReadFromGoesOn(t *testing.T) {
	random := rand.New(rand.NewSource(142))
	for _, l := range someLabels() {
		for range 10 {
			set := random.Intn(1 << l.States)
			u, v := randomWord(random, l.Letters, random.Intn(6)), randomWord(random, l.Letters, random.Intn(11))
			checkReadFrom(t, l, set, u+v, impl.ReadFrom(l, impl.ReadFrom(l, set, u), v))
			union := 0
			for p := range l.States {
				union |= impl.ReadFrom(l, set&(1<<p), u)
			}
			checkReadFrom(t, l, set, u, union)
		}
	}
}

func TestReadFromBeyondTheLimits(t *testing.T) {
	for _, l := range someLabels() {
		all := 1<<l.States - 1
		for _, set := range otherSets(l.States) {
			want := -1
			if 0 <= set && set <= all {
				want = set
			}
			checkReadFrom(t, l, set, "", want)
		}
		strange := append(noWords(), letters[:l.Letters]+"d", strings.Repeat("a", impl.MaxWord+1))
		if l.Letters < 3 {
			other := letters[l.Letters : l.Letters+1]
			strange = append(strange, other, "a"+other, other+"a", strings.Repeat("a", impl.MaxWord-1)+other)
		}
		for _, w := range strange {
			for _, set := range []int{0, 1, all, -1, all + 1} {
				checkReadFrom(t, l, set, w, -1)
			}
			checkReadsWord(t, l, w, false)
		}
		for n := range impl.MaxWord + 1 {
			if got := impl.ReadFrom(l, all, strings.Repeat("a", n)); got < 0 {
				t.Errorf("ReadFrom(%q, %d, a %d times) = %d", textByHand(l), all, n, got)
			}
		}
	}
}

func TestReadsWord(t *testing.T) {
	for _, c := range []struct {
		text, w string
		want    bool
	}{
		{"2 2 0a0 0b1 1b0", "aba", false}, {"2 2 0a0 0b1 1b0", "abba", true}, {"2 2 0a0 0b1 1b0", "", true}, {"2 2 0a0 0b1 1b0", "bab", true}, {"2 2 0a0 0b1 1b0", "babab", false}, {"2 2 0a0 0b1 1b0", "bbbbbbbbbbbbbbbb", true}, {"2 2 0a0 0b1 1b0", "abbbbbbbbbbbbbbb", true}, {"2 2 0a0 0b1 1b0", "abbbbbbbbbbbbbba", true}, {"2 2 0a0 0b1 1b0", "abbbbbbbbbbbbbaa", false},
		// Only from the last state, or to it.
		{"2 2 0a0 1b1", "aaa", true}, {"2 2 0a0 1b1", "bbb", true}, {"2 2 0a0 1b1", "ab", false}, {"2 12 11b11", "bb", true}, {"2 12 11b11", "a", false}, {"2 12 0a11", "a", true}, {"2 12 0a11", "aa", false}, {"2 12 11a0", "a", true}, {"2 12 11a0", "b", false}, {"3 3 0a1 1b2", "ab", true}, {"3 3 0a1 1b2", "abc", false}, {"3 3 0a1 1b2", "c", false},
		{"1 1", "", true}, {"1 1", "a", false}, {"3 12", "", true}, {"3 12", "c", false}, {"2 2 0a0 0b1 1b0", "c", false}, {"1 1 0a0", "b", false}, {"1 1 0a0", "aaaaaaaaaaaaaaaa", true}, {"1 1 0a0", "aaaaaaaaaaaaaaaaa", false},
	} {
		checkReadsWord(t, mustLabels(t, c.text), c.w, c.want)
	}
	random := rand.New(rand.NewSource(143))
	for _, l := range someLabels() {
		for n := range impl.MaxWord + 1 {
			w := randomWord(random, l.Letters, n)
			checkReadsWord(t, l, w, isReadByHand(l, w))
		}
	}
}

func TestReadWords(t *testing.T) {
	for _, c := range []struct {
		text string
		n    int
		want string
	}{
		{"2 2 0a0 0b1 1b0", 1, "a b"}, {"2 2 0a0 0b1 1b0", 2, "aa ab ba bb"}, {"2 2 0a0 0b1 1b0", 3, "aaa aab abb baa bab bba bbb"}, {"2 2 0a0 0b1 1b0", 4, "aaaa aaab aabb abba abbb baaa baab babb bbaa bbab bbba bbbb"}, {"2 2 0a1", 1, "a"}, {"2 2 0a1", 2, ""}, {"2 2 0a1", 6, ""}, {"1 1 0a0", 6, "aaaaaa"}, {"2 1 0b0", 3, "bbb"}, {"3 1 0a0 0b0 0c0", 2, "aa ab ac ba bb bc ca cb cc"},
		{"3 12 0a11 11c0", 1, "a c"}, {"3 12 0a11 11c0", 2, "ac ca"}, {"3 12 0a11 11c0", 6, "acacac cacaca"}, {"2 12 11b11", 6, "bbbbbb"}, {"3 3 0a2 0c1 1b1", 2, "bb cb"}, {"3 4 0b1 1a2 2c3", 2, "ac ba"}, {"3 4 0b1 1a2 2c3", 3, "bac"}, {"3 4 0b1 1a2 2c3", 4, ""}, {"2 2 0a0 0a1 1a0 1b1", 2, "aa ab ba bb"}, {"1 1", 1, ""}, {"1 1", 6, ""}, {"3 12", 3, ""},
	} {
		checkReadWords(t, mustLabels(t, c.text), c.n, strings.Fields(c.want))
	}
	for _, l := range someLabels() {
		checkReadWords(t, l, 0, []string{""})
		for _, n := range notRead {
			checkReadWords(t, l, n, nil)
		}
	}
}

func TestReadWordsAreThoseThatAreRead(t *testing.T) {
	check := func(l impl.Labels, most int) {
		for n := range most + 1 {
			checkReadWords(t, l, n, readWordsByHand(l, n))
			checkReadWords(t, l, n, slices.DeleteFunc(impl.WordsOf(l.Letters, n), func(w string) bool { return !impl.ReadsWord(l, w) }))
		}
	}
	eachSmallLabels(func(l impl.Labels) { check(l, 2) })
	for i, l := range someLabels() {
		most := 4
		if i < len(namedLabels) || i%10 == 0 {
			most = 6
		}
		check(l, most)
	}
}

// How many words there are was counted with another program, or follows a rule.
func TestCountsOfReadWords(t *testing.T) {
	for _, c := range []struct {
		text string
		want [7]int
	}{
		{"2 2 0a0 0b1 1b0", [7]int{1, 2, 4, 7, 12, 20, 33}}, {"2 2 0a0 0b1 1a0", [7]int{1, 2, 3, 5, 8, 13, 21}}, {"3 1 0a0 0b0 0c0", [7]int{1, 3, 9, 27, 81, 243, 729}}, {"2 1 0a0 0b0", [7]int{1, 2, 4, 8, 16, 32, 64}}, {"2 2 0a1 0b1 1a0", [7]int{1, 2, 3, 5, 7, 11, 15}}, {"3 3 0a1 1b2 2c0", [7]int{1, 3, 3, 3, 3, 3, 3}}, {"2 2 0a1", [7]int{1, 1}}, {"3 12", [7]int{1}},
	} {
		l := mustLabels(t, c.text)
		for n, want := range c.want {
			if got := len(impl.ReadWords(l, n)); got != want {
				t.Errorf("ReadWords(%q, %d) has %d words; want %d", c.text, n, got, want)
			}
		}
	}
	for form, want := range map[[2]int][5]int{
		{1, 1}: {2, 1, 1, 1, 1}, {2, 1}: {4, 4, 6, 10, 18}, {3, 1}: {8, 12, 24, 54, 132}, {1, 2}: {16, 15, 13, 13, 13}, {2, 2}: {256, 480, 830, 1518, 2834}, {3, 2}: {4096, 11520, 29856, 79674, 216612}, {1, 3}: {512, 511, 499, 487, 487},
	} {
		var counts [5]int
		eachLabels(form[0], form[1], func(l impl.Labels) {
			for n := range counts {
				counts[n] += len(impl.ReadWords(l, n))
			}
		})
		if counts != want {
			t.Errorf("all graphs of the form %v read %v words; want %v", form, counts, want)
		}
	}
}

func TestTrimLabels(t *testing.T) {
	for _, c := range []struct{ text, want string }{
		{"2 2 0a0 0b1 1b0", "2 2 0a0 0b1 1b0"}, {"1 1 0a0", "1 1 0a0"}, {"3 1 0a0 0b0 0c0", "3 1 0a0 0b0 0c0"}, {"3 1 0c0", "3 1 0c0"}, {"2 12 11b11", "2 1 0b0"}, {"3 12 0a11 11c0", "3 2 0a1 1c0"},
		// No arc leads away; no arc leads there.
		{"2 2 0a0 0b1", "2 1 0a0"}, {"2 2 0a1 1b1", "2 1 0b0"}, {"2 2 0a0 1b0", "2 1 0a0"}, {"2 2 1a0 1b1", "2 1 0b0"}, {"2 3 0b0 1a1", "2 2 0b0 1a1"},
		// Only after others are gone.
		{"2 3 0a0 0b1 1b2", "2 1 0a0"}, {"2 3 0a1 1b2 2a2", "2 1 0a0"}, {"3 5 0a1 1a2 2a2 2b3 3c4", "3 1 0a0"}, {"2 4 0a1 1a1 1b2 2a3 2b2", "2 2 0a0 0b1 1b1"}, {"2 5 0a0 1a0 2b1 3a2 4a3", "2 1 0a0"}, {"2 5 0a1 1b2 2a3 3a4 4a4 4b4", "2 1 0a0 0b0"}, {"2 5 0b1 1b2 2b2 2b3 3b4", "2 1 0b0"},
		// Between two others through which paths go for ever.
		{"2 3 0a0 0b1 1a2 2b2", "2 3 0a0 0b1 1a2 2b2"}, {"3 4 0c0 0c2 1a1 2c3 3b1", "3 4 0c0 0c2 1a1 2c3 3b1"}, {"2 5 0a0 0b1 1a2 1b3 2b2 4a4", "2 4 0a0 0b1 1a2 2b2 3a3"},
		// Several arcs between the same states.
		{"3 2 0a1 0b1 0c1 1a0", "3 2 0a1 0b1 0c1 1a0"}, {"3 3 0a1 0c1 1b0 2a0 2b0", "3 2 0a1 0c1 1b0"}, {"3 3 0a2 0b2 1a0 1b0 2a0 2c0 2c2", "3 2 0a1 0b1 1a0 1c0 1c1"}, {"2 3 0a1 0b1 1a2 1b2 2a2", "2 1 0a0"}, {"2 3 1a1 1b1 1b2", "2 1 0a0 0b0"},
		// States and arcs keep their order.
		{"2 5 0a1 1a3 1b1 3a4 3b1 4b1", "2 3 0a1 0b0 1a2 1b0 2b0"}, {"3 12 10a11 11a10 11b11 11c0", "3 2 0a1 1a0 1b1"}, {"2 6 1a3 1a5 1b1 3a1 3b5 5a1 5b3", "2 3 0a1 0a2 0b0 1a0 1b2 2a0 2b1"}, {"2 6 0a1 0a3 2a2 2a4 2b0 2b4 3a5 4b2", "2 2 0a0 0a1 0b1 1b0"},
	} {
		checkTrim(t, mustLabels(t, c.text), labelsFrom(c.want))
	}
	for _, text := range []string{"2 2 0a1", "1 1", "3 1", "1 12", "3 12", "2 2 0a1 0b1", "2 2 1a0", "1 2", "3 3 0a1 0b2 1c2", "2 4 0a1 1a2 2b3", "2 4 1a0 2a1 3b2", "3 12 0a11 1b11 2c11"} {
		checkTrim(t, mustLabels(t, text), impl.Labels{})
	}
	for k := 1; k <= 3; k++ {
		for states := 1; states <= mostLabelStates; states++ {
			checkTrim(t, ringLabels(k, states, false), ringLabels(k, states, false))
			full := impl.Labels{Letters: k, States: states, Arcs: allArcs(k, states)}
			checkTrim(t, full, full)
			if states > 1 {
				checkTrim(t, ringLabels(k, states, true), impl.Labels{})
			}
			for _, arcs := range [][]impl.Arc{nil, {}} {
				checkTrim(t, impl.Labels{Letters: k, States: states, Arcs: arcs}, impl.Labels{})
			}
		}
	}
}

func TestTrimLabelsOfManyGraphs(t *testing.T) {
	check := func(l impl.Labels) {
		t.Helper()
		checkTrim(t, l, trimByHand(l))
		got, ok := impl.TrimLabels(l)
		if !ok {
			return
		}
		checkIsLabels(t, got, true)
		checkTrim(t, got, got)
		for n := range 4 {
			for _, w := range impl.ReadWords(got, n) {
				checkReadsWord(t, l, w, true)
			}
		}
	}
	eachSmallLabels(check)
	for _, l := range someLabels() {
		check(l)
	}
	random := rand.New(rand.NewSource(144))
	for range 3000 {
		states := 3 + random.Intn(mostLabelStates-2)
		check(randomLabels(random, 1+random.Intn(3), states, 1+random.Intn(2*states)))
	}
}

// How many states are left of all graphs of a form was counted with another program.
func TestCountsOfTrimLabels(t *testing.T) {
	for form, want := range map[[2]int][6]int{
		// With 0 to 3 states; all arcs; all words of 3 letters.
		{1, 1}: {1, 1, 0, 0, 1, 1}, {2, 1}: {1, 3, 0, 0, 4, 10}, {3, 1}: {1, 7, 0, 0, 12, 54}, {1, 2}: {3, 6, 7, 0, 26, 13}, {2, 2}: {7, 42, 207, 0, 968, 1502}, {3, 2}: {15, 210, 3871, 0, 24216, 79386}, {1, 3}: {25, 75, 147, 265, 1944, 487},
	} {
		var counts [6]int
		eachLabels(form[0], form[1], func(l impl.Labels) {
			trimmed, _ := impl.TrimLabels(l)
			counts[trimmed.States]++
			counts[4] += len(trimmed.Arcs)
			counts[5] += len(impl.ReadWords(trimmed, 3))
		})
		if counts != want {
			t.Errorf("TrimLabels of all graphs of the form %v gives %v; want %v", form, counts, want)
		}
	}
}

// Words that are read from a trimmed graph are those with long words ahead of them and behind them.
func TestWordsOfTrimLabels(t *testing.T) {
	check := func(l impl.Labels, most int) {
		t.Helper()
		// So long a path comes to one state twice.
		reach := relationOfLength(l, l.States)
		trimmed, _ := impl.TrimLabels(l)
		for n := range most + 1 {
			var want []string
			for _, w := range codedWords(l.Letters, n) {
				ends := endsByHand(relation(l, w), endsByHand(reach, 1<<l.States-1))
				if endsByHand(reach, ends) > 0 {
					want = append(want, w)
				}
			}
			if got := impl.ReadWords(trimmed, n); !slices.Equal(got, want) {
				t.Errorf("TrimLabels(%q) reads %q; want %q", textByHand(l), got, want)
			}
		}
	}
	eachSmallLabels(func(l impl.Labels) { check(l, 2) })
	for _, l := range someLabels() {
		check(l, 3)
	}
}

// relationOfLength is of all words of this length.
func relationOfLength(l impl.Labels, n int) [][]bool {
	r := relation(l, "")
	for range n {
		longer := make([][]bool, l.States)
		for p := range longer {
			longer[p] = make([]bool, l.States)
			for _, a := range l.Arcs {
				longer[p][a.To] = longer[p][a.To] || r[p][a.From]
			}
		}
		r = longer
	}
	return r
}

func TestLabelsOf(t *testing.T) {
	for _, c := range []struct{ text, want string }{
		{"2 bb", "2 3 0a0 0b1 1a2 2a0 2b1"}, {"1", "1 1 0a0"}, {"2", "2 4 0a0 0b1 1a2 1b3 2a0 2b1 3a2 3b3"}, {"2 aa bb", "2 2 0a1 1b0"}, {"2 ab ba", "2 2 0a0 1b1"}, {"2 ab", "2 3 0a0 1a0 2a1 2b2"}, {"2 aab", "2 4 0a0 1a2 1b3 2a0 2b1 3a2 3b3"}, {"2 aab ba", "2 2 0a0 1b1"},
		// One state, with each letter.
		{"2 b", "2 1 0a0"}, {"2 a", "2 1 0b0"}, {"2 ba bb", "2 1 0a0"}, {"2 b bb", "2 1 0a0"}, {"3 b c", "3 1 0a0"}, {"3 a c", "3 1 0b0"}, {"3 a b", "3 1 0c0"}, {"2 aaa aab aba abb baa bab bba", "2 1 0b0"},
		// A letter that no point has.
		{"3 c", "3 4 0a0 0b1 1a2 1b3 2a0 2b1 3a2 3b3"}, {"3 b", "3 4 0a0 0c1 1a2 1c3 2a0 2c1 3a2 3c3"}, {"3 a", "3 4 0b0 0c1 1b2 1c3 2b0 2c1 3b2 3c3"},
		{"3 ab bc ca", "3 6 0a0 0c1 1b4 1c5 2a0 2c1 3a2 3b3 4a2 4b3 5b4 5c5"}, {"3 aa bb cc", "3 6 0a2 0c3 1a4 1b5 2b0 2c1 3a4 3b5 4b0 4c1 5a2 5c3"},
		// The greatest number of states.
		{"3", "3 9 0a0 0b1 0c2 1a3 1b4 1c5 2a6 2b7 2c8 3a0 3b1 3c2 4a3 4b4 4c5 5a6 5b7 5c8 6a0 6b1 6c2 7a3 7b4 7c5 8a6 8b7 8c8"}, {"3 cac", "3 9 0a0 0b1 0c2 1a3 1b4 1c5 2a6 2b7 2c8 3a0 3b1 3c2 4a3 4b4 4c5 5a6 5b7 5c8 6a0 6b1 7a3 7b4 7c5 8a6 8b7 8c8"}, {"3 aaa", "3 9 0b1 0c2 1a3 1b4 1c5 2a6 2b7 2c8 3a0 3b1 3c2 4a3 4b4 4c5 5a6 5b7 5c8 6a0 6b1 6c2 7a3 7b4 7c5 8a6 8b7 8c8"},
	} {
		got, ok := impl.LabelsOf(mustShift(t, c.text))
		checkLabels(t, "LabelsOf of "+c.text, got, ok, labelsFrom(c.want), true)
	}
	for _, text := range pointless {
		got, ok := impl.LabelsOf(mustShift(t, text))
		checkLabels(t, "LabelsOf of "+text, got, ok, impl.Labels{}, false)
	}
	for _, s := range noShifts() {
		got, ok := impl.LabelsOf(s)
		checkLabels(t, "LabelsOf of "+describe(s), got, ok, impl.Labels{}, false)
	}
}

func TestLabelsOfManyShifts(t *testing.T) {
	check := func(s impl.Shift) {
		t.Helper()
		want := labelsByHand(s.Letters, languages(s, 3))
		got, ok := impl.LabelsOf(s)
		checkLabels(t, "LabelsOf of "+describe(s), got, ok, want, want.States > 0)
		if !ok {
			return
		}
		checkIsLabels(t, got, true)
		checkTrim(t, got, got)
		graph, _ := impl.GraphOf(s)
		checkMatrixOf(t, got, graph, true)
		for _, a := range got.Arcs {
			if state := impl.StatesOf(s)[a.To]; state[1] != letters[a.Letter] {
				t.Errorf("LabelsOf(%#v) has the arc %v to %q", s, a, state)
			}
		}
	}
	manyShifts(check)
	for _, s := range fewShifts(t) {
		check(s)
	}
}

// P14.
func TestLabelledGraphsOfAShiftReadItsLanguage(t *testing.T) {
	check := func(s impl.Shift, lists [][]string) {
		t.Helper()
		l, ok := impl.LabelsOf(s)
		if ok == impl.IsEmptyShift(s) {
			t.Errorf("LabelsOf(%#v) = %#v, %v", s, l, ok)
		}
		for n, want := range lists {
			if got := impl.ReadWords(l, n); !slices.Equal(got, want) || !slices.Equal(got, impl.LanguageOf(s, n)) {
				t.Errorf("LabelsOf(%#v) reads %q; want %q", s, got, want)
			}
		}
	}
	manyShifts(func(s impl.Shift) {
		var lists [][]string
		for n := range 5 {
			lists = append(lists, impl.LanguageOf(s, n))
		}
		check(s, lists)
	})
	for _, s := range fewShifts(t) {
		check(s, languages(s, 6))
	}
}

// Longer words than ReadWords has.
func TestLongWordsOfLabelsOf(t *testing.T) {
	random := rand.New(rand.NewSource(145))
	read := 0
	for _, s := range fewShifts(t) {
		l, ok := impl.LabelsOf(s)
		if !ok {
			continue
		}
		for range 200 {
			w := randomWord(random, s.Letters, 7+random.Intn(impl.MaxWord-6))
			// Of many words that are not in the language, the last letters are.
			for w != "" && !impl.InLanguage(s, w) {
				checkReadsWord(t, l, w, false)
				w = w[1:]
			}
			checkReadsWord(t, l, w, true)
			if len(w) > 6 {
				read++
			}
		}
	}
	if read < 500 {
		t.Errorf("only %d long words are read", read)
	}
}

func TestMatrixOf(t *testing.T) {
	for _, c := range []struct{ text, want string }{
		{"2 2 0a0 0b1 1b0", "1,1/1,0"}, {"1 1", "0"}, {"1 1 0a0", "1"}, {"2 1 0a0 0b0", "2"}, {"3 1 0a0 0b0 0c0", "3"}, {"3 2 0a1 0b1 0c1 1a0", "0,3/1,0"}, {"3 3 0a1 0c1 1b0 2a0 2b0", "0,2,0/1,0,0/2,0,0"}, {"2 3 0a0 0a1 0b0 0b2 2a2 2b2", "2,1,1/0,0,0/0,0,2"}, {"2 3", "0,0,0/0,0,0/0,0,0"},
		{"2 9 0a8 8b0 8b8", "0,0,0,0,0,0,0,0,1/0,0,0,0,0,0,0,0,0/0,0,0,0,0,0,0,0,0/0,0,0,0,0,0,0,0,0/0,0,0,0,0,0,0,0,0/0,0,0,0,0,0,0,0,0/0,0,0,0,0,0,0,0,0/0,0,0,0,0,0,0,0,0/1,0,0,0,0,0,0,0,1"},
	} {
		checkMatrixOf(t, mustLabels(t, c.text), rowsOf(c.want), true)
	}
	check := func(l impl.Labels) {
		if l.States > impl.MaxSize {
			checkMatrixOf(t, l, nil, false)
			return
		}
		m := arcCountsByHand(l)
		checkMatrixOf(t, l, m, true)
		if !impl.IsMatrix(m) || impl.SumOf(m) != len(l.Arcs) {
			t.Errorf("MatrixOf(%q) = %v; it has %d arcs", textByHand(l), m, len(l.Arcs))
		}
	}
	eachSmallLabels(check)
	for _, l := range someLabels() {
		check(l)
	}
	for k := 1; k <= 3; k++ {
		for states := 1; states <= mostLabelStates; states++ {
			want, accepted := filled(states, states, k), states <= impl.MaxSize
			if !accepted {
				want = nil
			}
			checkMatrixOf(t, impl.Labels{Letters: k, States: states, Arcs: allArcs(k, states)}, want, accepted)
		}
	}
}

// A graph of labels is trimmed as its matrix is.
func TestMatrixOfTrimLabels(t *testing.T) {
	eachSmallLabels(func(l impl.Labels) {
		m, _ := impl.MatrixOf(l)
		want, accepted := impl.TrimGraph(m)
		trimmed, _ := impl.TrimLabels(l)
		checkMatrixOf(t, trimmed, want, accepted)
	})
}

func checkEqualLabels(t *testing.T, a, b impl.Labels, want bool) {
	t.Helper()
	if got, turned := impl.EqualLabels(a, b), impl.EqualLabels(b, a); got != want || turned != want {
		t.Errorf("EqualLabels(%#v, %#v) = %v, turned %v", a, b, got, turned)
	}
}

func TestEqualLabels(t *testing.T) {
	for _, l := range append(someLabels(), noLabels()[:150]...) {
		with := func(arcs []impl.Arc) impl.Labels {
			return impl.Labels{Letters: l.Letters, States: l.States, Arcs: arcs}
		}
		checkEqualLabels(t, l, l, true)
		checkEqualLabels(t, l, with(slices.Clone(l.Arcs)), true)
		checkEqualLabels(t, l, impl.Labels{Letters: l.Letters + 1, States: l.States, Arcs: l.Arcs}, false)
		checkEqualLabels(t, l, impl.Labels{Letters: l.Letters, States: l.States - 1, Arcs: l.Arcs}, false)
		checkEqualLabels(t, l, impl.Labels{Letters: l.States, States: l.Letters, Arcs: l.Arcs}, l.Letters == l.States)
		checkEqualLabels(t, l, impl.Labels{}, l.Letters == 0 && l.States == 0 && len(l.Arcs) == 0)
		checkEqualLabels(t, l, with(nil), len(l.Arcs) == 0)
		checkEqualLabels(t, l, with([]impl.Arc{}), len(l.Arcs) == 0)
		checkEqualLabels(t, l, with(append(slices.Clone(l.Arcs), impl.Arc{})), false)
		if len(l.Arcs) > 50 {
			continue
		}
		for i, a := range l.Arcs {
			checkEqualLabels(t, l, with(slices.Delete(slices.Clone(l.Arcs), i, i+1)), false)
			for _, other := range []impl.Arc{{From: a.From + 1, To: a.To, Letter: a.Letter}, {From: a.From, To: a.To + 1, Letter: a.Letter}, {From: a.From, To: a.To, Letter: a.Letter + 1}, {From: a.From ^ 1<<40, To: a.To, Letter: a.Letter}, {From: a.To, To: a.From, Letter: a.Letter}, {From: a.Letter, To: a.To, Letter: a.From}} {
				arcs := slices.Clone(l.Arcs)
				arcs[i] = other
				checkEqualLabels(t, l, with(arcs), other == a)
			}
		}
	}
}

func TestEqualLabelsOfAllPairs(t *testing.T) {
	var list []impl.Labels
	for _, form := range [][2]int{{1, 1}, {2, 1}, {3, 1}, {1, 2}} {
		eachLabels(form[0], form[1], func(l impl.Labels) { list = append(list, l) })
	}
	list = append(list, someLabels()...)
	list = append(list, noLabels()...)
	for _, a := range list {
		for _, b := range list {
			if got := impl.EqualLabels(a, b); got != sameLabels(a, b) {
				t.Errorf("EqualLabels(%#v, %#v) = %v", a, b, got)
			}
		}
	}
}

func checkLabelsText(t *testing.T, l impl.Labels, want string) {
	t.Helper()
	if got := impl.LabelsText(l); got != want {
		t.Errorf("LabelsText(%#v) = %q; want %q", l, got, want)
	}
}

func TestLabelsText(t *testing.T) {
	for _, c := range []struct {
		l    impl.Labels
		want string
	}{
		{impl.Labels{Letters: 2, States: 2, Arcs: []impl.Arc{{From: 0, To: 0, Letter: 0}, {From: 0, To: 1, Letter: 1}, {From: 1, To: 0, Letter: 1}}}, "2 2 0a0 0b1 1b0"},
		{impl.Labels{Letters: 3, States: 12, Arcs: []impl.Arc{{From: 0, To: 11, Letter: 2}, {From: 10, To: 9, Letter: 0}, {From: 11, To: 10, Letter: 1}}}, "3 12 0c11 10a9 11b10"},
		{impl.Labels{Letters: 1, States: 1, Arcs: []impl.Arc{{}}}, "1 1 0a0"}, {impl.Labels{Letters: 1, States: 1}, "1 1"}, {impl.Labels{Letters: 3, States: 12, Arcs: []impl.Arc{}}, "3 12"}, {impl.Labels{Letters: 2, States: 10}, "2 10"},
		{impl.Labels{}, ""}, {impl.Labels{Letters: 2, States: 13}, ""}, {impl.Labels{Letters: 4, States: 1}, ""}, {impl.Labels{Letters: 2, States: 2, Arcs: []impl.Arc{{From: 1}, {From: 0}}}, ""},
	} {
		checkLabelsText(t, c.l, c.want)
	}
	check := func(l impl.Labels) {
		text := impl.LabelsText(l)
		checkLabelsText(t, l, textByHand(l))
		if !sameLabels(labelsFrom(text), l) {
			t.Errorf("LabelsText(%#v) = %q, which is another one", l, text)
		}
	}
	eachSmallLabels(check)
	for _, l := range someLabels() {
		check(l)
	}
}

func TestFunctionsOfNoLabels(t *testing.T) {
	for _, l := range noLabels() {
		for _, w := range append([]string{"", "a", "b", "ab", "abc", "aaaaaaaaaaaaaaaa"}, noWords()...) {
			for _, set := range []int{0, 1, 2, 3, 4095, 4096, -1, math.MinInt, math.MaxInt} {
				checkReadFrom(t, l, set, w, -1)
			}
			checkReadsWord(t, l, w, false)
		}
		for _, n := range append([]int{0, 1, 2, 3, 6}, notRead...) {
			checkReadWords(t, l, n, nil)
		}
		checkTrim(t, l, impl.Labels{})
		checkMatrixOf(t, l, nil, false)
		checkLabelsText(t, l, "")
		checkEqualLabels(t, l, l, true)
	}
}

// spareLabels has the arcs in a list with unused capacity, which is returned as a whole, too.
func spareLabels(l impl.Labels) (impl.Labels, []impl.Arc) {
	whole := slices.Concat(l.Arcs, []impl.Arc{{From: 7, To: 8, Letter: 9}, {}, {From: 1, To: 1, Letter: 1}})
	return impl.Labels{Letters: l.Letters, States: l.States, Arcs: whole[:len(l.Arcs)]}, whole
}

func overwriteArcs(arcs []impl.Arc) {
	for i := range arcs[:cap(arcs)] {
		arcs[:cap(arcs)][i] = impl.Arc{From: -5, To: -5, Letter: -5}
	}
}

func TestLabelFunctionsKeepTheirArguments(t *testing.T) {
	for _, given := range append(someLabels(), noLabels()...) {
		l, whole := spareLabels(given)
		other, otherWhole := spareLabels(given)
		before := slices.Clone(whole)
		check := func(name string) {
			t.Helper()
			if !slices.Equal(whole, before) || !slices.Equal(otherWhole, before) {
				t.Fatalf("%s of %#v changed the arcs to %v and %v", name, given, whole, otherWhole)
			}
		}
		impl.IsLabels(l)
		for _, w := range []string{"", "ab", "abba", "d"} {
			impl.ReadFrom(l, 1, w)
			impl.ReadsWord(l, w)
		}
		check("ReadFrom or ReadsWord")
		for _, n := range []int{0, 1, 3, 7} {
			overwrite(impl.ReadWords(l, n))
		}
		impl.LabelsText(l)
		impl.EqualLabels(l, other)
		check("ReadWords, LabelsText or EqualLabels")
		trimmed, _ := impl.TrimLabels(l)
		m, _ := impl.MatrixOf(l)
		check("TrimLabels or MatrixOf")
		overwriteArcs(trimmed.Arcs)
		overwriteRows(m)
		check("A change of the result of TrimLabels or MatrixOf")
	}
}

func TestLabelsOfKeepsForbidden(t *testing.T) {
	for _, given := range slices.Concat(fewShifts(t), noShifts()[:60]) {
		s, whole := spareShift(given)
		before := slices.Clone(whole)
		l, _ := impl.LabelsOf(s)
		overwriteArcs(l.Arcs)
		if !slices.Equal(whole, before) {
			t.Fatalf("LabelsOf of %#v changed its words to %q", given, whole)
		}
	}
}

func TestLabelsAreNewMemory(t *testing.T) {
	check := func(name string, arcs func() []impl.Arc) {
		t.Helper()
		kept := arcs()
		want := slices.Clone(kept)
		overwriteArcs(arcs())
		if got := arcs(); !slices.Equal(got, want) || !slices.Equal(kept, want) {
			t.Errorf("%s = %v and %v after another result was changed; want %v", name, kept, got, want)
		}
	}
	for _, l := range someLabels() {
		check("TrimLabels of "+textByHand(l), func() []impl.Arc {
			trimmed, _ := impl.TrimLabels(l)
			return trimmed.Arcs
		})
		checkNewMemory(t, "MatrixOf of "+textByHand(l), nil, func() [][]int {
			m, _ := impl.MatrixOf(l)
			return m
		})
		kept := impl.ReadWords(l, 2)
		want := slices.Clone(kept)
		overwrite(impl.ReadWords(l, 2))
		if got := impl.ReadWords(l, 2); !slices.Equal(got, want) || !slices.Equal(kept, want) {
			t.Errorf("ReadWords(%q, 2) = %q and %q after another result was changed; want %q", textByHand(l), kept, got, want)
		}
	}
	for _, s := range fewShifts(t) {
		check("LabelsOf of "+describe(s), func() []impl.Arc {
			l, _ := impl.LabelsOf(s)
			return l.Arcs
		})
	}
}

// Nothing is kept from one call to the next.
func TestLabelFunctionsAgain(t *testing.T) {
	type results struct {
		ends                         int
		words, text, trimmed, matrix string
	}
	checkAgain(t, append(someLabels(), noLabels()[:40]...), func(l impl.Labels) (r results) {
		r.ends = impl.ReadFrom(l, 1, "aba")
		r.words = strings.Join(impl.ReadWords(l, 3), " ")
		r.text = impl.LabelsText(l)
		trimmed, _ := impl.TrimLabels(l)
		r.trimmed = impl.LabelsText(trimmed)
		m, _ := impl.MatrixOf(l)
		r.matrix = impl.MatrixText(m)
		return r
	})
	checkAgain(t, fewShifts(t), func(s impl.Shift) string {
		l, _ := impl.LabelsOf(s)
		return impl.LabelsText(l)
	})
}
