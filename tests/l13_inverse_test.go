package tests

import (
	"math"
	"math/rand"
	"slices"
	"strconv"
	"strings"
	"testing"

	"loop.example/g03103/impl"
)

const mostRing = 6

// noUndoingWidths and noRings are lengths just beyond the limits and far from them.
var (
	noUndoingWidths = []int{0, 5, -1, -4, 6, 7, 8, 16, 17, 256 + 1, 256 + 2, 1<<32 + 1, 1<<32 + 2, -1 << 32, 1 << 62, math.MinInt, math.MinInt + 1, math.MinInt + 2, math.MinInt + 4, math.MaxInt, math.MaxInt - 1, math.MaxInt - 3}
	noRings         = []int{0, 7, -1, -6, 8, 9, 12, 16, 17, 256 + 1, 256 + 3, 1<<32 + 1, 1<<32 + 3, -1 << 32, 1 << 62, math.MinInt, math.MinInt + 1, math.MinInt + 3, math.MaxInt, math.MaxInt - 1}
)

// undoing holds a code, the least width at which it is undone, the code of this width and the index.
type undoing struct {
	code, undone string
	at           int
}

// undoings were made with another program, for all codes with 2 letters that are one-to-one and for some with 3.
var undoings = []undoing{
	{"2 1 ab", "2 1 ab", 0}, {"2 1 ba", "2 1 ba", 0},
	{"2 2 aabb", "2 1 ab", 0}, {"2 2 bbaa", "2 1 ba", 0}, {"2 2 abab", "2 1 ab", 1}, {"2 2 baba", "2 1 ba", 1},
	{"2 3 aaaabbbb", "2 1 ab", 0}, {"2 3 bbbbaaaa", "2 1 ba", 0}, {"2 3 aabbaabb", "2 1 ab", 1}, {"2 3 bbaabbaa", "2 1 ba", 1}, {"2 3 abababab", "2 1 ab", 2}, {"2 3 babababa", "2 1 ba", 2},
	{"2 4 aaaaaaaabbbbbbbb", "2 1 ab", 0}, {"2 4 bbbbbbbbaaaaaaaa", "2 1 ba", 0}, {"2 4 aaaabbbbaaaabbbb", "2 1 ab", 1}, {"2 4 bbbbaaaabbbbaaaa", "2 1 ba", 1}, {"2 4 aabbaabbaabbaabb", "2 1 ab", 2}, {"2 4 bbaabbaabbaabbaa", "2 1 ba", 2}, {"2 4 abababababababab", "2 1 ab", 3}, {"2 4 babababababababa", "2 1 ba", 3},
	{"2 4 aaaabbbbabaababb", "2 4 aaaabbbbabaababb", 2}, {"2 4 aababbabaaaabbbb", "2 4 aababbabaaaabbbb", 2}, {"2 4 bbabaababbbbaaaa", "2 4 bbbbaaaababbabaa", 2}, {"2 4 bbbbaaaababbabaa", "2 4 bbabaababbbbaaaa", 2}, {"2 4 aabbaabbabbaaabb", "2 4 aabbaabbabbaaabb", 4}, {"2 4 aabbbaabaabbaabb", "2 4 aabbbaabaabbaabb", 4}, {"2 4 bbaaabbabbaabbaa", "2 4 bbaabbaabaabbbaa", 4}, {"2 4 bbaabbaabaabbbaa", "2 4 bbaaabbabbaabbaa", 4},
	{"3 1 abc", "3 1 abc", 0}, {"3 1 acb", "3 1 acb", 0}, {"3 1 bac", "3 1 bac", 0}, {"3 1 bca", "3 1 cab", 0}, {"3 1 cab", "3 1 bca", 0}, {"3 1 cba", "3 1 cba", 0},
	{"3 2 bbbcccaaa", "3 1 cab", 0}, {"3 2 bcabcabca", "3 1 cab", 1}, {"3 2 aaabcccbb", "3 2 aaabcccbb", 0}, {"3 2 aacccabbb", "3 2 abacccbab", 0}, {"3 2 abacccbab", "3 2 aacccabbb", 0}, {"3 2 abcabcbac", "3 2 abcabcbac", 2}, {"3 2 abccbaabc", "3 2 abccbaabc", 2}, {"3 2 acbacbcab", "3 2 acbbcaacb", 2}, {"3 2 acbbcaacb", "3 2 acbacbcab", 2},
	{"3 3 bbbbbbbbbcccccccccaaaaaaaaa", "3 1 cab", 0}, {"3 3 aaabbbcccaaabbbcccaaabbbccc", "3 1 abc", 1}, {"3 3 bcabcabcabcabcabcabcabcabca", "3 1 cab", 2},
	{"3 3 aaaaaaaaacccbbbbbbbbbcccccc", "3 2 aaacbbbcc", 0}, {"3 3 aaacbbbccaaacbbbccaaacbbbcc", "3 2 aaacbbbcc", 1}, {"3 3 aaacccbbbaaabbbcccaaabbbccc", "3 2 acbabcabc", 2}, {"3 3 acbabcabcacbabcabcacbabcabc", "3 2 acbabcabc", 3},
	{"3 3 aaaaaaaaacbbbbbbbbbcccccccc", "3 3 aaaaaaaaacbbbbbbbbbcccccccc", 0}, {"3 3 aabaaaaaabbabbbbbbccccccccc", "3 3 aabaaaaaabbabbbbbbccccccccc", 0}, {"3 3 aaacbbbccaaabbbcccaaabbbccc", "3 3 aaacbbbccaaabbbcccaaabbbccc", 2}, {"3 3 aaabcbcbcaaabbbcccaaabbbccc", "3 3 aaabcbcbcaaabbbcccaaabbbccc", 2}, {"3 3 acbabcabcabcabcabcabcabcabc", "3 3 acbabcabcabcabcabcabcabcabc", 4}, {"3 3 abcabcacbabcabcabcabcabcabc", "3 3 abcabcacbabcabcabcabcabcabc", 4},
}

// lateUndone are codes with 3 letters that only codes of the width 4 undo, which is too great for 3 letters.
func lateUndone(t *testing.T) []impl.Code {
	t.Helper()
	var list []impl.Code
	for _, text := range []string{
		"3 3 aaaaaaaaacbbcbbbbbbccbccccc", "3 3 aaaaaaaaabcccbbbbbcbbbccccc", "3 3 acaacaaaabbbbbbbbbcaccacccc", "3 3 aabcbabccaaacbbbccaaabbbccc", "3 3 acabbbcacacbbbacacaaabbbccc", "3 3 aaabcccbbaaacbbbccaaabbbccc", "3 3 aaacccbbbcaabbbaccaaabbbccc", "3 3 acbacbabcabcabcabcabcabcabc", "3 3 abcabcabccbacbaabcabcabcabc",
	} {
		list = append(list, mustCode(t, text))
	}
	return list
}

// ontoButNotOneToOne are codes without twins that take different sequences to the same one: some that add up letters, and some that do not.
func ontoButNotOneToOne(t *testing.T) []impl.Code {
	t.Helper()
	var list []impl.Code
	for _, text := range []string{
		"2 2 abba", "2 2 baab", "2 3 abbabaab", "2 3 aaabbbba", "2 3 aababbab", "2 3 abbaabba", "2 4 aaaaaaabbbbbbbba", "2 4 aaaaaababbbbbbab", "2 4 aaabbabbaabbaabb", "2 4 abbabaabbaababba",
		"3 2 abcbcacab", "3 2 cbaacbbac", "3 2 bcccbbaaa", "3 3 abcbcacabbcacababccababcbca", "3 3 abcbcacababcbcacababcbcacab",
	} {
		list = append(list, mustCode(t, text))
	}
	return list
}

// undoneCodes are the codes of undoings.
func undoneCodes(t *testing.T) []impl.Code {
	t.Helper()
	var list []impl.Code
	for _, u := range undoings {
		list = append(list, mustCode(t, u.code))
	}
	return list
}

// someInverse are codes of all kinds, among them all with 2 letters and the widths 1 to 3.
func someInverse(t *testing.T) []impl.Code {
	t.Helper()
	return slices.Concat(someSourced(), undoneCodes(t), lateUndone(t), ontoButNotOneToOne(t), longOrphans(t))
}

// hasEqualRings reports whether two rings of the same length, with different letters at each part of Width - 1 letters, are taken to the same one: pairs of different parts are left out while no such pair follows.
func hasEqualRings(c impl.Code) bool {
	count := len(c.Out) / c.Letters
	var left [][2]int
	for u := range count {
		for v := range count {
			if u != v {
				left = append(left, [2]int{u, v})
			}
		}
	}
	for {
		kept := slices.DeleteFunc(slices.Clone(left), func(p [2]int) bool { return !leadsInto(c, p, left) })
		if len(kept) == len(left) {
			return len(kept) > 0
		}
		left = kept
	}
}

// leadsInto reports whether a letter each behind both parts gives the same letter and one of the pairs.
func leadsInto(c impl.Code, p [2]int, pairs [][2]int) bool {
	count := len(c.Out) / c.Letters
	for x := range c.Letters {
		for y := range c.Letters {
			i, j := p[0]*c.Letters+x, p[1]*c.Letters+y
			if c.Out[i] == c.Out[j] && slices.Contains(pairs, [2]int{i % count, j % count}) {
				return true
			}
		}
	}
	return false
}

// isOneToOneByHand: two sequences that are taken to the same one differ between two places where they agree, so that there are twins, or do not agree any more on one side, so that there are rings.
func isOneToOneByHand(c impl.Code) bool { return !hasTwins(c) && !hasEqualRings(c) }

// hasWordsAlike looks for two different words of at most most letters with the same letters given that both begin alike and end alike, or that each end as they begin, so that they can be repeated.
func hasWordsAlike(c impl.Code, most int) bool {
	table, common := tableOf(c), c.Width-1
	for n := c.Width; n <= most; n++ {
		met := map[[3]string]bool{}
		for _, w := range codedWords(c.Letters, n) {
			coded, begin, end := applyByHand(table, c.Width, w), w[:common], w[n-common:]
			marks := [][3]string{{coded, begin, end}}
			if begin == end {
				marks = append(marks, [3]string{coded, "closed"})
			}
			for _, mark := range marks {
				if met[mark] {
					return true
				}
				met[mark] = true
			}
		}
	}
	return false
}

// undoingByHand follows the document, for any width.
func undoingByHand(c impl.Code, width int) (impl.Code, int, bool) {
	sources := sourcesByHand(c, width)
	for at := range c.Width + width - 1 {
		out := ""
		for _, part := range codedWords(c.Letters, width) {
			letter := "a"
			for _, v := range sources[part] {
				letter = v[at : at+1]
			}
			if slices.ContainsFunc(sources[part], func(v string) bool { return v[at:at+1] != letter }) {
				break
			}
			out += letter
		}
		if len(out) == power(c.Letters, width) {
			return codeOf(c.Letters, width, out), at, true
		}
	}
	return impl.Code{}, 0, false
}

// isPermutiveByHand compares each two words that differ in their first or in their last letter only.
func isPermutiveByHand(c impl.Code, left bool) bool {
	table := tableOf(c)
	for u, first := range table {
		for v, second := range table {
			same := u[:c.Width-1] == v[:c.Width-1]
			if left {
				same = u[1:] == v[1:]
			}
			if u != v && same && first == second {
				return false
			}
		}
	}
	return true
}

// sameOnRingsByHand is for two codes and any length.
func sameOnRingsByHand(c, d impl.Code, n int) bool {
	if c.Letters != d.Letters {
		return false
	}
	first, second := tableOf(c), tableOf(d)
	for _, w := range codedWords(c.Letters, n) {
		if ringByHand(first, c.Width, w) != ringByHand(second, d.Width, w) {
			return false
		}
	}
	return true
}

func checkOneToOne(t *testing.T, c impl.Code, want bool) {
	t.Helper()
	if got := impl.IsOneToOne(c); got != want {
		t.Errorf("IsOneToOne(%#v) = %v", c, got)
	}
}

func checkUndoing(t *testing.T, c impl.Code, width int, want impl.Code, at int, accepted bool) {
	t.Helper()
	got, gotAt, ok := impl.UndoingCode(c, width)
	if got != want || gotAt != at || ok != accepted {
		t.Errorf("UndoingCode(%#v, %d) = %#v, %d, %v; want %#v, %d, %v", c, width, got, gotAt, ok, want, at, accepted)
	}
}

func checkNoUndoing(t *testing.T, c impl.Code, width int) {
	t.Helper()
	checkUndoing(t, c, width, impl.Code{}, 0, false)
}

func checkLeastUndoing(t *testing.T, c impl.Code, want int) {
	t.Helper()
	if got := impl.LeastUndoing(c); got != want {
		t.Errorf("LeastUndoing(%#v) = %d; want %d", c, got, want)
	}
}

func checkPermutive(t *testing.T, c impl.Code, left, want bool) {
	t.Helper()
	if got := impl.IsPermutive(c, left); got != want {
		t.Errorf("IsPermutive(%#v, %v) = %v", c, left, got)
	}
}

// checkSame tries both orders.
func checkSame(t *testing.T, c, d impl.Code, n int, want bool) {
	t.Helper()
	if got, turned := impl.SameOnRings(c, d, n), impl.SameOnRings(d, c, n); got != want || turned != want {
		t.Errorf("SameOnRings(%#v, %#v, %d) = %v, turned %v; want %v", c, d, n, got, turned, want)
	}
}

// checkUndone demands that the code d at the index takes back what c makes of words and of rings.
func checkUndone(t *testing.T, c, d impl.Code, at int, w string) {
	t.Helper()
	coded, _ := impl.ApplyCode(c, w)
	got, ok := impl.ApplyCode(d, coded)
	want := ""
	if behind := c.Width + d.Width - 2; len(w) > behind {
		want = w[at : at+len(w)-behind]
	}
	if got != want || !ok {
		t.Errorf("ApplyCode of %#v and then of %#v takes %q to %q, %v; want %q", c, d, w, got, ok, want)
	}
	if w == "" {
		return
	}
	coded, _ = impl.ApplyRing(c, w)
	got, ok = impl.ApplyRing(d, coded)
	if want := impl.TurnWord(w, at); got != want || !ok {
		t.Errorf("ApplyRing of %#v and then of %#v takes %q to %q, %v; want %q", c, d, w, got, ok, want)
	}
}

func TestIsOneToOne(t *testing.T) {
	for _, c := range append(undoneCodes(t), lateUndone(t)...) {
		checkOneToOne(t, c, true)
	}
	for _, text := range []string{
		"2 1 aa", "2 1 bb", "3 1 aaa", "3 1 bbb", "3 1 ccc", "3 1 aab", "3 1 aba", "3 1 baa", "3 1 acc", "3 1 cac", "3 1 bcb",
		"2 2 aaaa", "2 2 bbbb", "2 2 aaab", "2 2 aaba", "2 2 abaa", "2 2 baaa", "2 2 abbb", "2 2 bbba", "2 3 aaaaaaaa", "2 3 aaaaaaab", "2 3 aababbba", "2 3 aaababba", "2 4 aaaaaaaaaaaaaaaa", "2 4 aaabbabaabbbbaab", "2 4 aaaabbbbabaababa", "2 4 aaaaaabbbbbbaabb",
		"3 2 aaaaaaaaa", "3 2 aaabbbccb", "3 2 abcabcabb", "3 3 aaaaaaaaaaaaaaaaaaaaaaaaaaa", "3 3 abcabcabcabcabcabcabcabcabb", "3 3 aaaaaaaaacbbcbbbbbbccbccccb",
	} {
		checkOneToOne(t, mustCode(t, text), false)
	}
	for _, c := range append(ontoButNotOneToOne(t), longOrphans(t)...) {
		checkOneToOne(t, c, false)
	}
}

// How many codes of each form are one-to-one was counted with another program.
func TestIsOneToOneOfAllCodes(t *testing.T) {
	counts := map[[2]int]int{}
	for _, form := range codeForms[:6] {
		for i, out := range codedWords(form[0], power(form[0], form[1])) {
			c := codeOf(form[0], form[1], out)
			// A code that is one-to-one is onto.
			if form == [2]int{2, 4} && i%16 > 0 && !impl.IsOnto(c) {
				continue
			}
			checkOneToOne(t, c, isOneToOneByHand(c))
			if impl.IsOneToOne(c) {
				counts[form]++
			}
		}
	}
	for form, want := range map[[2]int]int{{2, 1}: 2, {2, 2}: 4, {2, 3}: 6, {2, 4}: 16, {3, 1}: 6, {3, 2}: 48} {
		if counts[form] != want {
			t.Errorf("%d codes of the form %v are one-to-one; want %d", counts[form], form, want)
		}
	}
}

func TestIsOneToOneOfCodesOfWidthThreeWithThreeLetters(t *testing.T) {
	random := rand.New(rand.NewSource(1333))
	list := append(lateUndone(t), undoneCodes(t)...)
	list = slices.DeleteFunc(list, func(c impl.Code) bool { return len(c.Out) != 27 })
	for _, c := range list {
		checkOneToOne(t, c, isOneToOneByHand(c))
		for range 20 {
			near := withOtherLetter(random, c)
			checkOneToOne(t, near, isOneToOneByHand(near))
		}
	}
	for range 200 {
		for _, c := range []impl.Code{randomCode(random, 3, 3), randomPermutive(random, 3, 3)} {
			checkOneToOne(t, c, isOneToOneByHand(c))
		}
	}
}

// Words that are alike are looked for up to the length that is enough for each form.
func TestIsOneToOneExactlyIfNoWordsAreAlike(t *testing.T) {
	most := map[[2]int]int{{2, 1}: 10, {2, 2}: 10, {2, 3}: 12, {2, 4}: 10, {3, 1}: 5, {3, 2}: 7, {3, 3}: 10}
	for _, c := range someInverse(t) {
		alike := hasWordsAlike(c, most[[2]int{c.Letters, c.Width}])
		checkOneToOne(t, c, !alike)
	}
}

func TestIsOneToOneOfCopiesAndSums(t *testing.T) {
	for _, form := range codeForms {
		k, width := form[0], form[1]
		for at := range width {
			checkOneToOne(t, copyByHand(k, width, at), true)
		}
		for n := range power(k, width) {
			factors, used := make([]int, width), 0
			for i := range factors {
				factors[i] = n / power(k, i) % k
				if factors[i] > 0 {
					used++
				}
			}
			checkOneToOne(t, weightedSum(k, factors...), used == 1)
		}
	}
}

// One code after the other is one-to-one exactly if the first one is, and the second one, as the first one is onto then.
func TestIsOneToOneOfComposedCodes(t *testing.T) {
	list := slices.Concat(undoneCodes(t), ontoButNotOneToOne(t), fewCodes(20))
	count := 0
	for _, c := range list {
		for _, d := range list {
			composed, ok := impl.ComposeCodes(c, d)
			if !ok {
				continue
			}
			want := impl.IsOneToOne(c) && impl.IsOneToOne(d)
			checkOneToOne(t, composed, want)
			if want {
				count++
			}
		}
	}
	if count < 200 {
		t.Errorf("only %d pairs of codes that are one-to-one were composed", count)
	}
}

// On rings, a code that is one-to-one takes different words to different ones.
func TestOneToOneOnRings(t *testing.T) {
	most := map[int]int{2: 9, 3: 5}
	for _, c := range append(undoneCodes(t), lateUndone(t)...) {
		for n := 1; n <= most[c.Letters]; n++ {
			met := map[string]string{}
			for _, w := range codedWords(c.Letters, n) {
				ring, _ := impl.ApplyRing(c, w)
				if other, ok := met[ring]; ok {
					t.Errorf("%#v takes the rings %q and %q to %q", c, other, w, ring)
				}
				met[ring] = w
			}
		}
	}
}

func TestUndoingCode(t *testing.T) {
	for _, c := range []struct {
		code   string
		width  int
		undone string
		at     int
	}{
		// Wider than needed: the same letter as with the least width, which is then the first one of each part.
		{"2 1 ab", 2, "2 2 aabb", 0}, {"2 1 ab", 3, "2 3 aaaabbbb", 0}, {"2 1 ab", 4, "2 4 aaaaaaaabbbbbbbb", 0}, {"2 1 ba", 2, "2 2 bbaa", 0}, {"2 1 ba", 4, "2 4 bbbbbbbbaaaaaaaa", 0}, {"2 2 abab", 2, "2 2 aabb", 1}, {"2 2 abab", 3, "2 3 aaaabbbb", 1}, {"2 2 baba", 4, "2 4 bbbbbbbbaaaaaaaa", 1}, {"2 3 aabbaabb", 2, "2 2 aabb", 1}, {"2 3 babababa", 3, "2 3 bbbbaaaa", 2}, {"2 4 babababababababa", 4, "2 4 bbbbbbbbaaaaaaaa", 3},
		{"3 1 bca", 2, "3 2 cccaaabbb", 0}, {"3 1 bca", 3, "3 3 cccccccccaaaaaaaaabbbbbbbbb", 0}, {"3 2 bcabcabca", 2, "3 2 cccaaabbb", 1}, {"3 2 aaabcccbb", 3, "3 3 aaaaaaaaabbbcccccccccbbbbbb", 0}, {"3 2 aacccabbb", 3, "3 3 aaabbbaaacccccccccbbbaaabbb", 0}, {"3 2 abcabcbac", 3, "3 3 aaabbbcccaaabbbcccbbbaaaccc", 2}, {"3 2 acbacbcab", 3, "3 3 aaacccbbbbbbcccaaaaaacccbbb", 2}, {"3 3 aaabbbcccaaabbbcccaaabbbccc", 3, "3 3 aaaaaaaaabbbbbbbbbccccccccc", 1}, {"3 3 aaacbbbccaaacbbbccaaacbbbcc", 3, "3 3 aaaaaaaaacccbbbbbbbbbcccccc", 1},
	} {
		checkUndoing(t, mustCode(t, c.code), c.width, mustCode(t, c.undone), c.at, true)
	}
	for _, u := range undoings {
		c, d := mustCode(t, u.code), mustCode(t, u.undone)
		checkUndoing(t, c, d.Width, d, u.at, true)
		checkLeastUndoing(t, c, d.Width)
		for width := 1; width < d.Width; width++ {
			checkNoUndoing(t, c, width)
		}
	}
}

func TestUndoingCodeOfCodesThatAreNotUndone(t *testing.T) {
	list := slices.Concat(ontoButNotOneToOne(t), lateUndone(t), longOrphans(t))
	for _, text := range []string{"2 1 aa", "2 1 bb", "3 1 aaa", "3 1 aab", "3 1 aba", "3 1 baa", "3 1 ccb", "2 2 aaaa", "2 2 aaab", "2 2 bbbb", "2 3 aaaaaaab", "2 4 bbbbbbbbbbbbbbbb", "3 2 aaaaaaaaa", "3 3 ccccccccccccccccccccccccccc"} {
		list = append(list, mustCode(t, text))
	}
	for _, c := range list {
		for width := 1; width <= 4; width++ {
			checkNoUndoing(t, c, width)
		}
		checkLeastUndoing(t, c, 0)
	}
}

// Codes that are one-to-one can need more than the width that a code with 3 letters can have.
func TestCodesThatAreUndoneOnlyLate(t *testing.T) {
	for _, c := range lateUndone(t) {
		checkOneToOne(t, c, true)
		checkLeastUndoing(t, c, 0)
		if _, _, ok := undoingByHand(c, 3); ok {
			t.Errorf("the width 3 undoes %#v", c)
		}
		if _, _, ok := undoingByHand(c, 4); !ok {
			t.Errorf("the width 4 does not undo %#v", c)
		}
	}
}

func TestUndoingCodeOfManyCodes(t *testing.T) {
	found := map[[3]int]int{}
	random := rand.New(rand.NewSource(1313))
	list := someInverse(t)
	for _, c := range undoneCodes(t) {
		list = append(list, withOtherLetter(random, c), withOtherLetter(random, c))
	}
	for _, c := range list {
		least := 0
		for width := 1; width <= 4; width++ {
			if !isForm(c.Letters, width) {
				checkNoUndoing(t, c, width)
				continue
			}
			d, at, ok := undoingByHand(c, width)
			checkUndoing(t, c, width, d, at, ok)
			if ok && least == 0 {
				least = width
				found[[3]int{c.Letters, c.Width, width}]++
			}
		}
		checkLeastUndoing(t, c, least)
	}
	for _, forms := range [][3]int{{2, 1, 1}, {2, 2, 1}, {2, 3, 1}, {2, 4, 1}, {2, 4, 4}, {3, 1, 1}, {3, 2, 1}, {3, 2, 2}, {3, 3, 1}, {3, 3, 2}, {3, 3, 3}} {
		if found[forms] == 0 {
			t.Errorf("no code of the form %v is undone with the least width %d", forms[:2], forms[2])
		}
	}
}

// Tries all codes of the width, as far as they can be composed.
func TestUndoingCodeIsTheOneThatComposesToACopy(t *testing.T) {
	for _, c := range slices.DeleteFunc(someInverse(t), func(c impl.Code) bool { return c.Letters != 2 }) {
		for width := 1; width <= 3 && c.Width+width <= 5; width++ {
			found := map[int]impl.Code{}
			for _, out := range codedWords(2, power(2, width)) {
				d := codeOf(2, width, out)
				composed, ok := impl.ComposeCodes(d, c)
				if !ok {
					t.Fatalf("ComposeCodes(%#v, %#v) fails", d, c)
				}
				for at := range composed.Width {
					if composed == copyByHand(2, composed.Width, at) {
						found[at] = d
					}
				}
			}
			least := 0
			for least < c.Width+width && found[least] == (impl.Code{}) {
				least++
			}
			if len(found) == 0 {
				least = 0
			}
			checkUndoing(t, c, width, found[least], least, len(found) > 0)
		}
	}
}

// There are several indices if the width is greater than needed: the code can look at another place of each part.
func TestUndoingCodeTakesTheLeastIndex(t *testing.T) {
	for _, u := range undoings {
		c, narrow := mustCode(t, u.code), mustCode(t, u.undone)
		for width := narrow.Width + 1; isForm(c.Letters, width); width++ {
			d, at, ok := impl.UndoingCode(c, width)
			if at != u.at || !ok {
				t.Errorf("UndoingCode(%#v, %d) = %#v, %d, %v; want the index %d", c, width, d, at, ok, u.at)
			}
			for later := range width - narrow.Width + 1 {
				// The part that counts begins later, and so does the letter.
				moved := copyByHand(c.Letters, width-narrow.Width+1, later)
				other, ok := impl.ComposeCodes(narrow, moved)
				if !ok || other.Width != width || (other == d) != (later == 0) {
					t.Errorf("UndoingCode(%#v, %d) = %#v; with the part that begins at %d: %#v", c, width, d, later, other)
				}
				checkUndone(t, c, other, u.at+later, "abbababbaab")
			}
		}
	}
}

// P13.
func TestWhatCanBeUndoneIsOneToOne(t *testing.T) {
	random := rand.New(rand.NewSource(13))
	list := append(someInverse(t), fewCodes(60)...)
	for _, form := range codeForms {
		for range 60 {
			list = append(list, randomPermutive(random, form[0], form[1]))
		}
	}
	undone, not := 0, 0
	for _, c := range list {
		oneToOne := impl.IsOneToOne(c)
		if impl.LeastUndoing(c) == 0 {
			not++
			if oneToOne && !slices.Contains(lateUndone(t), c) {
				t.Errorf("LeastUndoing(%#v) = 0; it is one-to-one", c)
			}
			continue
		}
		undone++
		if !oneToOne || !impl.IsOnto(c) {
			t.Errorf("LeastUndoing(%#v) = %d; IsOneToOne %v, IsOnto %v", c, impl.LeastUndoing(c), oneToOne, impl.IsOnto(c))
		}
	}
	if undone < 100 || not < 1000 {
		t.Errorf("%d codes are undone, and %d are not", undone, not)
	}
}

// With 2 letters, all codes that are one-to-one are undone; with 3 letters, those of the widths 1 and 2.
func TestOneToOneCodesAreUndone(t *testing.T) {
	for _, form := range codeForms[:6] {
		for i, out := range codedWords(form[0], power(form[0], form[1])) {
			c := codeOf(form[0], form[1], out)
			if form == [2]int{2, 4} && i%64 > 0 && !impl.IsOnto(c) {
				continue
			}
			if least := impl.LeastUndoing(c); (least > 0) != impl.IsOneToOne(c) {
				t.Errorf("LeastUndoing(%#v) = %d; IsOneToOne %v", c, least, impl.IsOneToOne(c))
			}
		}
	}
}

func TestLeastUndoingIsTheLeastWidth(t *testing.T) {
	for _, c := range someInverse(t) {
		least := impl.LeastUndoing(c)
		for width := 1; width <= 4; width++ {
			_, _, ok := impl.UndoingCode(c, width)
			if want := least > 0 && width >= least && isForm(c.Letters, width); ok != want {
				t.Errorf("LeastUndoing(%#v) = %d; UndoingCode succeeds for %d: %v", c, least, width, ok)
			}
		}
	}
}

func TestUndoingCodeTakesBack(t *testing.T) {
	most := map[int]int{2: 8, 3: 6}
	random := rand.New(rand.NewSource(1316))
	for _, c := range undoneCodes(t) {
		for width := impl.LeastUndoing(c); isForm(c.Letters, width); width++ {
			d, at, ok := impl.UndoingCode(c, width)
			if !ok || !impl.IsCode(d) || d.Letters != c.Letters || d.Width != width || at < 0 || at >= c.Width+width-1 {
				t.Fatalf("UndoingCode(%#v, %d) = %#v, %d, %v", c, width, d, at, ok)
			}
			eachText(letters[:c.Letters], most[c.Letters], func(w string) { checkUndone(t, c, d, at, w) })
			for range 20 {
				checkUndone(t, c, d, at, randomWord(random, c.Letters, 9+random.Intn(8)))
			}
			if composed, ok := impl.ComposeCodes(d, c); ok {
				copies, _ := impl.CopyCode(c.Letters, c.Width+width-1, at)
				checkCode(t, "ComposeCodes", composed, ok, copies, true, d, c)
			} else if isForm(c.Letters, c.Width+width-1) {
				t.Errorf("ComposeCodes(%#v, %#v) fails", d, c)
			}
		}
	}
}

// The code that undoes is onto, so that each part occurs, and is one-to-one itself.
func TestUndoingCodeIsOneToOne(t *testing.T) {
	for _, c := range undoneCodes(t) {
		for width := 1; width <= 4; width++ {
			d, _, ok := impl.UndoingCode(c, width)
			if !ok {
				continue
			}
			checkOneToOne(t, d, true)
			checkOnto(t, d, true)
			checkOnto(t, c, true)
		}
	}
}

func TestUndoingCodeOfOtherWidths(t *testing.T) {
	for _, c := range append(fewCodes(10), undoneCodes(t)...) {
		for _, width := range noUndoingWidths {
			checkNoUndoing(t, c, width)
		}
		if c.Letters == 3 {
			checkNoUndoing(t, c, 4)
		}
	}
}

func TestIsPermutive(t *testing.T) {
	for _, c := range []struct {
		code        string
		left, right bool
	}{
		// The only word of length 0 is the empty one.
		{"2 1 ab", true, true}, {"2 1 ba", true, true}, {"2 1 aa", false, false}, {"2 1 bb", false, false}, {"3 1 abc", true, true}, {"3 1 bca", true, true}, {"3 1 cba", true, true}, {"3 1 aab", false, false}, {"3 1 aba", false, false}, {"3 1 baa", false, false}, {"3 1 ccc", false, false},
		{"2 2 aabb", true, false}, {"2 2 bbaa", true, false}, {"2 2 abab", false, true}, {"2 2 baba", false, true}, {"2 2 abba", true, true}, {"2 2 baab", true, true}, {"2 2 aaaa", false, false}, {"2 2 aaab", false, false}, {"2 2 aaba", false, false}, {"2 2 abaa", false, false}, {"2 2 baaa", false, false}, {"2 2 abbb", false, false}, {"2 2 babb", false, false}, {"2 2 bbab", false, false}, {"2 2 bbba", false, false},
		{"2 3 aaaabbbb", true, false}, {"2 3 aabbaabb", false, false}, {"2 3 abababab", false, true}, {"2 3 abbabaab", true, true}, {"2 3 aaabbbba", true, false}, {"2 3 abbaabba", false, true}, {"2 3 aababbab", true, false}, {"2 3 abababba", false, true}, {"2 3 abbbbaaa", true, false}, {"2 3 abbbbaab", false, false}, {"2 3 ababbaab", false, true},
		{"2 4 aaaaaaaabbbbbbbb", true, false}, {"2 4 aaaaaaabbbbbbbba", true, false}, {"2 4 abababababababab", false, true}, {"2 4 ababbaababababab", false, true}, {"2 4 abbabaabbaababba", true, true}, {"2 4 abbaabbabaabbaab", true, true}, {"2 4 aaaabbbbabaababb", false, false}, {"2 4 aaaabbbbbbbbaaab", false, false}, {"2 4 baaaaaaababbbbbb", false, false}, {"2 4 ababababababaabb", false, false},
		{"3 2 aaabbbccc", true, false}, {"3 2 abcabcabc", false, true}, {"3 2 abcbcacab", true, true}, {"3 2 acbcbabac", true, true}, {"3 2 bcccbbaaa", true, false}, {"3 2 bcacbacba", false, true}, {"3 2 aacccabbb", true, false}, {"3 2 acbbcaacb", false, true}, {"3 2 aabbbaccb", false, false}, {"3 2 abcabcabb", false, false}, {"3 2 abcabcaba", false, false}, {"3 2 abcabccbc", false, false}, {"3 2 aaabbbcca", false, false}, {"3 2 aaabbbccb", false, false}, {"3 2 acabbbccc", false, false},
		{"3 3 aaaaaaaaabbbbbbbbbccccccccc", true, false}, {"3 3 aaabbbcccaaabbbcccaaabbbccc", false, false}, {"3 3 abcabcabcabcabcabcabcabcabc", false, true}, {"3 3 abcbcacabbcacababccababcbca", true, true}, {"3 3 aaaaaaaaacbbcbbbbbbccbccccc", true, false}, {"3 3 acbacbabcabcabcabcabcabcabc", false, true}, {"3 3 abcabcabcabcabcabcabcabcabb", false, false},
	} {
		checkPermutive(t, mustCode(t, c.code), true, c.left)
		checkPermutive(t, mustCode(t, c.code), false, c.right)
	}
}

func TestIsPermutiveOfManyCodes(t *testing.T) {
	random := rand.New(rand.NewSource(131))
	list := append(someInverse(t), fewCodes(100)...)
	for _, form := range codeForms {
		for range 30 {
			c := randomPermutive(random, form[0], form[1])
			list = append(list, c, withOtherLetter(random, c))
		}
	}
	for _, c := range list {
		for _, left := range []bool{true, false} {
			checkPermutive(t, c, left, isPermutiveByHand(c, left))
		}
	}
}

// For each word of length Width - 1 there is one order of the letters, in any of the ways in which they can be put; with both sides, there are as many codes as squares of the letters without a letter twice in a row or column.
func TestIsPermutiveOfAllCodes(t *testing.T) {
	type numbers struct{ left, right, both int }
	counts := map[[2]int]numbers{}
	for _, form := range codeForms[:6] {
		n := numbers{}
		for _, out := range codedWords(form[0], power(form[0], form[1])) {
			c := codeOf(form[0], form[1], out)
			left, right := impl.IsPermutive(c, true), impl.IsPermutive(c, false)
			if left {
				n.left++
			}
			if right {
				n.right++
			}
			if left && right {
				n.both++
			}
		}
		counts[form] = n
	}
	for form, want := range map[[2]int]numbers{{2, 1}: {2, 2, 2}, {2, 2}: {4, 4, 2}, {2, 3}: {16, 16, 4}, {2, 4}: {256, 256, 16}, {3, 1}: {6, 6, 6}, {3, 2}: {216, 216, 12}} {
		if counts[form] != want {
			t.Errorf("codes of the form %v: %v are permutive on the left, on the right and on both sides; want %v", form, counts[form], want)
		}
	}
}

// Seen in a mirror, left and right are exchanged.
func TestIsPermutiveOfMirroredCodes(t *testing.T) {
	for _, c := range someInverse(t) {
		table, mirrored := tableOf(c), codeOf(c.Letters, c.Width, "")
		for _, w := range codedWords(c.Letters, c.Width) {
			mirrored.Out += table[impl.MirrorWord(w)]
		}
		for _, left := range []bool{true, false} {
			checkPermutive(t, mirrored, !left, impl.IsPermutive(c, left))
		}
	}
}

func TestOneToOneAndPermutiveCodesAreOnto(t *testing.T) {
	random := rand.New(rand.NewSource(132))
	list := someInverse(t)
	for range 200 {
		list = append(list, randomPermutive(random, 2, 4), randomPermutive(random, 3, 3))
	}
	counts := [3]int{}
	for _, c := range list {
		for i, holds := range []bool{impl.IsOneToOne(c), impl.IsPermutive(c, true), impl.IsPermutive(c, false)} {
			if holds {
				counts[i]++
				checkOnto(t, c, true)
			}
		}
	}
	if slices.Min(counts[:]) < 60 {
		t.Errorf("only so many codes are one-to-one, and permutive on the left and on the right: %v", counts)
	}
}

func TestSameOnRings(t *testing.T) {
	for _, c := range []struct {
		c, d string
		// For each n from 1 to 6, 1 if the codes are the same.
		same string
	}{
		{"2 1 ab", "2 1 ab", "111111"}, {"2 1 ab", "2 1 ba", "000000"}, {"2 1 aa", "2 1 ab", "000000"}, {"2 1 aa", "2 1 ba", "000000"}, {"3 1 bca", "3 1 bca", "111111"}, {"3 1 abc", "3 1 abb", "000000"}, {"3 1 abc", "3 1 bbc", "000000"}, {"3 1 aab", "3 1 aab", "111111"},
		// Different widths.
		{"2 1 ab", "2 2 aabb", "111111"}, {"2 1 ab", "2 3 aaaabbbb", "111111"}, {"2 1 ab", "2 4 aaaaaaaabbbbbbbb", "111111"}, {"2 2 abba", "2 3 aabbbbaa", "111111"}, {"2 2 abba", "2 4 aaaabbbbbbbbaaaa", "111111"}, {"2 1 aa", "2 4 aaaaaaaaaaaaaaaa", "111111"}, {"3 1 bca", "3 2 bbbcccaaa", "111111"}, {"3 1 bca", "3 3 bbbbbbbbbcccccccccaaaaaaaaa", "111111"}, {"3 2 abcbcacab", "3 3 aaabbbcccbbbcccaaacccaaabbb", "111111"},
		// The same up to a turn, which the rings of one letter do not show.
		{"2 1 ab", "2 2 abab", "100000"}, {"2 2 aabb", "2 2 abab", "100000"}, {"2 2 abba", "2 3 abbaabba", "110000"}, {"2 1 ab", "2 3 abababab", "110000"}, {"2 1 ab", "2 4 abababababababab", "101000"}, {"2 2 abab", "2 4 abababababababab", "110000"}, {"2 3 abababab", "2 4 aabbaabbaabbaabb", "111111"}, {"3 1 bca", "3 2 bcabcabca", "100000"}, {"3 1 abc", "3 3 abcabcabcabcabcabcabcabcabc", "110000"},
		// One part only is given another letter: the first ring, the last one and others that have it.
		{"2 2 abba", "2 2 bbba", "000000"}, {"2 2 abba", "2 2 abbb", "000000"}, {"2 2 abba", "2 2 aaba", "100000"}, {"2 2 abba", "2 2 abaa", "100000"}, {"2 3 aaaaaaaa", "2 3 aaaaaaab", "000000"}, {"2 3 aaaaaaaa", "2 3 baaaaaaa", "000000"}, {"2 3 aaaaaaaa", "2 3 aabaaaaa", "100000"}, {"2 3 aaaaaaaa", "2 3 aaabaaaa", "110000"}, {"2 3 aaaaaaaa", "2 3 abaaaaaa", "110000"}, {"2 4 aaaaaaaaaaaaaaaa", "2 4 aaaaabaaaaaaaaaa", "101000"}, {"2 4 aaaaaaaaaaaaaaaa", "2 4 aaabaaaaaaaaaaaa", "111000"}, {"2 4 aaaaaaaaaaaaaaaa", "2 4 abaaaaaaaaaaaaaa", "111000"}, {"2 4 aaaaaaaaaaaaaaaa", "2 4 aabaaaaaaaaaaaaa", "110000"}, {"3 2 abcbcacab", "3 2 abcbaacab", "000000"}, {"3 2 abcbcacab", "3 2 abcbcbcab", "100000"}, {"3 3 aaaaaaaaaaaaaaaaaaaaaaaaaaa", "3 3 aaaaabaaaaaaaaaaaaaaaaaaaaa", "110000"}, {"3 3 aaaaaaaaaaaaaaaaaaaaaaaaaaa", "3 3 aaaaaaaaaaaaaaaaaaaaaaaaaac", "000000"},
		// Different Letters.
		{"2 1 ab", "3 1 abc", "000000"}, {"2 1 ab", "3 1 aba", "000000"}, {"2 1 aa", "3 1 aaa", "000000"}, {"2 2 aabb", "3 2 aaabbbccc", "000000"}, {"2 4 aaaaaaaaaaaaaaaa", "3 3 aaaaaaaaaaaaaaaaaaaaaaaaaaa", "000000"},
	} {
		for n := 1; n <= mostRing; n++ {
			checkSame(t, mustCode(t, c.c), mustCode(t, c.d), n, c.same[n-1] == '1')
		}
	}
}

func TestSameOnRingsOfManyPairs(t *testing.T) {
	random := rand.New(rand.NewSource(133))
	list := slices.Concat(fewCodes(6), undoneCodes(t)[:24], ontoButNotOneToOne(t))
	pairs := [][2]impl.Code{}
	for i, c := range list {
		pairs = append(pairs, [2]impl.Code{c, c}, [2]impl.Code{c, withOtherLetter(random, c)}, [2]impl.Code{c, withOtherLetter(random, c)}, [2]impl.Code{c, list[(i+1)%len(list)]})
		for width := 2; isForm(c.Letters, c.Width+width-1); width++ {
			for at := range width {
				wider, _ := composeByHand(c, copyByHand(c.Letters, width, at))
				pairs = append(pairs, [2]impl.Code{c, wider}, [2]impl.Code{c, withOtherLetter(random, wider)})
			}
		}
	}
	for _, p := range pairs {
		for n := 1; n <= mostRing; n++ {
			if p[0].Letters == 3 && n > 4 && random.Intn(4) > 0 {
				continue
			}
			checkSame(t, p[0], p[1], n, sameOnRingsByHand(p[0], p[1], n))
		}
	}
}

// A ring of at most Width letters is told by any part, so that codes that differ for one part differ for one ring and its turns only.
func TestSameOnRingsOfCodesThatDifferForOneRing(t *testing.T) {
	for _, c := range fewCodes(8) {
		for n := 1; n <= c.Width; n++ {
			for _, w := range codedWords(c.Letters, n) {
				part, d := strings.Repeat(w, c.Width)[:c.Width], codeOf(c.Letters, c.Width, "")
				for i, u := range codedWords(c.Letters, c.Width) {
					letter := c.Out[i : i+1]
					if u == part {
						letter = letters[(strings.Index(letters, letter)+1)%c.Letters:][:1]
					}
					d.Out += letter
				}
				checkSame(t, c, d, n, false)
				for _, u := range codedWords(c.Letters, n) {
					first, _ := impl.ApplyRing(c, u)
					second, _ := impl.ApplyRing(d, u)
					if (first != second) != (impl.LeastTurn(u) == impl.LeastTurn(w)) {
						t.Errorf("ApplyRing of %#v and %#v for %q: %q and %q; only %q should differ", c, d, u, first, second, w)
					}
				}
			}
		}
	}
}

// Codes that differ for one part only are the same if the part does not go round a ring of n letters, as it does not repeat itself after n.
func TestSameOnRingsOfCodesThatDifferForOnePart(t *testing.T) {
	for _, c := range fewCodes(8) {
		for i, w := range codedWords(c.Letters, c.Width) {
			for letter := range c.Letters {
				d := codeOf(c.Letters, c.Width, c.Out[:i]+letters[letter:letter+1]+c.Out[i+1:])
				for n := 1; n <= 5; n++ {
					fits := n >= c.Width || w[n:] == w[:c.Width-n]
					checkSame(t, c, d, n, c == d || !fits)
				}
			}
		}
	}
}

func TestSameOnRingsOfOtherLengths(t *testing.T) {
	for _, c := range fewCodes(10) {
		for _, n := range noRings {
			checkSame(t, c, c, n, false)
		}
	}
}

// Codes that are the same once they are as wide are the same on rings; up to 6 letters tell all codes up to the width 4.
func TestSameOnRingsExactlyIfTheSameOnceAsWide(t *testing.T) {
	list := append(fewCodes(16), undoneCodes(t)[:20]...)
	widen := func(c impl.Code) impl.Code {
		for isForm(c.Letters, c.Width+1) {
			c, _ = composeByHand(c, copyByHand(c.Letters, 2, 0))
		}
		return c
	}
	for i, c := range list {
		for j, d := range list {
			if (i+j)%5 > 0 && i != j {
				continue
			}
			checkSame(t, c, d, mostRing, widen(c) == widen(d))
		}
	}
}

func TestInverseFunctionsOfNoCode(t *testing.T) {
	for _, c := range noCodes() {
		checkOneToOne(t, c, false)
		for _, width := range append([]int{1, 2, 3, 4, 1 - c.Width, c.Width}, noUndoingWidths...) {
			checkNoUndoing(t, c, width)
		}
		checkLeastUndoing(t, c, 0)
		checkPermutive(t, c, true, false)
		checkPermutive(t, c, false, false)
		others := []impl.Code{c, {}, codeOf(2, 1, "ab"), codeOf(2, 4, "abbaabbaabbaabba"), codeOf(3, 1, "bca"), codeOf(3, 3, strings.Repeat("abc", 9)), codeOf(c.Letters, 1, "ab")}
		for _, n := range append([]int{1, 2, 3, 4, 5, 6}, noRings...) {
			for _, d := range others {
				checkSame(t, c, d, n, false)
			}
		}
	}
}

// Nothing is kept from one call to the next.
func TestInverseFunctionsAgain(t *testing.T) {
	list := slices.Concat(fewCodes(10), undoneCodes(t), lateUndone(t), noCodes()[:10])
	call := func(c impl.Code) string {
		text := strconv.FormatBool(impl.IsOneToOne(c)) + strconv.Itoa(impl.LeastUndoing(c)) + strconv.FormatBool(impl.IsPermutive(c, true)) + strconv.FormatBool(impl.IsPermutive(c, false))
		for width := 1; width <= 4; width++ {
			d, at, _ := impl.UndoingCode(c, width)
			text += " " + impl.CodeText(d) + " " + strconv.Itoa(at) + strconv.FormatBool(impl.SameOnRings(c, d, width))
		}
		return text
	}
	checkAgain(t, list, call)
}
