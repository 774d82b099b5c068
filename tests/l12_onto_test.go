package tests

import (
	"math"
	"math/rand"
	"slices"
	"strings"
	"testing"

	"loop.example/g03103/impl"
)

const (
	mostSourced  = 8
	mostBalanced = 5
	mostTwin     = 7
)

// notBalanced are lengths for which IsBalanced is false, just beyond the limits and far from them.
var notBalanced = []int{-1, 6, -2, -5, 7, 8, 9, 16, 17, 256, 256 + 3, 1 << 32, 1<<32 + 3, -1 << 32, math.MinInt, math.MinInt + 1, math.MaxInt}

// weightedSum gives the sum of the letters of each word, taken as numbers from 0, times the factors.
func weightedSum(k int, factors ...int) impl.Code {
	out := ""
	for _, w := range codedWords(k, len(factors)) {
		sum := 0
		for i, factor := range factors {
			sum += factor * strings.Index(letters, w[i:i+1])
		}
		out += letters[sum%k : sum%k+1]
	}
	return codeOf(k, len(factors), out)
}

// randomPermutive adds the first or the last letter of each word to something that depends on the other letters.
func randomPermutive(random *rand.Rand, k, width int) impl.Code {
	out, added, first := "", map[string]int{}, random.Intn(2) == 0
	for _, w := range codedWords(k, width) {
		letter, others := w[width-1:], w[:width-1]
		if first {
			letter, others = w[:1], w[1:]
		}
		if _, ok := added[others]; !ok {
			added[others] = random.Intn(k)
		}
		sum := (strings.Index(letters, letter) + added[others]) % k
		out += letters[sum : sum+1]
	}
	return codeOf(k, width, out)
}

// ontoCodes are codes for which any word can be given a source from one of its ends to the other.
func ontoCodes() []impl.Code {
	random := rand.New(rand.NewSource(12))
	var list []impl.Code
	for _, form := range codeForms {
		k, width := form[0], form[1]
		for at := range width {
			list = append(list, copyByHand(k, width, at))
		}
		for n := 1; n < power(k, width); n++ {
			factors := make([]int, width)
			for i := range factors {
				factors[i] = n / power(k, i) % k
			}
			list = append(list, weightedSum(k, factors...))
		}
		for range 10 {
			list = append(list, randomPermutive(random, k, width))
		}
	}
	for _, out := range []string{"abc", "acb", "bac", "bca", "cab", "cba"} {
		list = append(list, codeOf(3, 1, out))
	}
	return append(list, codeOf(2, 1, "ab"), codeOf(2, 1, "ba"))
}

// longOrphans are codes whose shortest orphans have more than 8 letters: 9, 9, 9, 10, 11, 12, 13, 14, 16, 17, 18 and 21. The last ones are longer than a word.
func longOrphans(t *testing.T) []impl.Code {
	t.Helper()
	var list []impl.Code
	for _, text := range []string{
		"2 3 aabaabab", "2 3 ababbabb", "2 4 aaaaaabbabbbbbaa", "2 4 aaaaabbaababbaab", "2 4 aaaaabababbbbaba", "2 4 aaabaabaabbabbab", "2 4 aaababbabaababba",
		"2 4 ababaababababaab", "2 4 aaabbaababbaabba", "2 4 aaababbaabbabaab", "2 4 aaababababbababa", "3 3 bcbacbacbcbacbacbabacbacbac",
	} {
		list = append(list, mustCode(t, text))
	}
	return list
}

// someSourced are all codes with 2 letters and the widths 1 to 3, and some of each other form, among them many that are onto.
func someSourced() []impl.Code {
	list := slices.DeleteFunc(fewCodes(256), func(c impl.Code) bool { return c.Letters != 2 || c.Width > 3 })
	list = append(list, ontoCodes()...)
	return append(list, slices.DeleteFunc(fewCodes(30), func(c impl.Code) bool { return c.Letters == 2 && c.Width < 4 })...)
}

// sourcesByHand holds for each word of n letters all words that are taken to it, in ascending order.
func sourcesByHand(c impl.Code, n int) map[string][]string {
	table, sources := tableOf(c), map[string][]string{}
	for _, v := range codedWords(c.Letters, n+c.Width-1) {
		w := applyByHand(table, c.Width, v)
		sources[w] = append(sources[w], v)
	}
	return sources
}

// orphanByHand looks for an orphan of at most most letters among all words, from the shortest and least one on.
func orphanByHand(c impl.Code, most int) (string, bool) {
	for n := range most + 1 {
		sources := sourcesByHand(c, n)
		for _, w := range codedWords(c.Letters, n) {
			if len(sources[w]) == 0 {
				return w, true
			}
		}
	}
	return "", false
}

// isBalancedByHand is for any length.
func isBalancedByHand(c impl.Code, n int) bool {
	sources := sourcesByHand(c, n)
	for _, w := range codedWords(c.Letters, n) {
		if len(sources[w]) != len(sources[strings.Repeat("a", n)]) {
			return false
		}
	}
	return true
}

// hasTwins reports whether there are twins of any length, by going through the pairs of the last Width - 1 letters of two words that begin with the same ones. Exactly then the code is not onto.
func hasTwins(c impl.Code) bool {
	type pair struct {
		u, v    int
		differs bool
	}
	count := len(c.Out) / c.Letters
	met, waiting := map[pair]bool{}, []pair{}
	for u := range count {
		waiting = append(waiting, pair{u, u, false})
	}
	for len(waiting) > 0 {
		p := waiting[0]
		waiting = waiting[1:]
		for i := p.u * c.Letters; i < (p.u+1)*c.Letters; i++ {
			for j := p.v * c.Letters; j < (p.v+1)*c.Letters; j++ {
				next := pair{i % count, j % count, p.differs || i != j}
				if c.Out[i] != c.Out[j] || met[next] {
					continue
				}
				if next.u == next.v && next.differs {
					return true
				}
				met[next] = true
				waiting = append(waiting, next)
			}
		}
	}
	return false
}

// twinsByHand follows the document.
func twinsByHand(c impl.Code) (string, string, bool) {
	table := tableOf(c)
	for n := c.Width; n <= mostTwin && c.Letters == 2; n++ {
		words := codedWords(2, n)
		var coded []string
		for _, w := range words {
			coded = append(coded, applyByHand(table, c.Width, w))
		}
		for i, u := range words {
			for j, v := range words {
				if i != j && coded[i] == coded[j] && sameEnds(u, v, c.Width-1) {
					return u, v, true
				}
			}
		}
	}
	return "", "", false
}

// sameEnds reports whether the words have the same first and the same last letters, n each.
func sameEnds(u, v string, n int) bool {
	return strings.HasPrefix(v, u[:n]) && strings.HasSuffix(v, u[len(u)-n:])
}

func checkCount(t *testing.T, c impl.Code, w string, want int) {
	t.Helper()
	if got := impl.CountSources(c, w); got != want {
		t.Errorf("CountSources(%#v, %q) = %d; want %d", c, w, got, want)
	}
}

func checkFirst(t *testing.T, c impl.Code, w, want string, accepted bool) {
	t.Helper()
	got, ok := impl.FirstSource(c, w)
	checkText(t, "FirstSource", c, w, got, ok, want, accepted)
}

// checkSources demands these sources in ascending order, as far as CountSources and FirstSource tell of them.
func checkSources(t *testing.T, c impl.Code, w string, sources []string) {
	t.Helper()
	checkCount(t, c, w, len(sources))
	if len(sources) == 0 {
		checkFirst(t, c, w, "", false)
		return
	}
	checkFirst(t, c, w, sources[0], true)
}

func checkOnto(t *testing.T, c impl.Code, want bool) {
	t.Helper()
	if got := impl.IsOnto(c); got != want {
		t.Errorf("IsOnto(%#v) = %v", c, got)
	}
}

func checkOrphan(t *testing.T, c impl.Code, want string, accepted bool) {
	t.Helper()
	got, ok := impl.FirstOrphan(c)
	if got != want || ok != accepted {
		t.Errorf("FirstOrphan(%#v) = %q, %v; want %q, %v", c, got, ok, want, accepted)
	}
}

func checkBalanced(t *testing.T, c impl.Code, n int, want bool) {
	t.Helper()
	if got := impl.IsBalanced(c, n); got != want {
		t.Errorf("IsBalanced(%#v, %d) = %v", c, n, got)
	}
}

func checkTwins(t *testing.T, c impl.Code, u, v string, accepted bool) {
	t.Helper()
	gotU, gotV, ok := impl.TwinsOf(c)
	if gotU != u || gotV != v || ok != accepted {
		t.Errorf("TwinsOf(%#v) = %q, %q, %v; want %q, %q, %v", c, gotU, gotV, ok, u, v, accepted)
	}
}

func TestCountSources(t *testing.T) {
	for _, c := range []struct {
		code, w string
		want    int
	}{
		{"2 2 abba", "", 2}, {"2 2 abba", "a", 2}, {"2 2 abba", "b", 2}, {"2 2 abba", "ab", 2}, {"2 2 abba", "babbaaba", 2}, {"2 2 abba", "bbbbbbbb", 2},
		{"2 2 aaab", "", 2}, {"2 2 aaab", "a", 3}, {"2 2 aaab", "b", 1}, {"2 2 aaab", "aa", 5}, {"2 2 aaab", "ab", 1}, {"2 2 aaab", "ba", 1}, {"2 2 aaab", "bb", 1}, {"2 2 aaab", "bab", 0}, {"2 2 aaab", "baab", 1}, {"2 2 aaab", "baaab", 1}, {"2 2 aaab", "aaaaaaaa", 89}, {"2 2 aaab", "bbbbbbbb", 1}, {"2 2 aaab", "aaaababa", 0}, {"2 2 aaab", "baaaaaab", 5},
		{"2 1 ab", "", 1}, {"2 1 ab", "abbab", 1}, {"2 1 ba", "", 1}, {"2 1 ba", "a", 1}, {"2 1 ba", "bbbbbbbb", 1}, {"2 1 aa", "", 1}, {"2 1 aa", "a", 2}, {"2 1 aa", "b", 0}, {"2 1 aa", "aaaaaaaa", 256}, {"2 1 aa", "aaaaaaab", 0}, {"2 1 aa", "baaaaaaa", 0}, {"2 1 bb", "bbb", 8}, {"2 1 bb", "bab", 0},
		{"3 1 bca", "abccba", 1}, {"3 1 aab", "", 1}, {"3 1 aab", "a", 2}, {"3 1 aab", "b", 1}, {"3 1 aab", "c", 0}, {"3 1 aab", "abab", 4}, {"3 1 aab", "aaaaaaaa", 256}, {"3 1 aab", "aabaabaa", 64}, {"3 1 ccc", "cccccccc", 6561}, {"3 1 ccc", "ccccaccc", 0},
		{"2 3 aaaaaaab", "", 4}, {"2 3 aaaaaaab", "a", 7}, {"2 3 aaaaaaab", "b", 1}, {"2 3 aaaaaaab", "aaaaaaaa", 504}, {"2 3 aaaaaaab", "bab", 0}, {"2 3 bbbbbbbb", "bbbbbbbb", 1024},
		{"2 4 aaaaaaaaaaaaaaab", "", 8}, {"2 4 aaaaaaaaaaaaaaab", "a", 15}, {"2 4 aaaaaaaaaaaaaaab", "b", 1}, {"2 4 aaaaaaaaaaaaaaab", "aaaaaaaa", 1490}, {"2 4 bbbbbbbbbbbbbbbb", "bbbbbbbb", 2048}, {"2 4 bbbbbbbbbbbbbbbb", "bbbbbbba", 0},
		{"3 2 abcbcacab", "", 3}, {"3 2 abcbcacab", "c", 3}, {"3 2 abcbcacab", "abcacbbc", 3}, {"3 2 aaaaaaaab", "a", 8}, {"3 2 aaaaaaaab", "b", 1}, {"3 2 aaaaaaaab", "c", 0}, {"3 2 aaaaaaaab", "bab", 0}, {"3 2 aaaaaaaab", "baab", 2}, {"3 2 aaaaaaaab", "aaaaaaaa", 9136},
		{"3 3 aaaaaaaaaaaaaaaaaaaaaaaaaaa", "", 9}, {"3 3 aaaaaaaaaaaaaaaaaaaaaaaaaaa", "a", 27}, {"3 3 aaaaaaaaaaaaaaaaaaaaaaaaaaa", "aaaaaaaa", 59049}, {"3 3 aaaaaaaaaaaaaaaaaaaaaaaaaaa", "b", 0}, {"3 3 aaabbbcccaaabbbcccaaabbbccc", "abcabcab", 9},
		// More than 8 letters.
		{"2 2 abba", "aaaaaaaaa", -1}, {"2 1 ba", "ababababa", -1}, {"2 2 aaab", "babbbbbbb", -1}, {"3 3 aaaaaaaaaaaaaaaaaaaaaaaaaaa", "bbbbbbbbb", -1}, {"2 2 abba", "abbabaabbaababba", -1}, {"3 1 bca", "ccccccccccccccccc", -1},
		// Letters that the code does not have.
		{"2 2 abba", "c", -1}, {"2 1 ba", "abc", -1}, {"2 4 bbbbbbbbbbbbbbbb", "bbbbbbbc", -1}, {"3 1 bca", "d", -1},
	} {
		checkCount(t, mustCode(t, c.code), c.w, c.want)
	}
}

func TestFirstSource(t *testing.T) {
	for _, c := range []struct {
		code, w, want string
		accepted      bool
	}{
		{"2 2 abba", "", "a", true}, {"2 2 abba", "a", "aa", true}, {"2 2 abba", "b", "ab", true}, {"2 2 abba", "ab", "aab", true}, {"2 2 abba", "bbbbbbbb", "ababababa", true}, {"2 2 abba", "aaaaaaab", "aaaaaaaab", true},
		{"2 2 aaab", "b", "bb", true}, {"2 2 aaab", "ab", "abb", true}, {"2 2 aaab", "ba", "bba", true}, {"2 2 aaab", "baab", "bbabb", true}, {"2 2 aaab", "baaab", "bbaabb", true}, {"2 2 aaab", "bab", "", false}, {"2 2 aaab", "bbbbbbbb", "bbbbbbbbb", true}, {"2 2 aaab", "aaaababa", "", false},
		{"2 1 ab", "", "", true}, {"2 1 ab", "abbab", "abbab", true}, {"2 1 ba", "", "", true}, {"2 1 ba", "abbab", "baaba", true}, {"2 1 aa", "aaaaaaaa", "aaaaaaaa", true}, {"2 1 aa", "aaaaaaab", "", false}, {"2 1 bb", "", "", true}, {"3 1 bca", "abc", "cab", true}, {"3 1 ccb", "ccbcc", "aacaa", true}, {"3 1 ccb", "a", "", false},
		// The empty word, for each width.
		{"2 3 aaaaaaab", "", "aa", true}, {"2 4 bbbbbbbbbbbbbbbb", "", "aaa", true}, {"3 2 abcbcacab", "", "a", true}, {"3 3 ccccccccccccccccccccccccccc", "", "aa", true}, {"3 1 bbb", "", "", true},
		// The letters that are copied are given, and the others are a.
		{"2 4 aaaabbbbaaaabbbb", "bbab", "abbabaa", true}, {"2 3 aaaabbbb", "bb", "bbaa", true}, {"2 3 abababab", "bb", "aabb", true}, {"3 3 aaabbbcccaaabbbcccaaabbbccc", "cab", "acaba", true},
		// A beginning that is less leads to no source, or to one only later.
		{"2 2 abaa", "ba", "aba", true}, {"2 2 aaba", "ab", "aba", true}, {"2 2 aaba", "aab", "aaba", true}, {"2 2 aaab", "aaaaaaab", "aaaaaaabb", true}, {"2 2 aabb", "baaaaaab", "baaaaaaba", true}, {"2 2 baab", "ab", "abb", true}, {"2 2 abab", "b", "ab", true}, {"2 3 aababbab", "ab", "aaba", true},
		{"2 2 abba", "aaaaaaaaa", "", false}, {"2 1 ba", "ababababa", "", false}, {"2 1 ba", "c", "", false}, {"2 2 abba", "abbabaabbaababba", "", false}, {"3 1 bca", "ccccccccccccccccc", "", false}, {"3 1 bca", "d", "", false},
	} {
		checkFirst(t, mustCode(t, c.code), c.w, c.want, c.accepted)
	}
}

// The empty word has each word of Width - 1 letters as a source, the empty one for the width 1.
func TestSourcesOfTheEmptyWord(t *testing.T) {
	for _, c := range append(fewCodes(256), ontoCodes()...) {
		checkSources(t, c, "", codedWords(c.Letters, c.Width-1))
	}
}

func checkAllSources(t *testing.T, c impl.Code, n int) {
	t.Helper()
	sources, total := sourcesByHand(c, n), 0
	for _, w := range codedWords(c.Letters, n) {
		checkSources(t, c, w, sources[w])
		total += impl.CountSources(c, w)
	}
	if want := power(c.Letters, n+c.Width-1); total != want {
		t.Errorf("CountSources of %#v over all words of %d letters is %d; want %d", c, n, total, want)
	}
}

func TestSourcesOfAllShortWords(t *testing.T) {
	most := map[int]int{2: 6, 3: 3}
	for _, c := range someSourced() {
		for n := range most[c.Letters] + 1 {
			checkAllSources(t, c, n)
		}
	}
}

func TestSourcesOfAllWordsOfEightLetters(t *testing.T) {
	random := rand.New(rand.NewSource(128))
	for _, form := range codeForms {
		k, width := form[0], form[1]
		list := []impl.Code{randomCode(random, k, width), randomCode(random, k, width), copyByHand(k, width, width-1), randomPermutive(random, k, width)}
		if k == 3 {
			list = list[:1]
		}
		for _, c := range list {
			checkAllSources(t, c, mostSourced)
		}
	}
}

func TestSourcesOfLongerWords(t *testing.T) {
	random := rand.New(rand.NewSource(129))
	for _, c := range fewCodes(20) {
		for n := mostSourced + 1; n <= 20; n++ {
			for _, w := range []string{strings.Repeat("a", n), strings.Repeat("b", n), strings.Repeat("ab", n)[:n], applyByHand(tableOf(c), c.Width, randomWord(random, c.Letters, n+c.Width-1))} {
				checkCount(t, c, w, -1)
				checkFirst(t, c, w, "", false)
			}
		}
	}
}

func randomWord(random *rand.Rand, k, n int) string {
	w := make([]byte, n)
	for i := range w {
		w[i] = letters[random.Intn(k)]
	}
	return string(w)
}

// A source is a word that ApplyCode takes to the word; a word taken to itself again has at least this one.
func TestFirstSourceIsTakenToTheWord(t *testing.T) {
	random := rand.New(rand.NewSource(1212))
	for _, c := range someSourced() {
		for range 10 {
			v := randomWord(random, c.Letters, c.Width-1+random.Intn(mostSourced+1))
			w, ok := impl.ApplyCode(c, v)
			first, found := impl.FirstSource(c, w)
			again, applied := impl.ApplyCode(c, first)
			if !ok || !found || !applied || again != w || len(first) != len(v) || first > v {
				t.Errorf("FirstSource(%#v, %q) = %q, %v, which is taken to %q, %v; %q is a source", c, w, first, found, again, applied, v)
			}
			if impl.CountSources(c, w) < 1 {
				t.Errorf("CountSources(%#v, %q) = %d; %q is a source", c, w, impl.CountSources(c, w), v)
			}
		}
	}
}

func TestSourcesOfOtherStrings(t *testing.T) {
	for _, c := range fewCodes(10) {
		others := noWords()
		for k := c.Letters; k < 3; k++ {
			more := letters[k : k+1]
			others = append(others, more, more+"a", "a"+more, "bab"+more+"bab", "aaaaaaa"+more, more+"aaaaaaa", strings.Repeat("a", 8)+more, strings.Repeat("a", 15)+more)
		}
		for b := range 256 {
			letter := string([]byte{byte(b)})
			if !strings.Contains(letters[:c.Letters], letter) {
				others = append(others, letter, "a"+letter, letter+"b", "bab"+letter+"bab")
			}
		}
		for _, w := range others {
			checkCount(t, c, w, -1)
			checkFirst(t, c, w, "", false)
		}
	}
}

func TestIsOnto(t *testing.T) {
	for _, text := range []string{
		"2 1 ab", "2 1 ba", "2 2 aabb", "2 2 abab", "2 2 abba", "2 2 baab", "2 2 baba", "2 2 bbaa", "2 3 aaaabbbb", "2 3 abbabaab", "2 3 aaabbbba", "2 3 aababbab", "2 4 aabbaabbaabbaabb", "2 4 aaaaaaabbbbbbbba", "2 4 aaaaaababbbbbbab",
		"3 1 abc", "3 1 acb", "3 1 bca", "3 1 cba", "3 2 abcbcacab", "3 2 aaabbbccc", "3 2 cccbbbaaa", "3 2 bcccbbaaa", "3 3 abcabcabcabcabcabcabcabcabc", "3 3 abcbcacabbcacababccababcbca",
	} {
		checkOnto(t, mustCode(t, text), true)
	}
	for _, text := range []string{
		"2 1 aa", "2 1 bb", "2 2 aaaa", "2 2 bbbb", "2 2 aaab", "2 2 aaba", "2 2 abaa", "2 2 baaa", "2 2 abbb", "2 3 aaaaaaab", "2 3 aababbba", "2 3 aabababb", "2 3 aaababba", "2 4 aaaaaaaaaaaaaaaa", "2 4 aaaaaaababbbbbbb", "2 4 aaabbabaabbbbaab",
		"3 1 aaa", "3 1 aab", "3 1 aba", "3 1 baa", "3 1 bcb", "3 2 ababababa", "3 2 ccbcbbaaa", "3 3 aaaaaaaaaaaaaaaaaaaaaaaaaaa", "3 3 abcabcabcabcabcabcabcabcabb",
	} {
		checkOnto(t, mustCode(t, text), false)
	}
	for _, c := range longOrphans(t) {
		checkOnto(t, c, false)
		if !hasTwins(c) {
			t.Errorf("%#v has no twins of any length", c)
		}
	}
	for _, c := range ontoCodes() {
		checkOnto(t, c, true)
	}
}

// The first words that differ in their number of sources may have more letters than IsBalanced takes.
func TestIsOntoOfACodeThatIsBalancedForShortWords(t *testing.T) {
	c := mustCode(t, "3 3 cacacbcbabacaccbcabababbcba")
	checkBalanced(t, c, mostBalanced, true)
	checkOnto(t, c, false)
	if isBalancedByHand(c, mostBalanced+1) || !hasTwins(c) {
		t.Errorf("%#v is balanced for longer words, or has no twins of any length", c)
	}
}

// All codes with 2 letters, all with 3 letters and the widths 1 and 2, and some of the others. How many of each form are onto was counted apart.
func TestIsOntoOfAllCodes(t *testing.T) {
	counts := map[[2]int]int{}
	for _, form := range codeForms[:6] {
		for _, out := range codedWords(form[0], power(form[0], form[1])) {
			c := codeOf(form[0], form[1], out)
			onto := impl.IsOnto(c)
			if onto == hasTwins(c) {
				t.Errorf("IsOnto(%#v) = %v", c, onto)
			}
			if onto {
				counts[form]++
			}
		}
	}
	for form, want := range map[[2]int]int{{2, 1}: 2, {2, 2}: 6, {2, 3}: 30, {2, 4}: 582, {3, 1}: 6, {3, 2}: 420} {
		if counts[form] != want {
			t.Errorf("%d codes of the form %v are onto; want %d", counts[form], form, want)
		}
	}
	random := rand.New(rand.NewSource(33))
	for range 1000 {
		for _, c := range []impl.Code{randomCode(random, 3, 3), withOtherLetter(random, randomPermutive(random, 3, 3))} {
			checkOnto(t, c, !hasTwins(c))
		}
	}
}

// withOtherLetter gives the code that has another letter at one place, or the same one.
func withOtherLetter(random *rand.Rand, c impl.Code) impl.Code {
	at := random.Intn(len(c.Out))
	return codeOf(c.Letters, c.Width, c.Out[:at]+randomWord(random, c.Letters, 1)+c.Out[at+1:])
}

// One code after the other is onto if both are, and if both have the same letters only then.
func TestIsOntoOfComposedCodes(t *testing.T) {
	list := append(someSourced(), longOrphans(t)...)
	list = slices.DeleteFunc(list, func(c impl.Code) bool { return c.Letters == 2 && c.Width == 3 && c.Out[0] == 'b' })
	count := 0
	for _, c := range list {
		for _, d := range list {
			composed, ok := impl.ComposeCodes(c, d)
			if !ok {
				continue
			}
			count++
			if got, first, second := impl.IsOnto(composed), impl.IsOnto(d), impl.IsOnto(c); got != (first && second) {
				t.Fatalf("IsOnto(%#v) = %v; it is %#v, %v, and then %#v, %v", composed, got, d, first, c, second)
			}
		}
	}
	if count < 3000 {
		t.Errorf("only %d pairs of codes were composed", count)
	}
}

// P12.
func TestACodeIsOntoExactlyIfAllWordsHaveTheSameNumberOfSources(t *testing.T) {
	most := map[int]int{2: 6, 3: 3}
	for _, c := range append(someSourced(), longOrphans(t)...) {
		same, full := true, true
		for n := range most[c.Letters] + 1 {
			first := impl.CountSources(c, strings.Repeat("a", n))
			for _, w := range codedWords(c.Letters, n) {
				count := impl.CountSources(c, w)
				same, full = same && count == first, full && count == power(c.Letters, c.Width-1)
			}
		}
		if onto := impl.IsOnto(c); onto != same || onto != full {
			t.Errorf("IsOnto(%#v) = %v; all words have the same number of sources: %v, Letters to the power of Width - 1: %v", c, onto, same, full)
		}
	}
}

// With 2 letters, words of 5 letters are enough to tell.
func TestACodeIsOntoExactlyIfItIsBalanced(t *testing.T) {
	for _, form := range codeForms[:4] {
		for _, out := range codedWords(2, power(2, form[1])) {
			c := codeOf(2, form[1], out)
			if onto, balanced := impl.IsOnto(c), impl.IsBalanced(c, mostBalanced); onto != balanced {
				t.Errorf("IsOnto(%#v) = %v, IsBalanced %v", c, onto, balanced)
			}
		}
	}
}

func TestFirstOrphan(t *testing.T) {
	for _, c := range []struct{ code, want string }{
		{"2 1 aa", "b"}, {"2 1 bb", "a"}, {"2 2 aaaa", "b"}, {"2 2 bbbb", "a"}, {"2 3 aaaaaaaa", "b"}, {"2 4 bbbbbbbbbbbbbbbb", "a"}, {"3 1 aaa", "b"}, {"3 1 bbb", "a"}, {"3 1 ccc", "a"}, {"3 1 aab", "c"}, {"3 1 aca", "b"}, {"3 1 ccb", "a"}, {"3 2 ababababa", "c"}, {"3 3 ccccccccccccccccccccccccccc", "a"},
		{"2 2 aaba", "bb"}, {"2 2 abaa", "bb"}, {"2 2 babb", "aa"}, {"2 2 bbab", "aa"}, {"2 3 aaaaaaba", "bb"}, {"2 3 aaabaaaa", "bb"}, {"2 4 aaaaaaaaaaaaaaba", "bb"},
		{"2 2 aaab", "bab"}, {"2 2 abbb", "aba"}, {"2 2 baaa", "bab"}, {"2 2 bbba", "aba"}, {"2 3 aaaaaaab", "bab"}, {"2 3 aaabbbaa", "bbb"}, {"2 3 aababbba", "aba"}, {"2 4 aaaaaaaaaaaaaaab", "bab"},
		{"2 3 aaaaabbb", "baab"}, {"2 3 aaaabaab", "babb"}, {"2 3 aaaabbab", "bbaa"}, {"2 3 aaabbabb", "baba"}, {"2 3 aaabbaab", "bbabb"}, {"2 3 aabababb", "abaaa"},
		// Several ones of the same length.
		{"2 3 aaababaa", "bbb"}, {"2 3 aaaababa", "bab"}, {"2 3 aabaaaab", "babb"}, {"2 3 abbbbabb", "aaba"}, {"2 3 aaaaabab", "baaab"}, {"2 3 aaababbb", "abaab"}, {"2 3 aabbabba", "abbab"}, {"2 3 abaabaab", "baabbb"}, {"2 3 aabbbaab", "aabaaa"}, {"2 3 abbabbab", "aaabba"}, {"3 1 aaa", "b"}, {"3 1 cbc", "a"},
		{"2 4 aaaaaaaaababbaab", "bbabab"}, {"2 4 aaaaaaaaabababab", "baaaaab"}, {"2 4 aaaaaaabaabbbbba", "baababa"}, {"2 4 aaaaaaabababbaab", "bababab"},
		// As long as an orphan may be.
		{"2 3 aaababba", "baababab"}, {"2 3 abbabaaa", "baababab"}, {"2 3 baababbb", "abababba"}, {"2 3 bbbabaab", "abababba"}, {"2 4 aaaaaaababababba", "baaabbab"}, {"2 4 aaaaaaababbbbbba", "baaababa"},
	} {
		checkOrphan(t, mustCode(t, c.code), c.want, true)
	}
	for _, c := range append(ontoCodes(), longOrphans(t)...) {
		checkOrphan(t, c, "", false)
	}
}

func TestFirstOrphanOfAllSmallCodes(t *testing.T) {
	found := map[int]int{}
	for _, c := range someSourced() {
		most := mostSourced
		if c.Letters == 3 {
			most = 5
		}
		want, accepted := orphanByHand(c, most)
		if orphan, ok := impl.FirstOrphan(c); !accepted && ok && len(orphan) > most {
			checkCount(t, c, orphan, 0)
			continue
		}
		checkOrphan(t, c, want, accepted)
		if accepted && impl.IsOnto(c) {
			t.Errorf("IsOnto(%#v) = true; %q is an orphan", c, want)
		}
		found[len(want)]++
	}
	for n := range mostSourced + 1 {
		if found[n] == 0 {
			t.Errorf("no code has a shortest orphan of %d letters", n)
		}
	}
}

// How many codes with 2 letters and the width 4 have a shortest orphan of each length was counted apart; 582 are onto, and 3112 have a longer one.
func TestFirstOrphanOfAllCodesOfWidthFour(t *testing.T) {
	counts := map[int]int{}
	for i, out := range codedWords(2, 16) {
		c := codeOf(2, 4, out)
		orphan, ok := impl.FirstOrphan(c)
		if ok == (orphan == "") || ok && impl.IsOnto(c) {
			t.Fatalf("FirstOrphan(%#v) = %q, %v; IsOnto %v", c, orphan, ok, impl.IsOnto(c))
		}
		counts[len(orphan)]++
		if ok && i%3 == 0 {
			checkCount(t, c, orphan, 0)
			for _, part := range []string{orphan[1:], orphan[:len(orphan)-1]} {
				if impl.CountSources(c, part) < 1 {
					t.Errorf("CountSources(%#v, %q) = %d; the shortest orphan is %q", c, part, impl.CountSources(c, part), orphan)
				}
			}
		}
	}
	for n, want := range []int{582 + 3112, 2, 688, 4252, 10288, 16348, 15688, 9900, 4676} {
		if counts[n] != want {
			t.Errorf("%d codes have a shortest orphan of %d letters; want %d", counts[n], n, want)
		}
	}
}

func TestFirstOrphanIsTheFirstWordWithoutSources(t *testing.T) {
	for _, c := range someSourced() {
		orphan, ok := impl.FirstOrphan(c)
		if !ok || len(orphan) > 6 {
			continue
		}
		for n := range len(orphan) + 1 {
			for _, w := range codedWords(c.Letters, n) {
				if n == len(orphan) && w > orphan {
					break
				}
				if got := impl.CountSources(c, w); (got == 0) != (w == orphan) {
					t.Errorf("CountSources(%#v, %q) = %d; the first orphan is %q", c, w, got, orphan)
				}
			}
		}
	}
}

func TestIsBalanced(t *testing.T) {
	for _, c := range []struct {
		code string
		// The greatest length for which all words have the same number of sources, 5 for all.
		most int
	}{
		{"2 2 abba", 5}, {"2 1 ba", 5}, {"2 3 aaabbbba", 5}, {"2 4 aaaaaababbbbbbab", 5}, {"3 1 bca", 5}, {"3 2 abcbcacab", 5}, {"3 3 abcbcacabbcacababccababcbca", 5},
		{"2 1 aa", 0}, {"2 2 aaab", 0}, {"2 2 aaba", 0}, {"2 3 aaaaaaab", 0}, {"2 3 aaababba", 0}, {"2 4 aaababababbababa", 0}, {"3 1 aab", 0}, {"3 1 ccc", 0}, {"3 2 abcabcabb", 0},
		{"2 3 aababbba", 1}, {"2 3 aaabbabb", 1}, {"2 3 aabbabba", 1}, {"2 3 aabbbaab", 1}, {"2 4 aaaaaaababbbbbbb", 1}, {"3 2 ccbcbbaaa", 1}, {"3 2 cbccbbaaa", 1},
		{"2 3 aabababb", 2}, {"2 3 abbbaaab", 2}, {"2 4 aaaaaaabbbbbabbb", 2}, {"2 4 aaaaaabbbbbababb", 2},
		{"2 4 aaaaaabbbbbabbba", 3}, {"2 4 aaaabaabbbbbaabb", 3},
		{"2 4 aaabbabaabbbbaab", 4}, {"2 4 aabaabaabbbbbaab", 4}, {"2 4 aababaaabbbbabab", 4}, {"2 4 aabababbabbabbaa", 4}, {"3 3 aababccbccbcaabbacbcabacacb", 4},
	} {
		for n := range mostBalanced + 1 {
			checkBalanced(t, mustCode(t, c.code), n, n <= c.most)
		}
	}
}

func TestIsBalancedOfManyCodes(t *testing.T) {
	for _, c := range append(someSourced(), longOrphans(t)...) {
		for n := range mostBalanced + 1 {
			checkBalanced(t, c, n, isBalancedByHand(c, n))
		}
	}
}

func TestIsBalancedOfOtherLengths(t *testing.T) {
	for _, c := range append(fewCodes(10), ontoCodes()...) {
		for _, n := range notBalanced {
			checkBalanced(t, c, n, false)
		}
	}
}

func TestTwinsOf(t *testing.T) {
	for _, c := range []struct{ code, u, v string }{
		// Of length Width, only for the width 1.
		{"2 1 aa", "a", "b"}, {"2 1 bb", "a", "b"},
		{"2 2 aaaa", "aaa", "aba"}, {"2 2 bbbb", "aaa", "aba"}, {"2 2 aaab", "aaa", "aba"}, {"2 2 aaba", "aab", "abb"}, {"2 2 abaa", "baa", "bba"}, {"2 2 babb", "baa", "bba"}, {"2 2 bbab", "aab", "abb"}, {"2 2 abbb", "bab", "bbb"}, {"2 2 baaa", "bab", "bbb"}, {"2 2 bbba", "aaa", "aba"},
		{"2 3 aaaaaaaa", "aaaaa", "aabaa"}, {"2 3 aaaabaaa", "aaaab", "aabab"}, {"2 3 aaaabbaa", "aaaba", "aabba"}, {"2 3 aaaabbba", "aaabb", "aabbb"}, {"2 3 aaabbbbb", "bbabb", "bbbbb"}, {"2 3 aabbbbab", "ababb", "abbbb"}, {"2 3 abaaaabb", "baaaa", "babaa"}, {"2 3 ababbbba", "baaab", "babab"}, {"2 3 abaabbab", "ababa", "abbba"}, {"2 3 aaababba", "aaaaa", "aabaa"},
		{"2 3 aaabbbaa", "aaabba", "aababa"}, {"2 3 aabbbaaa", "ababab", "abbaab"}, {"2 3 abbaaaba", "baabba", "bababa"}, {"2 3 aabaaaab", "aaaaaa", "aabbaa"}, {"2 3 abbbbabb", "abaaba", "abbbba"}, {"2 3 bbabbaab", "aaaba", "aabba"}, {"2 3 aababaab", "aaaaab", "aabbab"}, {"2 3 abbabbab", "baaaab", "babbab"}, {"2 3 babaabaa", "bbaabb", "bbbbbb"}, {"2 3 aabbbaab", "abaaab", "abbbab"},
		{"2 4 aaaaaaaaaaaaaaaa", "aaaaaaa", "aaabaaa"}, {"2 4 aaababbaabbabaab", "aaaaaaa", "aaabaaa"}, {"2 4 aaababbabaababba", "aaaaaab", "aaabaab"},
	} {
		checkTwins(t, mustCode(t, c.code), c.u, c.v, true)
	}
	// Not onto, but without such words up to 7 letters.
	for _, text := range []string{"2 4 aaabbaababbaabba", "2 4 aaaaaabbbbbbaabb", "2 4 aaaaababbbbababb", "2 4 aaaaabbabbabbaab", "2 4 aaaababbaabbbaab", "2 4 aaababbabbbbaaaa"} {
		c := mustCode(t, text)
		checkTwins(t, c, "", "", false)
		checkOnto(t, c, false)
		if !hasTwins(c) {
			t.Errorf("%#v has no twins of any length", c)
		}
	}
	for _, c := range append(ontoCodes(), mustCode(t, "3 1 aaa"), mustCode(t, "3 1 aab"), mustCode(t, "3 2 aaaaaaaaa"), mustCode(t, "3 2 ababababa"), mustCode(t, "3 3 aaaaaaaaaaaaaaaaaaaaaaaaaaa")) {
		checkTwins(t, c, "", "", false)
	}
}

func TestTwinsOfManyCodes(t *testing.T) {
	found := map[[2]int]int{}
	random := rand.New(rand.NewSource(127))
	list := append(someSourced(), longOrphans(t)...)
	for range 300 {
		list = append(list, randomCode(random, 2, 4), withOtherLetter(random, randomPermutive(random, 2, 4)))
	}
	for _, c := range list {
		u, v, ok := twinsByHand(c)
		checkTwins(t, c, u, v, ok)
		found[[2]int{c.Width, len(u)}]++
	}
	for _, lengths := range [][2]int{{1, 0}, {1, 1}, {2, 0}, {2, 3}, {3, 0}, {3, 5}, {3, 6}, {4, 0}, {4, 7}} {
		if found[lengths] == 0 {
			t.Errorf("no code of the width %d has twins of %d letters", lengths[0], lengths[1])
		}
	}
}

// Twins are two different sources, which can stand for each other in any longer word.
func TestTwinsStandForEachOther(t *testing.T) {
	for i, out := range codedWords(2, 16) {
		c := codeOf(2, 4, out)
		if i%5 > 0 && i < 60000 {
			continue
		}
		u, v, ok := impl.TwinsOf(c)
		if !ok {
			checkTwins(t, c, "", "", false)
			continue
		}
		first, _ := impl.ApplyCode(c, u)
		second, _ := impl.ApplyCode(c, v)
		if u >= v || len(u) != len(v) || len(u) > mostTwin || !sameEnds(u, v, 3) || first != second || first == "" || impl.IsOnto(c) {
			t.Errorf("TwinsOf(%#v) = %q, %q; they are taken to %q and %q, and IsOnto is %v", c, u, v, first, second, impl.IsOnto(c))
		}
		first, _ = impl.ApplyCode(c, "abba"+u+"baab")
		second, _ = impl.ApplyCode(c, "abba"+v+"baab")
		if first != second || impl.CountSources(c, first[4:8]) < 2 {
			t.Errorf("%#v: %q and %q do not stand for each other", c, u, v)
		}
	}
}

func TestWhatNoCodeReaches(t *testing.T) {
	for _, c := range noCodes() {
		for _, w := range append(noWords(), "", "a", "b", "c", "ab", "abab", "abc", "bbbbbbbb", "aaaaaaaaa", "aaaaaaaaaaaaaaaa", c.Out) {
			checkCount(t, c, w, -1)
			checkFirst(t, c, w, "", false)
		}
		checkOnto(t, c, false)
		checkOrphan(t, c, "", false)
		for _, n := range append([]int{0, 1, 2, 3, 4, 5}, notBalanced...) {
			checkBalanced(t, c, n, false)
		}
		checkTwins(t, c, "", "", false)
	}
}

// Nothing is kept from one call to the next.
func TestOntoFunctionsAgain(t *testing.T) {
	list := slices.Concat(fewCodes(10), ontoCodes(), longOrphans(t), noCodes()[:10])
	type results struct {
		count                 int
		first, orphan, u, v   string
		found, onto, balanced bool
	}
	call := func(c impl.Code) (r results) {
		r.count = impl.CountSources(c, "abbab")
		r.first, r.found = impl.FirstSource(c, "abb")
		r.onto, r.balanced = impl.IsOnto(c), impl.IsBalanced(c, 2)
		r.orphan, _ = impl.FirstOrphan(c)
		r.u, r.v, _ = impl.TwinsOf(c)
		return r
	}
	checkAgain(t, list, call)
}
