package tests

import (
	"math"
	"slices"
	"strings"
	"testing"

	"loop.example/g03103/impl"
)

const letters = "abc"

// noWords are no words with 3 letters, and so no words with fewer.
func noWords() []string {
	return []string{
		"d", "ad", "da", "aadaa", "abcd", "`", "a`", "A", "aB", "ABC", "0", "1", "-1", " ", "a b", " a", "a ", "a\n",
		"\x00", "a\x00", "\x00a", "\xe1", "a\xe1", "\xff", "a\xff", "\u00e1", "\u0430", "?",
		strings.Repeat("a", impl.MaxWord+1), strings.Repeat("ab", impl.MaxWord), strings.Repeat("c", 1000),
		strings.Repeat("a", impl.MaxWord-1) + "d", strings.Repeat("a", impl.MaxWord) + "d",
	}
}

// otherLetterCounts are just beyond 1 to 3, and far from them.
func otherLetterCounts() []int {
	return []int{0, 4, -1, -3, 5, 26, 256, 257, 258, 259, math.MaxInt, math.MinInt, math.MinInt + 1}
}

// longWords are words of 9 to MaxWord letters, repetitions and others.
func longWords() []string {
	return []string{
		"aaaaaaaaa", "abcabcabc", "abcabcabb", "cbacbacba", "ababababa", "aaaaaaaaab", "baaaaaaaaa", "abababababab",
		"aabaabaabaab", "aabaabaabaaa", "abacabaabac", "aaaaaaaaaaaaa", "abcacbabcacbab",
		"abaababaabaab", "abcabcabcabcabc", "aabbcaabbcaabbc", "aabbcaabbcaabba",
		"aaaaaaaaaaaaaaaa", "cccccccccccccccc", "abababababababab", "aabbaabbaabbaabb", "abbabaabbaababba",
		"abbabaababbabaab", "aaaaaaaaaaaaaaab", "baaaaaaaaaaaaaaa", "aaaaaaabaaaaaaab", "cbcbcbcbcbcbcbca",
	}
}

// eachWord calls visit for all words of at most 8 letters, and for longer ones.
func eachWord(visit func(string)) {
	eachText(letters, 8, visit)
	for _, w := range longWords() {
		visit(w)
	}
}

func power(base, exponent int) int {
	product := 1
	for range exponent {
		product *= base
	}
	return product
}

func TestMaxWord(t *testing.T) {
	if impl.MaxWord != 16 {
		t.Errorf("MaxWord = %d; want 16", impl.MaxWord)
	}
}

func TestIsWord(t *testing.T) {
	for _, c := range []struct {
		w string
		// The least number of letters with which w is a word.
		least int
	}{
		{"", 1}, {"a", 1}, {"b", 2}, {"c", 3}, {"aa", 1}, {"ab", 2}, {"ba", 2}, {"ac", 3}, {"ca", 3}, {"bc", 3},
		{"abcabc", 3}, {"aaaaaaab", 2}, {"baaaaaaa", 2}, {"aaacaaaa", 3},
		{strings.Repeat("a", 15), 1}, {strings.Repeat("a", 16), 1}, {strings.Repeat("b", 16), 2},
		{strings.Repeat("a", 15) + "b", 2}, {"c" + strings.Repeat("a", 15), 3}, {strings.Repeat("abca", 4), 3},
	} {
		for k := 1; k <= 3; k++ {
			if got := impl.IsWord(k, c.w); got != (k >= c.least) {
				t.Errorf("IsWord(%d, %q) = %v", k, c.w, got)
			}
		}
		for _, k := range otherLetterCounts() {
			if impl.IsWord(k, c.w) {
				t.Errorf("IsWord(%d, %q) = true", k, c.w)
			}
		}
	}
}

func TestIsWordRejectsOtherStrings(t *testing.T) {
	for _, w := range noWords() {
		for _, k := range append(otherLetterCounts(), 1, 2, 3) {
			if impl.IsWord(k, w) {
				t.Errorf("IsWord(%d, %q) = true", k, w)
			}
		}
	}
}

func TestIsWordOnEachByte(t *testing.T) {
	for b := range 256 {
		w := string([]byte{byte(b)})
		for k := 1; k <= 3; k++ {
			want := strings.Contains(letters[:k], w)
			for _, around := range []string{w, w + "a", "a" + w, "a" + w + "a"} {
				if got := impl.IsWord(k, around); got != want {
					t.Errorf("IsWord(%d, %q) = %v", k, around, got)
				}
			}
		}
	}
}

func TestWordsOf(t *testing.T) {
	for _, c := range []struct {
		k, n int
		want string
	}{
		{1, 1, "a"}, {1, 2, "aa"}, {1, 5, "aaaaa"}, {1, 15, "aaaaaaaaaaaaaaa"}, {1, 16, "aaaaaaaaaaaaaaaa"},
		{2, 1, "a b"}, {2, 2, "aa ab ba bb"}, {2, 3, "aaa aab aba abb baa bab bba bbb"},
		{3, 1, "a b c"}, {3, 2, "aa ab ac ba bb bc ca cb cc"},
	} {
		if got := impl.WordsOf(c.k, c.n); !slices.Equal(got, strings.Fields(c.want)) {
			t.Errorf("WordsOf(%d, %d) = %q; want %q", c.k, c.n, got, c.want)
		}
	}
	for k := 1; k <= 3; k++ {
		if got := impl.WordsOf(k, 0); !slices.Equal(got, []string{""}) {
			t.Errorf("WordsOf(%d, 0) = %q; want the empty word", k, got)
		}
	}
}

func TestWordsOfAreAllWords(t *testing.T) {
	for k, most := range map[int]int{1: 16, 2: 9, 3: 6} {
		for n := range most + 1 {
			got := impl.WordsOf(k, n)
			if len(got) != power(k, n) {
				t.Errorf("WordsOf(%d, %d) has %d words; want %d", k, n, len(got), power(k, n))
			}
			for i, w := range got {
				if len(w) != n || !impl.IsWord(k, w) || i > 0 && got[i-1] >= w {
					t.Errorf("WordsOf(%d, %d) has %q at %d", k, n, w, i)
				}
			}
		}
	}
}

func TestWordsOfWithoutWords(t *testing.T) {
	for _, c := range []struct{ k, n int }{
		{3, 7}, {3, 8}, {3, 16}, {3, 17}, {2, 10}, {2, 11}, {2, 16}, {2, 17}, {1, 17}, {1, 18}, {1, 729}, {1, 730},
		{1, 64}, {2, 63}, {2, 64}, {2, 65}, {3, 41}, {3, 100}, {1, 1 << 40}, {2, 1 << 40}, {3, 1 << 40},
		{1, math.MaxInt}, {2, math.MaxInt}, {3, math.MaxInt}, {1, math.MinInt}, {2, math.MinInt}, {3, math.MinInt},
		{1, -1}, {2, -1}, {3, -1}, {1, -2}, {2, -9}, {3, -6},
	} {
		if got := impl.WordsOf(c.k, c.n); len(got) != 0 {
			t.Errorf("WordsOf(%d, %d) = %q; want nil", c.k, c.n, got)
		}
	}
	for _, k := range otherLetterCounts() {
		for _, n := range []int{0, 1, 2, 6, 16, 17, -1, math.MaxInt, math.MinInt} {
			if got := impl.WordsOf(k, n); len(got) != 0 {
				t.Errorf("WordsOf(%d, %d) = %q; want nil", k, n, got)
			}
		}
	}
}

func TestFactorsOf(t *testing.T) {
	for _, c := range []struct {
		w    string
		n    int
		want string
	}{
		{"a", 1, "a"}, {"abab", 1, "a b"}, {"abab", 2, "ab ba"}, {"abab", 3, "aba bab"}, {"abab", 4, "abab"},
		{"aaaa", 1, "a"}, {"aaaa", 2, "aa"}, {"aaaa", 3, "aaa"}, {"cba", 1, "a b c"}, {"cba", 2, "ba cb"},
		{"abcabc", 2, "ab bc ca"}, {"aabbcc", 2, "aa ab bb bc cc"}, {"abaab", 3, "aab aba baa"},
		{"aaaaaaaaaaaaaaab", 15, "aaaaaaaaaaaaaaa aaaaaaaaaaaaaab"}, {"aaaaaaaaaaaaaaab", 16, "aaaaaaaaaaaaaaab"},
	} {
		if got := impl.FactorsOf(c.w, c.n); !slices.Equal(got, strings.Fields(c.want)) {
			t.Errorf("FactorsOf(%q, %d) = %q; want %q", c.w, c.n, got, c.want)
		}
	}
}

func TestFactorsOfAtTheEnds(t *testing.T) {
	for _, w := range append(longWords(), "", "a", "c", "ab", "ba", "abc", "cbacba") {
		if got := impl.FactorsOf(w, 0); !slices.Equal(got, []string{""}) {
			t.Errorf("FactorsOf(%q, 0) = %q; want the empty word", w, got)
		}
		if got := impl.FactorsOf(w, len(w)); !slices.Equal(got, []string{w}) {
			t.Errorf("FactorsOf(%q, %d) = %q; want the word", w, len(w), got)
		}
		for _, n := range []int{-1, -2, len(w) + 1, len(w) + 2, 17, math.MaxInt, math.MinInt, -len(w) - 1} {
			if got := impl.FactorsOf(w, n); len(got) != 0 {
				t.Errorf("FactorsOf(%q, %d) = %q; want nil", w, n, got)
			}
		}
	}
}

// A list of all words of a length in ascending order, from which those that
// occur are kept, is found without the parts of w.
func TestFactorsOfAreThePartsInOrder(t *testing.T) {
	eachText(letters, 7, func(w string) {
		for n := range min(len(w), 3) + 1 {
			want := slices.DeleteFunc(impl.WordsOf(3, n), func(part string) bool { return !strings.Contains(w, part) })
			if got := impl.FactorsOf(w, n); !slices.Equal(got, want) {
				t.Fatalf("FactorsOf(%q, %d) = %q; want %q", w, n, got, want)
			}
		}
	})
}

func TestFactorsOfOtherStrings(t *testing.T) {
	for _, w := range noWords() {
		for _, n := range []int{0, 1, len(w) - 1, len(w), len(w) + 1, -1} {
			if got := impl.FactorsOf(w, n); len(got) != 0 {
				t.Errorf("FactorsOf(%q, %d) = %q; want nil", w, n, got)
			}
		}
	}
}

func TestOccursIn(t *testing.T) {
	for _, c := range []struct {
		w, part string
		want    bool
	}{
		{"", "", true}, {"a", "", true}, {"abc", "", true}, {"\xff", "", true}, {"d", "", true},
		{"", "a", false}, {"", " ", false}, {"a", "a", true}, {"a", "b", false}, {"a", "aa", false},
		{"abc", "a", true}, {"abc", "b", true}, {"abc", "c", true}, {"abc", "ab", true}, {"abc", "bc", true},
		{"abc", "abc", true}, {"abc", "ac", false}, {"abc", "ba", false}, {"abc", "ca", false}, {"abc", "abca", false},
		{"aab", "ab", true}, {"aaab", "aab", true}, {"ababc", "abc", true}, {"abab", "aba", true}, {"abab", "abb", false},
		{strings.Repeat("a", 15) + "b", "ab", true}, {strings.Repeat("a", 16), strings.Repeat("a", 16), true},
		{strings.Repeat("a", 16), strings.Repeat("a", 17), false},
		// What is no word is compared byte by byte, too.
		{"d", "d", true}, {"xyz", "yz", true}, {"ABC", "a", false}, {strings.Repeat("a", 40) + "b", "ab", true},
		{"a\x00b", "\x00", true}, {"\u00e9", "\xa9", true}, {"\u00e9", "e", false}, {"a\xff", "\xff", true}, {"a.c", "abc", false},
		{"abc", "a.c", false}, {"abc", ".", false},
	} {
		if got := impl.OccursIn(c.w, c.part); got != c.want {
			t.Errorf("OccursIn(%q, %q) = %v", c.w, c.part, got)
		}
	}
}

func TestOccursInEachPart(t *testing.T) {
	eachText(letters, 6, func(w string) {
		parts := map[string]bool{}
		for from := range len(w) + 1 {
			for to := from; to <= len(w); to++ {
				parts[w[from:to]] = true
			}
		}
		eachText(letters, 3, func(part string) {
			if got := impl.OccursIn(w, part); got != parts[part] {
				t.Fatalf("OccursIn(%q, %q) = %v", w, part, got)
			}
		})
	})
}

func TestRootOf(t *testing.T) {
	for _, c := range []struct {
		w, root string
		times   int
	}{
		{"a", "a", 1}, {"c", "c", 1}, {"aa", "a", 2}, {"ab", "ab", 1}, {"aaa", "a", 3}, {"aba", "aba", 1},
		{"abab", "ab", 2}, {"aaaa", "a", 4}, {"abba", "abba", 1}, {"aabaab", "aab", 2}, {"ababab", "ab", 3},
		{"abcabc", "abc", 2}, {"abcab", "abcab", 1}, {"ababa", "ababa", 1}, {"abaaba", "aba", 2},
		{"aabaabaab", "aab", 3}, {"abababa", "abababa", 1}, {"aaaaab", "aaaaab", 1}, {"baaaaa", "baaaaa", 1},
		{"aaaaaaaaaaaaaaaa", "a", 16}, {"abababababababab", "ab", 8}, {"aabbaabbaabbaabb", "aabb", 4},
		{"aaaaaaabaaaaaaab", "aaaaaaab", 2}, {"abbabaabbaababba", "abbabaabbaababba", 1},
		{"aaaaaaaaaaaaaaa", "a", 15}, {"abcabcabcabcabc", "abc", 5}, {"aabbcaabbcaabbc", "aabbc", 3},
	} {
		if root, times := impl.RootOf(c.w); root != c.root || times != c.times {
			t.Errorf("RootOf(%q) = %q, %d; want %q, %d", c.w, root, times, c.root, c.times)
		}
	}
}

// P2.
func TestAWordIsItsRootRepeated(t *testing.T) {
	eachWord(func(w string) {
		root, times := impl.RootOf(w)
		if strings.Repeat(root, times) != w {
			t.Fatalf("RootOf(%q) = %q, %d", w, root, times)
		}
		if w == "" {
			return
		}
		if itself, once := impl.RootOf(root); itself != root || once != 1 {
			t.Fatalf("RootOf(%q) = %q, %d, for the root of %q", root, itself, once, w)
		}
		for n := 1; n < len(root); n++ {
			if strings.Repeat(w[:n], len(w)/n) == w {
				t.Fatalf("RootOf(%q) = %q; but %q is shorter", w, root, w[:n])
			}
		}
	})
}

func TestRootsOfRepetitions(t *testing.T) {
	eachText(letters, 5, func(part string) {
		root, times := impl.RootOf(part)
		for n := 1; n*len(part) <= impl.MaxWord && n <= impl.MaxWord; n++ {
			got, often := impl.RootOf(strings.Repeat(part, n))
			if got != root || often != n*times {
				t.Fatalf("RootOf of %d times %q = %q, %d; want %q, %d", n, part, got, often, root, n*times)
			}
		}
	})
}

func TestRootOfOtherStrings(t *testing.T) {
	for _, w := range append(noWords(), "", "dd", "adad", "xyxy", strings.Repeat("ab", 9)) {
		if root, times := impl.RootOf(w); root != "" || times != 0 {
			t.Errorf("RootOf(%q) = %q, %d; want nothing", w, root, times)
		}
	}
}

func TestTurnWord(t *testing.T) {
	for _, c := range []struct {
		w    string
		n    int
		want string
	}{
		{"a", 0, "a"}, {"a", 1, "a"}, {"a", -1, "a"}, {"a", 7, "a"}, {"a", math.MinInt, "a"}, {"a", math.MaxInt, "a"},
		{"abb", 0, "abb"}, {"abb", 1, "bba"}, {"abb", 2, "bab"}, {"abb", 3, "abb"}, {"abb", 4, "bba"}, {"abb", 5, "bab"},
		{"abb", -1, "bab"}, {"abb", -2, "bba"}, {"abb", -3, "abb"}, {"abb", -4, "bab"}, {"abc", 1, "bca"}, {"abc", -1, "cab"},
		// The smallest integer is -2^63, and 2^63 is 2 more than a multiple of 3.
		{"abb", math.MinInt, "bba"}, {"abc", math.MinInt, "bca"}, {"abc", math.MaxInt, "bca"}, {"abc", -math.MaxInt, "cab"},
		{"aabb", math.MinInt, "aabb"}, {"aabb", math.MaxInt, "baab"}, {"aabb", math.MinInt + 1, "abba"},
		{"aabbc", math.MinInt, "bbcaa"}, {"aabbc", math.MaxInt, "bbcaa"}, {"abcabca", math.MinInt, "aabcabc"},
		{"aaaaaaaaaaaaaaab", 15, "baaaaaaaaaaaaaaa"}, {"aaaaaaaaaaaaaaab", 16, "aaaaaaaaaaaaaaab"},
		{"aaaaaaaaaaaaaaab", -1, "baaaaaaaaaaaaaaa"}, {"aaaaaaaaaaaaaaab", math.MaxInt, "baaaaaaaaaaaaaaa"},
		{"aaaaaaaaaaaaaaab", math.MinInt, "aaaaaaaaaaaaaaab"},
	} {
		if got := impl.TurnWord(c.w, c.n); got != c.want {
			t.Errorf("TurnWord(%q, %d) = %q; want %q", c.w, c.n, got, c.want)
		}
	}
}

// Moving one letter after the other tells every turn, in both directions.
func TestTurnWordMovesLetters(t *testing.T) {
	eachText(letters, 6, func(w string) {
		turned, back := w, w
		for n := range 2*len(w) + 3 {
			if got := impl.TurnWord(w, n); got != turned {
				t.Fatalf("TurnWord(%q, %d) = %q; want %q", w, n, got, turned)
			}
			if got := impl.TurnWord(w, -n); got != back {
				t.Fatalf("TurnWord(%q, %d) = %q; want %q", w, -n, got, back)
			}
			if w != "" {
				turned = turned[1:] + turned[:1]
				back = back[len(w)-1:] + back[:len(w)-1]
			}
		}
	})
}

func TestTurnWordOfOtherStrings(t *testing.T) {
	for _, w := range append(noWords(), "") {
		for _, n := range []int{0, 1, -1, 2, 16, 17, len(w), math.MaxInt, math.MinInt} {
			if got := impl.TurnWord(w, n); got != "" {
				t.Errorf("TurnWord(%q, %d) = %q; want \"\"", w, n, got)
			}
		}
	}
}

func TestLeastTurn(t *testing.T) {
	for _, c := range []struct{ w, want string }{
		{"a", "a"}, {"b", "b"}, {"ab", "ab"}, {"ba", "ab"}, {"aa", "aa"}, {"bab", "abb"}, {"bba", "abb"}, {"abb", "abb"},
		{"cba", "acb"}, {"cab", "abc"}, {"baba", "abab"}, {"abaab", "aabab"}, {"babaab", "aabbab"}, {"cbcb", "bcbc"},
		{"bacaab", "aabbac"}, {"baaaaaaaaaaaaaaa", "aaaaaaaaaaaaaaab"}, {"aaaaaaabaaaaaaaa", "aaaaaaaaaaaaaaab"},
		{"aaaaaaaaaaaaaaab", "aaaaaaaaaaaaaaab"}, {"cccccccccccccccb", "bccccccccccccccc"},
	} {
		if got := impl.LeastTurn(c.w); got != c.want {
			t.Errorf("LeastTurn(%q) = %q; want %q", c.w, got, c.want)
		}
	}
}

func TestLeastTurnIsTheLeastOfAllTurns(t *testing.T) {
	eachWord(func(w string) {
		want := w
		for n := range len(w) {
			want = min(want, w[n:]+w[:n])
		}
		if got := impl.LeastTurn(w); got != want {
			t.Fatalf("LeastTurn(%q) = %q; want %q", w, got, want)
		}
	})
}

func TestTurnsHaveOneLeastTurn(t *testing.T) {
	for _, w := range longWords() {
		root, _ := impl.RootOf(w)
		turns := map[string]bool{}
		for n := range len(w) {
			turn := impl.TurnWord(w, n)
			turns[turn] = true
			if got := impl.LeastTurn(turn); got != impl.LeastTurn(w) {
				t.Errorf("LeastTurn(%q) = %q; but for %q it is %q", turn, got, w, impl.LeastTurn(w))
			}
		}
		if len(turns) != len(root) {
			t.Errorf("%q has %d turns; want %d", w, len(turns), len(root))
		}
	}
}

func TestLeastTurnOfOtherStrings(t *testing.T) {
	for _, w := range append(noWords(), "", "dcba", "ba ") {
		if got := impl.LeastTurn(w); got != "" {
			t.Errorf("LeastTurn(%q) = %q; want \"\"", w, got)
		}
	}
}

func TestMirrorWord(t *testing.T) {
	for _, c := range []struct{ w, want string }{
		{"", ""}, {"a", "a"}, {"ab", "ba"}, {"abc", "cba"}, {"aab", "baa"}, {"aba", "aba"}, {"abcc", "ccba"},
		{"aaaaaaaaaaaaaaab", "baaaaaaaaaaaaaaa"},
		// Strings that are no words are mirrored byte by byte.
		{"xyz", "zyx"}, {"a d", "d a"}, {"\x00\xff", "\xff\x00"}, {"\u00e9", "\xa9\xc3"}, {"a\u20ac", "\xac\x82\xe2a"},
		{strings.Repeat("a", 40) + "b", "b" + strings.Repeat("a", 40)},
	} {
		if got := impl.MirrorWord(c.w); got != c.want {
			t.Errorf("MirrorWord(%q) = %q; want %q", c.w, got, c.want)
		}
	}
}

func TestMirroringTwice(t *testing.T) {
	eachText("ac\x80\xe2", 5, func(w string) {
		mirrored := impl.MirrorWord(w)
		for i := range len(w) {
			if len(mirrored) != len(w) || mirrored[i] != w[len(w)-1-i] {
				t.Fatalf("MirrorWord(%q) = %q", w, mirrored)
			}
		}
		if got := impl.MirrorWord(mirrored); got != w {
			t.Fatalf("MirrorWord(%q) = %q", mirrored, got)
		}
	})
}

func TestListsOfWordsAreNewMemory(t *testing.T) {
	for name, list := range map[string]func() []string{
		"WordsOf(2, 0)":        func() []string { return impl.WordsOf(2, 0) },
		"WordsOf(2, 2)":        func() []string { return impl.WordsOf(2, 2) },
		"WordsOf(3, 3)":        func() []string { return impl.WordsOf(3, 3) },
		"FactorsOf(\"\", 0)":   func() []string { return impl.FactorsOf("", 0) },
		"FactorsOf(\"aba\",1)": func() []string { return impl.FactorsOf("aba", 1) },
		"FactorsOf(\"aba\",3)": func() []string { return impl.FactorsOf("aba", 3) },
	} {
		want, changed := list(), list()
		kept := slices.Clone(want)
		for i := range changed {
			changed[i] = "changed"
		}
		for i := range cap(changed) {
			changed[:cap(changed)][i] = "changed"
		}
		if got := list(); !slices.Equal(got, kept) || !slices.Equal(want, kept) {
			t.Errorf("%s = %q and %q after another result was changed; want %q", name, want, got, kept)
		}
	}
}
