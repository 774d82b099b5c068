package tests

import (
	"math"
	"regexp"
	"slices"
	"strings"
	"testing"

	"loop.example/g03103/impl"
)

func shiftOf(k int, forbidden string) impl.Shift {
	return impl.Shift{Letters: k, Forbidden: strings.Fields(forbidden)}
}

// mustShift reads a text with strings.Fields, so that it does not rest on ParseShift.
func mustShift(t *testing.T, text string) impl.Shift {
	t.Helper()
	s := shiftOf(int(text[0]-'0'), text[1:])
	if !impl.IsShift(s) {
		t.Fatalf("IsShift of %q = false", text)
	}
	return s
}

func equalShift(s, t impl.Shift) bool {
	return s.Letters == t.Letters && slices.Equal(s.Forbidden, t.Forbidden)
}

const eightWords = "aaa aab aba abb baa bab bba bbb"

// noShifts are no shifts, most of them nearly.
func noShifts() []impl.Shift {
	list := []impl.Shift{
		{}, shiftOf(0, "a"), shiftOf(4, "a"), shiftOf(4, "d"), shiftOf(-1, ""), shiftOf(-2, "bb"), shiftOf(-3, "a b c"),
		// A letter too many.
		shiftOf(1, "b"), shiftOf(1, "a b"), shiftOf(1, "ab"), shiftOf(1, "aab"), shiftOf(1, "baa"), shiftOf(2, "c"),
		shiftOf(2, "ac"), shiftOf(2, "ca"), shiftOf(2, "aca"), shiftOf(2, "a bb bc"), shiftOf(3, "d"), shiftOf(3, "a abd"),
		// A word too long, of all the other lengths in between.
		shiftOf(1, "aaaa"), shiftOf(2, "aaaa"), shiftOf(3, "abca"), shiftOf(2, "a aabb bb"), shiftOf(2, "a bb bbbb"),
		shiftOf(3, strings.Repeat("a", impl.MaxWord)), shiftOf(3, strings.Repeat("a", impl.MaxWord+1)),
		// Twice.
		shiftOf(1, "a a"), shiftOf(2, "bb bb"), shiftOf(2, "a a b"), shiftOf(2, "a b b"), shiftOf(3, "ab ab bc ca"),
		shiftOf(3, "ab bc bc ca"), shiftOf(3, "ab bc ca ca"), shiftOf(2, "aa bb aa"),
		// Out of order.
		shiftOf(1, "aa a"), shiftOf(2, "bb aa"), shiftOf(2, "b a"), shiftOf(2, "b aa"), shiftOf(2, "ab aa b"),
		shiftOf(2, "aa b ab"), shiftOf(3, "ca ab bc"), shiftOf(3, "ab ca bc"), shiftOf(2, "aab aa"), shiftOf(2, "aab aba ab"),
		// One more than 8.
		shiftOf(2, "aa aaa aab aba abb baa bab bba bbb"), shiftOf(2, "aaa aab aba abb baa bab bb bba bbb"),
		shiftOf(3, "aa ab ac ba bb bc ca cb cc"), shiftOf(3, "aaa aab aac aba abb abc aca acb acc"),
		shiftOf(3, "aaa aab aac aba abb abc aca acb acc baa bab bac"), shiftOf(1, "a a a a a a a a a"),
		{Letters: 2, Forbidden: make([]string, 9)}, {Letters: 2, Forbidden: slices.Repeat([]string{"a"}, 1000)},
		// The empty word.
		{Letters: 1, Forbidden: []string{""}}, {Letters: 2, Forbidden: []string{""}}, {Letters: 3, Forbidden: []string{""}},
		{Letters: 2, Forbidden: []string{"", "a"}}, {Letters: 2, Forbidden: []string{"a", ""}},
		{Letters: 2, Forbidden: []string{"", "", ""}},
	}
	for _, w := range noWords() {
		list = append(list, impl.Shift{Letters: 3, Forbidden: []string{w}}, impl.Shift{Letters: 1, Forbidden: []string{w}},
			impl.Shift{Letters: 2, Forbidden: []string{"", w}}, impl.Shift{Letters: 2, Forbidden: []string{w, "bb"}})
	}
	for _, k := range otherLetterCounts() {
		list = append(list, shiftOf(k, ""), shiftOf(k, "a"), shiftOf(k, "aa bb"), shiftOf(k, "d"))
	}
	return list
}

// eachListOf calls visit for each list of at most most of the words, in their order.
func eachListOf(words []string, most int, visit func([]string)) {
	var extend func(list, rest []string)
	extend = func(list, rest []string) {
		visit(list)
		if len(list) == most {
			return
		}
		for i, w := range rest {
			extend(append(slices.Clone(list), w), rest[i+1:])
		}
	}
	extend(nil, words)
}

func shortWords(k int) []string {
	var words []string
	for n := 1; n <= 3; n++ {
		words = append(words, impl.WordsOf(k, n)...)
	}
	slices.Sort(words)
	return words
}

// eachShift calls visit for all shifts with 1 or 2 letters, and those with 3 letters and at most 2 Forbidden words.
func eachShift(visit func(impl.Shift)) {
	for k, most := range map[int]int{1: 3, 2: 8, 3: 2} {
		eachListOf(shortWords(k), most, func(list []string) { visit(impl.Shift{Letters: k, Forbidden: list}) })
	}
}

// someShifts have 3 letters and up to 8 Forbidden words, or are named by the document.
func someShifts() []impl.Shift {
	list := []impl.Shift{
		shiftOf(1, ""), shiftOf(2, ""), shiftOf(3, ""), shiftOf(2, "bb"), shiftOf(2, "aa bb"), shiftOf(3, "ab bc ca"),
		shiftOf(2, "aab"), shiftOf(2, "aba bab"), shiftOf(2, "ba bb"), shiftOf(3, "aa bb cc"), shiftOf(3, "a b c"),
		shiftOf(3, "aa ab ac ba bb bc ca cb"), shiftOf(3, "aa ba bb ca cb cc"), shiftOf(3, "ba ca cb"), shiftOf(3, "aa ab ba bb ca cc"),
		shiftOf(3, "aaa bbb ccc"), shiftOf(3, "aba aca bab bcb cac cbc"), shiftOf(3, "aa bac bb ca cc"), shiftOf(3, "a bb bc cb"),
	}
	words := shortWords(3)
	for first := range words {
		for step := 1; step < len(words); step += 3 {
			var forbidden []string
			for i := first; i < len(words) && len(forbidden) < 8; i += step {
				forbidden = append(forbidden, words[i])
			}
			list = append(list, impl.Shift{Letters: 3, Forbidden: forbidden})
		}
	}
	return list
}

func avoids(w string, forbidden []string) bool {
	return !slices.ContainsFunc(forbidden, func(part string) bool { return strings.Contains(w, part) })
}

// longEnds returns the words of 2 letters that end (or, turned, begin) a long avoiding word. In it a pair of letters
// comes twice, so that the word can be continued for ever on its long side.
func longEnds(s impl.Shift, turned bool) []string {
	ends := impl.WordsOf(s.Letters, 2)
	for range 12 {
		next := map[string]bool{}
		for _, end := range ends {
			for i := range s.Letters {
				longer := end + letters[i:i+1]
				if turned {
					longer = letters[i:i+1] + end
				}
				switch {
				case !avoids(longer, s.Forbidden):
				case turned:
					next[longer[:2]] = true
				default:
					next[longer[1:]] = true
				}
			}
		}
		ends = ends[:0]
		for end := range next {
			ends = append(ends, end)
		}
	}
	return ends
}

// languages finds the words of at most most letters, by lengths, that stand in avoiding words with long ends.
func languages(s impl.Shift, most int) [][]string {
	ahead, behind := longEnds(s, false), longEnds(s, true)
	lists := make([][]string, most+1)
	for n := range lists {
		for _, w := range impl.WordsOf(s.Letters, n) {
			fits := slices.ContainsFunc(ahead, func(u string) bool {
				return slices.ContainsFunc(behind, func(v string) bool { return avoids(u+w+v, s.Forbidden) })
			})
			if fits {
				lists[n] = append(lists[n], w)
			}
		}
	}
	return lists
}

func TestIsShift(t *testing.T) {
	for _, s := range []impl.Shift{
		{Letters: 1}, {Letters: 2}, {Letters: 3}, {Letters: 2, Forbidden: []string{}},
		shiftOf(1, "a"), shiftOf(1, "aa"), shiftOf(1, "aaa"), shiftOf(1, "a aa aaa"), shiftOf(2, "a"), shiftOf(2, "b"),
		shiftOf(2, "bb"), shiftOf(2, "bbb"), shiftOf(2, "aa bb"), shiftOf(2, "a aa aaa"), shiftOf(2, "aab ab"), shiftOf(2, "aa b"),
		shiftOf(3, "c"), shiftOf(3, "ccc"), shiftOf(3, "ab bc ca"), shiftOf(3, "a b c"), shiftOf(3, "bb"), shiftOf(3, "a"),
		// 8 words.
		shiftOf(2, eightWords), shiftOf(3, eightWords), shiftOf(3, "aa ab ac ba bb bc ca cb"), shiftOf(2, "a aa aaa aab ab b bb bbb"),
		shiftOf(2, "aa aaa aab aba abb baa bab bba"), shiftOf(3, "aaa aab aac aba abb abc aca ccc"),
	} {
		if !impl.IsShift(s) {
			t.Errorf("IsShift(%#v) = false", s)
		}
	}
	for _, s := range noShifts() {
		if impl.IsShift(s) {
			t.Errorf("IsShift(%#v) = true", s)
		}
	}
}

// All lists of up to 3 strings tell order, repetition, lengths and letters at once.
func TestIsShiftOnAllShortLists(t *testing.T) {
	var parts []string
	eachText("abc", 2, func(w string) { parts = append(parts, w) })
	parts = append(parts, "aab", "bbc", "aaaa", "d", "A", " ", "bbb")
	for k := 0; k <= 4; k++ {
		var extend func(list []string)
		extend = func(list []string) {
			want := 1 <= k && k <= 3
			for i, w := range list {
				want = want && 1 <= len(w) && len(w) <= 3 && strings.Trim(w, letters[:min(max(k, 0), 3)]) == ""
				want = want && (i == 0 || list[i-1] < w)
			}
			if got := impl.IsShift(impl.Shift{Letters: k, Forbidden: list}); got != want {
				t.Fatalf("IsShift(%d, %q) = %v", k, list, got)
			}
			if len(list) < 3 {
				for _, w := range parts {
					extend(append(slices.Clone(list), w))
				}
			}
		}
		extend(nil)
	}
}

func TestAvoidsAll(t *testing.T) {
	for _, c := range []struct {
		text, w string
		want    bool
	}{
		{"2 bb", "", true}, {"2 bb", "b", true}, {"2 bb", "ab", true}, {"2 bb", "bb", false}, {"2 bb", "abab", true},
		{"2 bb", "abba", false}, {"2 bb", "bba", false}, {"2 bb", "abb", false}, {"2 bb", "c", false}, {"2 bb", "ac", false},
		{"3 bb", "c", true}, {"3 bb", "cbcb", true}, {"3 ab bc ca", "acb", true}, {"3 ab bc ca", "acba", true},
		{"3 ab bc ca", "abc", false}, {"3 ab bc ca", "cca", false}, {"3 ab bc ca", "bbc", false}, {"3 ab bc ca", "aab", false},
		{"1", "", true}, {"1", "a", true}, {"1", "b", false}, {"1 a", "", true}, {"1 a", "a", false}, {"1 aa", "a", true},
		{"1 aa", "aa", false}, {"1 aaa", "aa", true}, {"1 aaa", "aaa", false}, {"1 a", "b", false}, {"2 a b", "", true},
		{"2 a b", "a", false}, {"2 a b", "b", false}, {"2", "abbabaabbaababba", true}, {"2 aaa bbb", "abbabaabbaababba", true},
		// These are part of no point, but avoid the words.
		{"2 ba bb", "b", true}, {"2 ba bb", "ab", true}, {"2 ba bb", "aaab", true}, {"3 aa ba bb ca cb cc", "abc", true},
		// MaxWord letters, and one more.
		{"1", strings.Repeat("a", 16), true}, {"1", strings.Repeat("a", 17), false}, {"2 bb", strings.Repeat("a", 16), true},
		{"2 bb", strings.Repeat("a", 17), false}, {"2 bb", strings.Repeat("ab", 8), true}, {"2 bb", strings.Repeat("ab", 9), false},
		{"2 bb", strings.Repeat("a", 14) + "bb", false}, {"2 bb", "bb" + strings.Repeat("a", 14), false},
		{"3 ccc", strings.Repeat("a", 13) + "ccc", false}, {"3 ccc", strings.Repeat("a", 14) + "cc", true},
	} {
		if got := impl.AvoidsAll(mustShift(t, c.text), c.w); got != c.want {
			t.Errorf("AvoidsAll(%q, %q) = %v", c.text, c.w, got)
		}
	}
}

func TestAvoidingWords(t *testing.T) {
	for _, c := range []struct {
		text string
		n    int
		want string
	}{
		{"2 bb", 1, "a b"}, {"2 bb", 2, "aa ab ba"}, {"2 bb", 3, "aaa aab aba baa bab"}, {"2 aa bb", 4, "abab baba"},
		{"2 ba bb", 1, "a b"}, {"2 ba bb", 2, "aa ab"}, {"2 ba bb", 3, "aaa aab"}, {"2 ba bb", 6, "aaaaaa aaaaab"},
		{"1", 1, "a"}, {"1", 6, "aaaaaa"}, {"1 a", 1, ""}, {"1 a", 6, ""}, {"1 aa", 1, "a"}, {"1 aa", 2, ""}, {"1 aaa", 2, "aa"},
		{"1 aaa", 3, ""}, {"2 a b", 1, ""}, {"3 a b c", 1, ""}, {"3 ab bc ca", 2, "aa ac ba bb cb cc"}, {"2 " + eightWords, 2, "aa ab ba bb"},
		{"2 " + eightWords, 3, ""}, {"3 aa ba bb ca cb cc", 3, "abc"}, {"3 aa ba bb ca cb cc", 4, ""}, {"3 c", 2, "aa ab ba bb"},
	} {
		if got := impl.AvoidingWords(mustShift(t, c.text), c.n); !slices.Equal(got, strings.Fields(c.want)) {
			t.Errorf("AvoidingWords(%q, %d) = %q; want %q", c.text, c.n, got, c.want)
		}
	}
	for _, text := range []string{"1", "2", "3", "1 a", "2 bb", "3 a b c", "2 a b"} {
		if got := impl.AvoidingWords(mustShift(t, text), 0); !slices.Equal(got, []string{""}) {
			t.Errorf("AvoidingWords(%q, 0) = %q; want the empty word", text, got)
		}
	}
	if got := impl.AvoidingWords(shiftOf(3, ""), 6); len(got) != 729 {
		t.Errorf("AvoidingWords of all words with 3 letters has %d words of length 6; want 729", len(got))
	}
}

func TestAvoidingWordsAreThoseThatAvoidAll(t *testing.T) {
	for _, s := range someShifts() {
		for n := range 7 {
			var want []string
			for _, w := range impl.WordsOf(s.Letters, n) {
				if avoids(w, s.Forbidden) != impl.AvoidsAll(s, w) {
					t.Fatalf("AvoidsAll(%#v, %q) = %v", s, w, impl.AvoidsAll(s, w))
				}
				if avoids(w, s.Forbidden) {
					want = append(want, w)
				}
			}
			if got := impl.AvoidingWords(s, n); !slices.Equal(got, want) {
				t.Fatalf("AvoidingWords(%#v, %d) = %q; want %q", s, n, got, want)
			}
		}
	}
}

func TestLanguageOf(t *testing.T) {
	for _, c := range []struct {
		text string
		n    int
		want string
	}{
		{"2 bb", 1, "a b"}, {"2 bb", 2, "aa ab ba"}, {"2 bb", 3, "aaa aab aba baa bab"}, {"2 aa bb", 3, "aba bab"},
		{"2 ab", 2, "aa ba bb"}, {"2 ab", 1, "a b"}, {"1", 1, "a"}, {"1", 6, "aaaaaa"},
		// Just one point.
		{"2 ba bb", 1, "a"}, {"2 ba bb", 2, "aa"}, {"2 ba bb", 6, "aaaaaa"}, {"2 ab bb", 2, "aa"}, {"2 b", 3, "aaa"},
		{"3 b c", 3, "aaa"}, {"3 ab ac bb bc cb cc", 2, "aa"}, {"2 a", 2, "bb"}, {"3 a b", 6, "cccccc"},
		// Words with a side only that can be continued, or none.
		{"3 ba ca cb", 2, "aa ab ac bb bc cc"}, {"3 bb ca cb cc", 2, "aa ab ba"}, {"3 aa bb ca cb", 2, "ab ac ba bc cc"}, {"3 aa ac bb bc ca cb", 2, "ab ba cc"},
		{"2 aab ba", 2, "aa bb"}, {"2 abb ba", 2, "aa bb"}, {"2 aab", 3, "aaa aba abb baa bab bba bbb"},
		{"2 aba bab", 3, "aaa aab abb baa bba bbb"}, {"2 aab bab", 2, "aa ba bb"},
	} {
		if got := impl.LanguageOf(mustShift(t, c.text), c.n); !slices.Equal(got, strings.Fields(c.want)) {
			t.Errorf("LanguageOf(%q, %d) = %q; want %q", c.text, c.n, got, c.want)
		}
	}
}

func TestLanguagesOfAllShifts(t *testing.T) {
	check := func(s impl.Shift, most int) {
		for n, want := range languages(s, most) {
			if got := impl.LanguageOf(s, n); !slices.Equal(got, want) {
				t.Fatalf("LanguageOf(%#v, %d) = %q; want %q", s, n, got, want)
			}
			if n == 0 && impl.IsEmptyShift(s) != (len(want) == 0) {
				t.Fatalf("IsEmptyShift(%#v) = %v", s, impl.IsEmptyShift(s))
			}
			for _, w := range impl.WordsOf(s.Letters, n) {
				if impl.InLanguage(s, w) != slices.Contains(want, w) {
					t.Fatalf("InLanguage(%#v, %q) = %v", s, w, impl.InLanguage(s, w))
				}
			}
		}
	}
	eachShift(func(s impl.Shift) { check(s, 3) })
	for _, s := range someShifts() {
		check(s, 4)
	}
	for _, s := range someShifts()[:19] {
		check(s, 6)
	}
}

func TestInLanguage(t *testing.T) {
	for _, c := range []struct {
		text, w string
		want    bool
	}{
		{"2 bb", "", true}, {"2 bb", "b", true}, {"2 bb", "bb", false}, {"2 bb", "c", false}, {"2 bb", "abaabab", true},
		{"1", "", true}, {"1", "a", true}, {"1", "b", false}, {"1", strings.Repeat("a", 16), true}, {"1", strings.Repeat("a", 17), false},
		// Without points not even the empty word is in the language.
		{"1 a", "", false}, {"1 aa", "", false}, {"1 aaa", "", false}, {"1 aaa", "a", false}, {"1 aaa", "aa", false}, {"2 a b", "", false},
		{"3 aa ba bb ca cb cc", "", false}, {"3 aa ba bb ca cb cc", "ab", false}, {"3 aa ba bb ca cb cc", "abc", false},
		{"2 " + eightWords, "", false}, {"2 " + eightWords, "a", false}, {"2 " + eightWords, "ab", false},
		{"2 ba bb", "", true}, {"2 ba bb", "a", true}, {"2 ba bb", "b", false}, {"2 ba bb", "ab", false}, {"2 ba bb", "aaab", false},
		{"2 ba bb", strings.Repeat("a", 15) + "b", false}, {"2 ba bb", strings.Repeat("a", 16), true},
		{"2 ab bb", "b" + strings.Repeat("a", 15), false}, {"2 ba", strings.Repeat("a", 8) + strings.Repeat("b", 8), true},
		{"2 bb", strings.Repeat("ab", 8), true}, {"2 bb", strings.Repeat("ab", 9), false}, {"2 bb", strings.Repeat("a", 14) + "bb", false},
		{"2 aaa bbb", "abbabaabbaababba", true}, {"2 aaa bbb", "abbabaaabbabaabb", false},
		{"3 ab bc ca", "acbacbacbacbacba", true}, {"3 ab bc ca", "acbacbacbacbacbc", false}, {"3 ba ca cb", "aaaaaabbbbbbcccc", true},
		{"3 bb ca cb cc", "aaaabababaaac", false}, {"3 bb ca cb cc", "aaaabababaaab", true},
	} {
		if got := impl.InLanguage(mustShift(t, c.text), c.w); got != c.want {
			t.Errorf("InLanguage(%q, %q) = %v", c.text, c.w, got)
		}
	}
}

func TestStringsThatAreNoWordsAreInNoLanguage(t *testing.T) {
	for _, s := range append(someShifts()[:19], noShifts()...) {
		for _, w := range noWords() {
			if impl.AvoidsAll(s, w) || impl.InLanguage(s, w) {
				t.Errorf("AvoidsAll(%#v, %q) = %v, InLanguage = %v", s, w, impl.AvoidsAll(s, w), impl.InLanguage(s, w))
			}
		}
	}
}

func TestIsEmptyShift(t *testing.T) {
	for _, c := range []struct {
		text string
		want bool
	}{
		{"1", false}, {"2", false}, {"3", false}, {"2 bb", false}, {"2 aa bb", false}, {"2 ba bb", false}, {"3 ab bc ca", false},
		{"1 a", true}, {"1 aa", true}, {"1 aaa", true}, {"1 a aa aaa", true}, {"2 a b", true}, {"2 aa b", true}, {"2 aaa b", true},
		{"2 a", false}, {"2 b", false}, {"2 aa ab bb", true}, {"2 aa ba bb", true}, {"2 aa aba bb", true}, {"2 aaa ab bb", true},
		{"2 aaa ab bbb", true}, {"2 aa ab", false}, {"2 " + eightWords, true}, {"2 aaa aab aba abb baa bab bba", false},
		{"3 a b", false}, {"3 a b c", true}, {"3 a b cc", true}, {"3 aa ba bb ca cb cc", true}, {"3 aa ab ac ba bb bc ca cb", false},
		{"3 aa bb cc", false}, {"3 aa ba bb cb cc", false}, {"3 aaa ba bbb ca cb ccc", true}, {"3 aa ba bb cab cb cc", false}, {"3 aa ba bb cac cb cc", false}, {"3 aa ba bb cab cac cb cc", true},
	} {
		s := mustShift(t, c.text)
		if got := impl.IsEmptyShift(s); got != c.want {
			t.Errorf("IsEmptyShift(%q) = %v", c.text, got)
		}
		if impl.InLanguage(s, "") == c.want || (len(impl.LanguageOf(s, 0)) == 0) != c.want {
			t.Errorf("%q: the empty word is in the language of a shift exactly if it has points", c.text)
		}
	}
}

func TestListsBeyondTheLimits(t *testing.T) {
	for _, s := range someShifts() {
		for _, n := range []int{-1, -2, 7, 8, 16, 17, 1 << 32, math.MaxInt, math.MinInt} {
			if a, l := impl.AvoidingWords(s, n), impl.LanguageOf(s, n); len(a) != 0 || len(l) != 0 {
				t.Errorf("AvoidingWords(%#v, %d) = %q, LanguageOf = %q; want nil", s, n, a, l)
			}
		}
	}
}

func TestFunctionsOfNoShift(t *testing.T) {
	for _, s := range noShifts() {
		for _, w := range []string{"", "a", "b", "ab", "c", "d"} {
			if impl.AvoidsAll(s, w) || impl.InLanguage(s, w) {
				t.Errorf("AvoidsAll(%#v, %q) = %v, InLanguage = %v", s, w, impl.AvoidsAll(s, w), impl.InLanguage(s, w))
			}
		}
		for n := -1; n <= 7; n++ {
			if a, l := impl.AvoidingWords(s, n), impl.LanguageOf(s, n); len(a) != 0 || len(l) != 0 {
				t.Errorf("AvoidingWords(%#v, %d) = %q, LanguageOf = %q; want nil", s, n, a, l)
			}
		}
		if impl.IsEmptyShift(s) || impl.ShiftText(s) != "" {
			t.Errorf("IsEmptyShift(%#v) = %v, ShiftText = %q", s, impl.IsEmptyShift(s), impl.ShiftText(s))
		}
	}
}

func TestShiftText(t *testing.T) {
	for _, c := range []struct {
		s    impl.Shift
		want string
	}{
		{shiftOf(1, ""), "1"}, {shiftOf(2, ""), "2"}, {shiftOf(3, ""), "3"}, {impl.Shift{Letters: 2, Forbidden: []string{}}, "2"},
		{shiftOf(1, "a"), "1 a"}, {shiftOf(2, "bb"), "2 bb"}, {shiftOf(2, "aa bb"), "2 aa bb"}, {shiftOf(3, "ab bc ca"), "3 ab bc ca"},
		{shiftOf(2, eightWords), "2 " + eightWords}, {shiftOf(2, "a aa aaa"), "2 a aa aaa"},
	} {
		if got := impl.ShiftText(c.s); got != c.want {
			t.Errorf("ShiftText(%#v) = %q; want %q", c.s, got, c.want)
		}
	}
}

// P3.
func TestAShiftIsParsedFromItsText(t *testing.T) {
	texts := map[string]bool{}
	check := func(s impl.Shift) {
		text := impl.ShiftText(s)
		got, ok := impl.ParseShift(text)
		if !ok || !equalShift(got, s) || text == "" {
			t.Fatalf("ParseShift(%q) = %#v, %v; want %#v", text, got, ok, s)
		}
		texts[text] = true
	}
	count := 0
	eachShift(func(s impl.Shift) {
		check(s)
		count++
	})
	if len(texts) != count {
		t.Errorf("%d shifts have %d texts", count, len(texts))
	}
	for _, s := range someShifts() {
		check(s)
	}
}

func TestParseShiftRejectsOtherTexts(t *testing.T) {
	texts := []string{
		"", " ", "x", "a", "bb", "bb 2", "0", "4", "5", "12", "22", "-1", "-2", "+2", "2.", "2 bb\n", "\n2 bb", "2\tbb", "2\nbb", "2\x00",
		// Leading zeros.
		"02", "002", "02 bb", "00000002 bb", "01", "03 ab bc ca", "-02 bb", "00", "04",
		// A space too many, or at an end, or one missing.
		"2 ", " 2", "  2", "2  ", "2  bb", "2 bb ", " 2 bb", "2 aa  bb", "2 aa bb ", "2 aa bb  ", "2bb", "2 aa,bb", "2,aa", "2 aa/bb",
		// Out of order, or twice.
		"2 bb aa", "2 bb bb", "2 a a", "1 a a", "3 ca ab bc", "3 ab ca bc", "3 ab bc bc ca", "2 aab aa", "2 aa bb aa", "2 b aa",
		// Letters, lengths and numbers of words.
		"1 b", "2 c", "3 d", "2 A", "2 aB", "2 bc", "2 2", "2 a 2", "2 aaaa", "3 abca", "2 a aaaa", "2 a? b", "2 \xff", "2 \u0430",
		"2 aa aaa aab aba abb baa bab bba bbb", "3 aa ab ac ba bb bc ca cb cc", "2 " + strings.Repeat("a ", 1000), strings.Repeat(" ", 1000),
		"0 a", "4 a", "4 d", "258 a", "1000000 a", "4294967298 bb", "18446744073709551618 bb", "999999", strings.Repeat("2", 100),
	}
	for _, text := range texts {
		if s, ok := impl.ParseShift(text); ok || !equalShift(s, impl.Shift{}) || len(s.Forbidden) != 0 {
			t.Errorf("ParseShift(%q) = %#v, %v; want the zero Shift", text, s, ok)
		}
	}
}

func TestParseShiftOnAllShortTexts(t *testing.T) {
	form := regexp.MustCompile(`^(1( a{1,3})*|2( [ab]{1,3})*|3( [abc]{1,3})*)$`)
	eachText("0123 abcd", 6, func(text string) {
		words := strings.Fields(text)
		ascending := len(words) > 0
		for i := 2; i < len(words); i++ {
			ascending = ascending && words[i-1] < words[i]
		}
		want := ascending && form.MatchString(text)
		s, ok := impl.ParseShift(text)
		if ok != want {
			t.Fatalf("ParseShift(%q) = %#v, %v", text, s, ok)
		}
		if ok && (s.Letters != int(text[0]-'0') || !slices.Equal(s.Forbidden, words[1:]) || impl.ShiftText(s) != text) {
			t.Fatalf("ParseShift(%q) = %#v, with the text %q", text, s, impl.ShiftText(s))
		}
		if !ok && !equalShift(s, impl.Shift{}) {
			t.Fatalf("ParseShift(%q) = %#v, false; want the zero Shift", text, s)
		}
	})
}

func TestShiftFunctionsKeepForbidden(t *testing.T) {
	for _, whole := range [][]string{
		strings.Fields("aa bb ca cb cc b a"), strings.Fields(eightWords + " more"), strings.Fields("bb aa aa"), {"", "a", "b"}, {"a", "dd", "?"},
	} {
		before := slices.Clone(whole)
		for n := range len(whole) + 1 {
			for k := 0; k <= 4; k++ {
				s := impl.Shift{Letters: k, Forbidden: whole[:n]}
				impl.IsShift(s)
				impl.IsEmptyShift(s)
				impl.ShiftText(s)
				for _, w := range []string{"", "a", "bb", "abab", "cab"} {
					impl.AvoidsAll(s, w)
					impl.InLanguage(s, w)
				}
				for length := -1; length <= 7; length++ {
					overwrite(impl.AvoidingWords(s, length))
					overwrite(impl.LanguageOf(s, length))
				}
				if !slices.Equal(whole, before) {
					t.Fatalf("a function of %d letters and %q changed the list to %q", k, before[:n], whole)
				}
			}
		}
	}
}

// overwrite changes a list and its unused capacity.
func overwrite(list []string) {
	for i := range cap(list) {
		list[:cap(list)][i] = "changed"
	}
}

func TestListsOfShiftsAreNewMemory(t *testing.T) {
	for _, text := range []string{"1", "2 bb", "2 ba bb", "3 ab bc ca", "1 a", "2 " + eightWords} {
		for name, list := range map[string]func() []string{
			"AvoidingWords 0": func() []string { return impl.AvoidingWords(mustShift(t, text), 0) },
			"AvoidingWords 3": func() []string { return impl.AvoidingWords(mustShift(t, text), 3) },
			"LanguageOf 0":    func() []string { return impl.LanguageOf(mustShift(t, text), 0) },
			"LanguageOf 1":    func() []string { return impl.LanguageOf(mustShift(t, text), 1) },
			"LanguageOf 3":    func() []string { return impl.LanguageOf(mustShift(t, text), 3) },
			"ParseShift": func() []string {
				s, _ := impl.ParseShift(text)
				return s.Forbidden
			},
		} {
			kept := list()
			want := slices.Clone(kept)
			overwrite(list())
			if got := list(); !slices.Equal(got, want) || !slices.Equal(kept, want) {
				t.Errorf("%s of %q = %q and %q after another result was changed; want %q", name, text, kept, got, want)
			}
		}
	}
}
