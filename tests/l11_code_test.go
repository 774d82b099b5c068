package tests

import (
	"math"
	"math/rand"
	"regexp"
	"slices"
	"strconv"
	"strings"
	"testing"

	"loop.example/g03103/impl"
)

// codeForms are all Letters and Widths that a code can have.
var codeForms = [][2]int{{2, 1}, {2, 2}, {2, 3}, {2, 4}, {3, 1}, {3, 2}, {3, 3}}

// formNumbers are Letters and Widths of codes and of none, just beyond the limits and far from them.
var formNumbers = []int{0, 1, 2, 3, 4, 5, 6, -1, -2, -3, -4, 8, 16, 256 + 2, 256 + 3, 1 << 16, 1<<32 + 2, 1<<32 + 3, -1 << 32, 1 << 62, math.MaxInt, math.MaxInt - 1, math.MinInt, math.MinInt + 1, math.MinInt + 2}

func isForm(k, width int) bool { return slices.Contains(codeForms, [2]int{k, width}) }

func codeOf(k, width int, out string) impl.Code {
	return impl.Code{Letters: k, Width: width, Out: out}
}

// mustCode reads a text with strings.Fields, so that it does not rest on ParseCode.
func mustCode(t *testing.T, text string) impl.Code {
	t.Helper()
	parts := strings.Fields(text)
	c := codeOf(int(parts[0][0]-'0'), int(parts[1][0]-'0'), parts[2])
	if len(parts) != 3 || !impl.IsCode(c) {
		t.Fatalf("IsCode of %q = false", text)
	}
	return c
}

// codedWords returns all words of a length, in ascending order.
func codedWords(k, n int) []string {
	words := []string{""}
	for range n {
		var longer []string
		for _, w := range words {
			for i := range k {
				longer = append(longer, w+letters[i:i+1])
			}
		}
		words = longer
	}
	return words
}

// fewCodes are all codes of the small forms, and some of the others: with one letter, copies, and random ones.
func fewCodes(most int) []impl.Code {
	random := rand.New(rand.NewSource(11))
	var list []impl.Code
	for _, form := range codeForms {
		k, count := form[0], power(form[0], form[1])
		if power(k, count) <= most {
			for _, out := range codedWords(k, count) {
				list = append(list, codeOf(k, form[1], out))
			}
			continue
		}
		for i := range k {
			list = append(list, codeOf(k, form[1], strings.Repeat(letters[i:i+1], count)))
		}
		for at := range form[1] {
			list = append(list, copyByHand(k, form[1], at))
		}
		for range most {
			list = append(list, randomCode(random, k, form[1]))
		}
	}
	return list
}

func randomCode(random *rand.Rand, k, width int) impl.Code {
	out := make([]byte, power(k, width))
	for i := range out {
		out[i] = letters[random.Intn(k)]
	}
	return codeOf(k, width, string(out))
}

func copyByHand(k, width, at int) impl.Code {
	out := ""
	for _, w := range codedWords(k, width) {
		out += w[at : at+1]
	}
	return codeOf(k, width, out)
}

// noCodes are no codes, most of them nearly.
func noCodes() []impl.Code {
	list := []impl.Code{
		{}, codeOf(2, 0, ""), codeOf(2, 0, "a"), codeOf(3, 0, "a"), codeOf(0, 2, ""), codeOf(0, 0, "a"), codeOf(1, 1, "a"), codeOf(1, 2, "a"), codeOf(1, 4, "a"),
		codeOf(4, 1, "abcd"), codeOf(4, 1, "abca"), codeOf(4, 2, strings.Repeat("abca", 4)), codeOf(0, 1, ""), codeOf(-2, 1, ""), codeOf(-2, 2, "abba"), codeOf(-3, 2, strings.Repeat("a", 9)), codeOf(-2, 4, strings.Repeat("a", 16)),
		codeOf(2, 5, strings.Repeat("ab", 16)), codeOf(3, 4, strings.Repeat("abc", 27)), codeOf(3, 5, strings.Repeat("a", 243)), codeOf(2, 6, strings.Repeat("a", 64)), codeOf(5, 2, strings.Repeat("a", 25)), codeOf(27, 1, strings.Repeat("a", 27)), codeOf(26, 1, "abcdefghijklmnopqrstuvwxyz"),
		codeOf(2, -1, ""), codeOf(2, -1, "a"), codeOf(2, -2, "abba"), codeOf(3, -1, "abc"), codeOf(2, 64, ""), codeOf(2, 63, ""), codeOf(2, 65, "a"),
		// Out for other Letters or another Width.
		codeOf(2, 2, "abcabcabc"), codeOf(3, 2, "abba"), codeOf(2, 3, "abba"), codeOf(2, 1, "abba"), codeOf(2, 1, "ac"), codeOf(2, 2, "abca"), codeOf(2, 2, "caba"), codeOf(3, 1, "abd"), codeOf(3, 1, "dbc"), codeOf(2, 1, "AB"), codeOf(2, 1, "01"), codeOf(2, 2, "ab ba"), codeOf(2, 2, "ab a"), codeOf(2, 2, "a\x00ba"), codeOf(2, 1, "\u00e1"), codeOf(2, 1, "a\xe1"), codeOf(2, 1, "\xff\xff"),
	}
	for _, form := range codeForms {
		k, width, count := form[0], form[1], power(form[0], form[1])
		for _, n := range []int{0, 1, count - 1, count + 1, 2 * count, width, k, 1000} {
			if n != count {
				list = append(list, codeOf(k, width, strings.Repeat("a", n)))
			}
		}
		out := copyByHand(k, width, 0).Out
		list = append(list, codeOf(k, width, out[1:]), codeOf(k, width, out[:count-1]), codeOf(k, width, out+"a"), codeOf(k, width, "a"+out), codeOf(k, width, out+"d"), codeOf(k, width, out+" "))
		for _, i := range []int{0, count / 2, count - 1} {
			for _, letter := range []byte{'a' + byte(k), '`', 'a' - 2, 'z', 'A', ' ', 0, 0x7f, 0x80, 'a' + 0x80, 0xff} {
				list = append(list, codeOf(k, width, out[:i]+string([]byte{letter})+out[i+1:]))
			}
		}
		for _, n := range formNumbers {
			if !isForm(n, width) {
				list = append(list, codeOf(n, width, out))
			}
			if !isForm(k, n) {
				list = append(list, codeOf(k, n, out))
			}
		}
	}
	return list
}

// tableOf holds the letter of a code for each word.
func tableOf(c impl.Code) map[string]string {
	table := map[string]string{}
	for i, w := range codedWords(c.Letters, c.Width) {
		table[w] = c.Out[i : i+1]
	}
	return table
}

func applyByHand(table map[string]string, width int, w string) string {
	coded := ""
	for end := width; end <= len(w); end++ {
		coded += table[w[end-width:end]]
	}
	return coded
}

// ringByHand goes round the ring letter by letter.
func ringByHand(table map[string]string, width int, w string) string {
	coded := ""
	for i := range len(w) {
		part := ""
		for j := range width {
			at := (i + j) % len(w)
			part += w[at : at+1]
		}
		coded += table[part]
	}
	return coded
}

func checkText(t *testing.T, name string, c impl.Code, w string, got string, ok bool, want string, accepted bool) {
	t.Helper()
	if got != want || ok != accepted {
		t.Errorf("%s(%#v, %q) = %q, %v; want %q, %v", name, c, w, got, ok, want, accepted)
	}
}

func checkApply(t *testing.T, c impl.Code, w, want string, accepted bool) {
	t.Helper()
	got, ok := impl.ApplyCode(c, w)
	checkText(t, "ApplyCode", c, w, got, ok, want, accepted)
}

func checkRing(t *testing.T, c impl.Code, w, want string, accepted bool) {
	t.Helper()
	got, ok := impl.ApplyRing(c, w)
	checkText(t, "ApplyRing", c, w, got, ok, want, accepted)
}

// checkCode demands a code, or the zero Code and false where none is accepted.
func checkCode(t *testing.T, name string, got impl.Code, ok bool, want impl.Code, accepted bool, args ...any) {
	t.Helper()
	if !accepted {
		want = impl.Code{}
	}
	if got != want || ok != accepted {
		t.Errorf("%s(%#v) = %#v, %v; want %#v, %v", name, args, got, ok, want, accepted)
	}
}

func TestIsCode(t *testing.T) {
	for _, c := range []impl.Code{
		codeOf(2, 1, "ab"), codeOf(2, 1, "ba"), codeOf(2, 1, "aa"), codeOf(2, 1, "bb"), codeOf(2, 2, "abba"), codeOf(2, 2, "aaaa"), codeOf(2, 3, "abbaabba"), codeOf(2, 3, "bbbbbbbb"), codeOf(2, 4, "abbaabbaabbaabba"), codeOf(2, 4, "bbbbbbbbbbbbbbbb"),
		codeOf(3, 1, "abc"), codeOf(3, 1, "cba"), codeOf(3, 1, "aaa"), codeOf(3, 1, "ccc"), codeOf(3, 2, "abcbcacab"), codeOf(3, 2, "ababababa"), codeOf(3, 3, strings.Repeat("abc", 9)), codeOf(3, 3, strings.Repeat("c", 27)), codeOf(3, 3, strings.Repeat("a", 27)),
	} {
		if !impl.IsCode(c) {
			t.Errorf("IsCode(%#v) = false", c)
		}
	}
	for _, c := range noCodes() {
		if impl.IsCode(c) {
			t.Errorf("IsCode(%#v) = true", c)
		}
	}
}

func TestIsCodeOfEachFormAndLength(t *testing.T) {
	for _, k := range formNumbers {
		for _, width := range formNumbers {
			form := isForm(k, width)
			for n := range 90 {
				want := form && n == power(k, width)
				for _, out := range []string{strings.Repeat("a", n), strings.Repeat("ab", n)[:n]} {
					if got := impl.IsCode(codeOf(k, width, out)); got != want {
						t.Errorf("IsCode of %d, %d and %d letters = %v", k, width, n, got)
					}
				}
			}
		}
	}
	for _, n := range []int{243, 256, 625, 729, 1024, 65536} {
		for _, k := range formNumbers {
			for _, width := range formNumbers {
				if impl.IsCode(codeOf(k, width, strings.Repeat("a", n))) {
					t.Errorf("IsCode of %d, %d and %d letters = true", k, width, n)
				}
			}
		}
	}
}

func TestIsCodeOnEachByte(t *testing.T) {
	for _, form := range codeForms {
		k, count := form[0], power(form[0], form[1])
		for i := range count {
			for b := range 256 {
				out := []byte(strings.Repeat("a", count))
				out[i] = byte(b)
				want := strings.Contains(letters[:k], string(out[i:i+1]))
				if got := impl.IsCode(codeOf(k, form[1], string(out))); got != want {
					t.Errorf("IsCode of %d, %d and %q = %v", k, form[1], out, got)
				}
			}
		}
	}
}

func TestApplyCode(t *testing.T) {
	for _, c := range []struct{ code, w, want string }{
		{"2 2 abba", "abba", "bab"}, {"2 2 abba", "", ""}, {"2 2 abba", "a", ""}, {"2 2 abba", "b", ""}, {"2 2 abba", "aa", "a"}, {"2 2 abba", "ab", "b"}, {"2 2 abba", "ba", "b"}, {"2 2 abba", "bb", "a"}, {"2 2 abba", "aab", "ab"}, {"2 2 abba", "aba", "bb"}, {"2 2 abba", "bba", "ab"},
		// The index of the part counts, not that of the part turned.
		{"2 2 aaba", "aabba", "aaab"}, {"2 2 abaa", "aabba", "abaa"}, {"2 3 aaaabaaa", "abaabb", "abaa"}, {"2 3 abaaaaaa", "abaabb", "aaba"}, {"3 2 aabaaaaaa", "acab", "baa"}, {"3 2 aaaaaabaa", "acab", "aba"},
		{"2 1 ba", "", ""}, {"2 1 ba", "a", "b"}, {"2 1 ba", "abbab", "baaba"}, {"2 1 aa", "abbab", "aaaaa"}, {"3 1 bca", "abccba", "bcaacb"}, {"3 1 bca", "", ""}, {"3 1 cba", "c", "a"},
		// Shorter than the width, of the same length, and longer.
		{"2 3 aaabaaab", "ab", ""}, {"2 3 aaabaaab", "abb", "b"}, {"2 3 aaabaaab", "bbb", "b"}, {"2 3 aaabaaab", "abbb", "bb"}, {"2 3 aaabaaab", "babb", "ab"}, {"2 4 aaaaaaaaaaaaaaab", "", ""}, {"2 4 aaaaaaaaaaaaaaab", "b", ""}, {"2 4 aaaaaaaaaaaaaaab", "bb", ""}, {"2 4 aaaaaaaaaaaaaaab", "bbb", ""}, {"2 4 aaaaaaaaaaaaaaab", "bbbb", "b"}, {"2 4 aaaaaaaaaaaaaaab", "abbbb", "ab"}, {"2 4 aaaaaaaaaaaaaaab", "bbbba", "ba"},
		{"3 2 abcabcabc", "c", ""}, {"3 2 abcabcabc", "ca", "a"}, {"3 2 abcabcabc", "cab", "ab"}, {"3 2 aaabbbccc", "cab", "ca"}, {"3 3 aaaaaaaaabbbbbbbbbccccccccc", "bc", ""}, {"3 3 aaaaaaaaabbbbbbbbbccccccccc", "bca", "b"}, {"3 3 aaaaaaaaabbbbbbbbbccccccccc", "abca", "ab"}, {"3 3 abcabcabcabcabcabcabcabcabc", "abca", "ca"}, {"3 3 aaaaaaaaaaaaaaaaaaaaaaaaaac", "ccccb", "cca"}, {"3 3 caaaaaaaaaaaaaaaaaaaaaaaaaa", "aaaab", "cca"},
		// MaxWord letters.
		{"2 1 ba", "aaaaaaaaaaaaaaab", "bbbbbbbbbbbbbbba"}, {"2 2 abba", "aaaaaaaaaaaaaaab", "aaaaaaaaaaaaaab"}, {"2 2 abba", "abababababababab", "bbbbbbbbbbbbbbb"}, {"2 4 aaaaaaaaaaaaaaab", "bbbbbbbbbbbbbbbb", "bbbbbbbbbbbbb"}, {"3 1 bca", "cccccccccccccccc", "aaaaaaaaaaaaaaaa"}, {"3 3 aaaaaaaaabbbbbbbbbccccccccc", "abcabcabcabcabca", "abcabcabcabcab"},
	} {
		checkApply(t, mustCode(t, c.code), c.w, c.want, true)
	}
}

func TestApplyRing(t *testing.T) {
	for _, c := range []struct{ code, w, want string }{
		{"2 2 abba", "abb", "bab"}, {"2 2 abba", "ab", "bb"}, {"2 2 abba", "ba", "bb"}, {"2 2 abba", "abba", "baba"}, {"2 2 abba", "bbabaaab", "abbbaaba"}, {"2 2 aaba", "aab", "aab"}, {"2 2 aaba", "aba", "aba"}, {"2 2 abaa", "aab", "aba"}, {"2 2 abaa", "aba", "baa"}, {"2 2 abaa", "baa", "aab"},
		{"2 1 ba", "ab", "ba"}, {"2 1 ba", "abb", "baa"}, {"3 1 bca", "abc", "bca"}, {"2 3 aabaaaaa", "aab", "aba"}, {"2 3 aaaaabaa", "abb", "aab"}, {"2 4 aaaaabaaaaaaaaaa", "abab", "baba"}, {"2 4 aaaaaaaaabaaaaaa", "aabb", "aaab"}, {"2 4 aabaaaaaaaaaaaaa", "aaba", "baaa"}, {"3 3 aaaaacaaaaaaaaaaaaaaaaaaaaa", "abc", "caa"}, {"3 3 aaaaacaaaaaaaaaaaaaaaaaaaaa", "acb", "aaa"}, {"3 3 aaaaaaaaaaaaaaacaaaaaaaaaaa", "bca", "caa"},
		// One letter, with each width.
		{"2 1 ba", "a", "b"}, {"2 1 ba", "b", "a"}, {"3 1 bca", "a", "b"}, {"3 1 bca", "c", "a"}, {"2 2 abba", "a", "a"}, {"2 2 abba", "b", "a"}, {"2 2 baaa", "a", "b"}, {"2 2 baaa", "b", "a"}, {"3 2 bcacabacb", "a", "b"}, {"3 2 bcacabacb", "b", "a"}, {"3 2 bcacabacb", "c", "b"}, {"2 3 baaaaaab", "a", "b"}, {"2 3 baaaaaab", "b", "b"}, {"3 3 baaaaaaaaaaaacaaaaaaaaaaaab", "a", "b"}, {"3 3 baaaaaaaaaaaacaaaaaaaaaaaab", "b", "c"}, {"3 3 baaaaaaaaaaaacaaaaaaaaaaaab", "c", "b"}, {"2 4 baaaaaaaaaaaaaaa", "a", "b"}, {"2 4 baaaaaaaaaaaaaaa", "b", "a"}, {"2 4 aaaaaaaaaaaaaaab", "a", "a"}, {"2 4 aaaaaaaaaaaaaaab", "b", "b"},
		// Continued once, and more than once.
		{"2 3 baaaaaab", "ab", "aa"}, {"2 3 aabaaaaa", "ab", "ba"}, {"2 3 aabaaaaa", "ba", "ab"}, {"2 3 aaaaabaa", "ab", "ab"}, {"2 3 aaaaabaa", "ba", "ba"}, {"2 4 aaaaabaaaaaaaaaa", "ab", "ba"}, {"2 4 aaaaabaaaaaaaaaa", "ba", "ab"}, {"2 4 aaaaaaaaaabaaaaa", "ab", "ab"}, {"2 4 aaaaaaaaaabaaaaa", "ba", "ba"}, {"2 4 aaaaaaaaaaaaaaab", "bb", "bb"}, {"2 4 aaaaaaaaaaaaaaab", "bbb", "bbb"}, {"2 4 aaaaaaaaabaaaaaa", "aab", "aab"}, {"2 4 aaaaaaaaabaaaaaa", "baa", "baa"}, {"2 4 aabaaaaaaaaaaaaa", "aab", "baa"}, {"2 4 aabaaaaaaaaaaaaa", "aba", "aab"}, {"3 3 aaaaacaaaaaaaaaaaaaaaaaaaaa", "ab", "aa"}, {"3 3 aaaaaaaaaaaaaaacaaaaaaaaaaa", "cb", "aa"},
		// MaxWord letters.
		{"2 1 ba", "aaaaaaaaaaaaaaab", "bbbbbbbbbbbbbbba"}, {"2 2 abba", "aaaaaaaaaaaaaaab", "aaaaaaaaaaaaaabb"}, {"2 3 abababab", "abbbbbbbbbbbbbba", "bbbbbbbbbbbbbaab"}, {"2 4 aaaaaaaaaaaaaaab", "bbbbbbbbbbbbbbbb", "bbbbbbbbbbbbbbbb"}, {"2 4 aaaaaaaaaaaaaaab", "bbabbbbbbbbbbbbb", "aaabbbbbbbbbbbba"}, {"3 3 aaaaaaaaabbbbbbbbbccccccccc", "abcabcabcabcabca", "abcabcabcabcabca"}, {"3 3 abcabcabcabcabcabcabcabcabc", "abcabcabcabcabca", "cabcabcabcabcaab"},
	} {
		checkRing(t, mustCode(t, c.code), c.w, c.want, true)
	}
	for _, c := range fewCodes(20) {
		checkRing(t, c, "", "", false)
	}
}

func TestCodesOnAllShortWords(t *testing.T) {
	most := map[int]int{2: 8, 3: 5}
	for _, c := range fewCodes(100) {
		table := tableOf(c)
		eachText(letters[:c.Letters], most[c.Letters], func(w string) {
			checkApply(t, c, w, applyByHand(table, c.Width, w), true)
			checkRing(t, c, w, ringByHand(table, c.Width, w), w != "")
		})
	}
}

// Words of 13 to MaxWord letters, and longer strings, which are no words.
func TestCodesOnLongWords(t *testing.T) {
	random := rand.New(rand.NewSource(1116))
	for _, c := range fewCodes(30) {
		table := tableOf(c)
		for n := 13; n <= 20; n++ {
			for range 4 {
				long := make([]byte, n)
				for i := range long {
					long[i] = letters[random.Intn(c.Letters)]
				}
				w, applied, ring := string(long), "", ""
				if n <= 16 {
					applied, ring = applyByHand(table, c.Width, w), ringByHand(table, c.Width, w)
				}
				checkApply(t, c, w, applied, n <= 16)
				checkRing(t, c, w, ring, n <= 16)
			}
		}
	}
}

func TestCodesOnOtherStrings(t *testing.T) {
	for _, c := range fewCodes(20) {
		others := noWords()
		for k := c.Letters; k < 3; k++ {
			more := letters[k : k+1]
			others = append(others, more, more+"a", "a"+more, "aaaa"+more, more+"aaaa", "bab"+more+"bab", strings.Repeat("a", 15)+more, more+strings.Repeat("b", 15))
		}
		for _, w := range others {
			checkApply(t, c, w, "", false)
			checkRing(t, c, w, "", false)
		}
	}
}

func TestCodesOnEachByte(t *testing.T) {
	for _, form := range codeForms {
		c := copyByHand(form[0], form[1], form[1]-1)
		table := tableOf(c)
		for b := range 256 {
			letter := string([]byte{byte(b)})
			for _, w := range []string{letter, letter + "a", "b" + letter, "ab" + letter + "a", "abbab" + letter} {
				applied, ring, accepted := "", "", strings.Contains(letters[:form[0]], letter)
				if accepted {
					applied, ring = applyByHand(table, form[1], w), ringByHand(table, form[1], w)
				}
				checkApply(t, c, w, applied, accepted)
				checkRing(t, c, w, ring, accepted)
			}
		}
	}
}

// On a ring it does not count where the word begins, nor how often it goes round.
func TestRingsTurnedAndRepeated(t *testing.T) {
	for _, c := range fewCodes(20) {
		eachText(letters[:c.Letters], 5, func(w string) {
			if w == "" {
				return
			}
			once, ok := impl.ApplyRing(c, w)
			if !ok || len(once) != len(w) {
				t.Fatalf("ApplyRing(%#v, %q) = %q, %v", c, w, once, ok)
			}
			for times := 1; times*len(w) <= 16; times++ {
				checkRing(t, c, strings.Repeat(w, times), strings.Repeat(once, times), true)
			}
			for n := range len(w) {
				checkRing(t, c, impl.TurnWord(w, n), impl.TurnWord(once, n), true)
			}
		})
	}
}

func TestComposeCodes(t *testing.T) {
	for _, c := range []struct{ c, d, want string }{
		{"2 2 abba", "2 2 abba", "2 3 ababbaba"}, {"2 1 ba", "2 1 ba", "2 1 ab"}, {"2 1 ba", "2 1 bb", "2 1 aa"}, {"2 1 aa", "2 1 ba", "2 1 aa"}, {"2 2 abba", "2 1 ba", "2 2 abba"}, {"2 1 ba", "2 2 abba", "2 2 baab"}, {"2 3 abbabaab", "2 1 bb", "2 3 bbbbbbbb"},
		// First d, then c.
		{"2 2 aaab", "2 2 abba", "2 3 aabaabaa"}, {"2 2 abba", "2 2 aaab", "2 3 aaabaaba"}, {"2 2 aaba", "2 2 abaa", "2 3 aabbaaaa"}, {"2 2 abaa", "2 2 aaba", "2 3 aabaaaba"}, {"3 1 bca", "3 1 bca", "3 1 cab"}, {"3 1 bca", "3 1 cba", "3 1 acb"}, {"3 1 cba", "3 1 bca", "3 1 bac"}, {"3 2 abcbcacab", "3 1 bca", "3 2 cababcbca"}, {"3 1 bca", "3 2 abcbcacab", "3 2 bcacababc"},
		// As wide as a code can be.
		{"2 3 aaabaaab", "2 2 abba", "2 4 aabaabaaaabaabaa"}, {"2 2 abba", "2 3 aaabaaab", "2 4 aaabaabaaaabaaba"}, {"2 1 ba", "2 4 abbaabbaabbaaaaa", "2 4 baabbaabbaabbbbb"}, {"2 4 abbaabbaabbaaaaa", "2 1 ba", "2 4 aaaaabbaabbaabba"}, {"3 2 abcbcacab", "3 2 aaaaaabbc", "3 3 aaaaaabbcaaaaaabbcbbbbbbaab"}, {"3 2 aaaaaabbc", "3 2 abcbcacab", "3 3 aaaaaacbbaaabcbaaabbcaaaaaa"}, {"3 1 cba", "3 3 abcabcabcabcabcabcabcabcabc", "3 3 cbacbacbacbacbacbacbacbacba"}, {"3 3 aabbbcccaaabbbcccaaabbbccca", "3 1 bca", "3 3 bcbcacababcbcacababcbcacaba"},
	} {
		got, ok := impl.ComposeCodes(mustCode(t, c.c), mustCode(t, c.d))
		checkCode(t, "ComposeCodes", got, ok, mustCode(t, c.want), true, c.c, c.d)
	}
}

func composeByHand(c, d impl.Code) (impl.Code, bool) {
	width := c.Width + d.Width - 1
	if c.Letters != d.Letters || !isForm(c.Letters, width) {
		return impl.Code{}, false
	}
	tableC, tableD, out := tableOf(c), tableOf(d), ""
	for _, w := range codedWords(c.Letters, width) {
		out += applyByHand(tableC, c.Width, applyByHand(tableD, d.Width, w))
	}
	return codeOf(c.Letters, width, out), true
}

// All widths with all others, and codes with different Letters.
func TestComposeCodesOfAllForms(t *testing.T) {
	composed := map[[4]int]bool{}
	list := fewCodes(20)
	for _, c := range list {
		for _, d := range list {
			want, accepted := composeByHand(c, d)
			got, ok := impl.ComposeCodes(c, d)
			checkCode(t, "ComposeCodes", got, ok, want, accepted, c, d)
			composed[[4]int{c.Letters, c.Width, d.Letters, d.Width}] = ok
		}
	}
	for _, c := range []struct {
		forms [4]int
		want  bool
	}{
		// The widths 4 and 5 with 2 letters, 3 and 4 with 3.
		{[4]int{2, 1, 2, 4}, true}, {[4]int{2, 2, 2, 3}, true}, {[4]int{2, 3, 2, 2}, true}, {[4]int{2, 4, 2, 1}, true}, {[4]int{2, 2, 2, 4}, false}, {[4]int{2, 3, 2, 3}, false}, {[4]int{2, 4, 2, 2}, false}, {[4]int{2, 4, 2, 4}, false},
		{[4]int{3, 1, 3, 3}, true}, {[4]int{3, 2, 3, 2}, true}, {[4]int{3, 3, 3, 1}, true}, {[4]int{3, 2, 3, 3}, false}, {[4]int{3, 3, 3, 2}, false}, {[4]int{3, 3, 3, 3}, false}, {[4]int{2, 1, 3, 1}, false}, {[4]int{3, 1, 2, 1}, false}, {[4]int{2, 2, 3, 2}, false}, {[4]int{3, 1, 2, 4}, false},
	} {
		if got, ok := composed[c.forms]; got != c.want || !ok {
			t.Errorf("ComposeCodes of the forms %v: %v, %v", c.forms, got, ok)
		}
	}
}

func TestComposeCodesOfAllSmallPairs(t *testing.T) {
	small := slices.DeleteFunc(fewCodes(256), func(c impl.Code) bool { return c.Letters != 2 || c.Width > 3 })
	if len(small) != 4+16+256 {
		t.Fatalf("there are %d small codes", len(small))
	}
	for _, c := range small {
		for _, d := range small {
			if c.Width+d.Width > 5 {
				continue
			}
			want, accepted := composeByHand(c, d)
			got, ok := impl.ComposeCodes(c, d)
			checkCode(t, "ComposeCodes", got, ok, want, accepted, c, d)
		}
	}
}

// P11.
func TestCodesAreAppliedOneAfterTheOtherAsComposed(t *testing.T) {
	most := map[int]int{2: 8, 3: 5}
	count := 0
	list := fewCodes(20)
	for _, c := range list {
		for _, d := range list {
			composed, ok := impl.ComposeCodes(c, d)
			if !ok {
				continue
			}
			if !impl.IsCode(composed) || composed.Letters != c.Letters || composed.Width != c.Width+d.Width-1 {
				t.Fatalf("ComposeCodes(%#v, %#v) = %#v", c, d, composed)
			}
			count++
			words := longWords()
			eachText(letters[:c.Letters], most[c.Letters], func(w string) { words = append(words, w) })
			for _, w := range words {
				checkOneAfterTheOther(t, c, d, composed, w)
			}
		}
	}
	if count < 1000 {
		t.Errorf("only %d pairs of codes were composed", count)
	}
}

func checkOneAfterTheOther(t *testing.T, c, d, composed impl.Code, w string) {
	t.Helper()
	for name, apply := range map[string]func(impl.Code, string) (string, bool){"ApplyCode": impl.ApplyCode, "ApplyRing": impl.ApplyRing} {
		first, accepted := apply(d, w)
		want, applied := apply(c, first)
		if !accepted {
			want = ""
		}
		got, ok := apply(composed, w)
		if got != want || ok != accepted || applied != (name == "ApplyCode" || first != "") {
			t.Fatalf("%s(%#v, %q) = %q, %v; with %#v and then %#v: %q, %v", name, composed, w, got, ok, d, c, want, accepted)
		}
	}
}

// A copy only moves the code, whether it comes first or last.
func TestComposeCodesWithACopy(t *testing.T) {
	for _, c := range fewCodes(60) {
		for width := 1; width <= 4; width++ {
			for at := range width {
				copies, ok := impl.CopyCode(c.Letters, width, at)
				if !ok {
					continue
				}
				accepted, want := isForm(c.Letters, c.Width+width-1), impl.Code{}
				if accepted {
					table := tableOf(c)
					want = codeOf(c.Letters, c.Width+width-1, "")
					for _, w := range codedWords(c.Letters, want.Width) {
						want.Out += table[w[at:at+c.Width]]
					}
				}
				got, ok := impl.ComposeCodes(c, copies)
				checkCode(t, "ComposeCodes", got, ok, want, accepted, c, copies)
				got, ok = impl.ComposeCodes(copies, c)
				checkCode(t, "ComposeCodes", got, ok, want, accepted, copies, c)
				if width == 1 && got != c {
					t.Errorf("ComposeCodes(%#v, %#v) = %#v; want the code", copies, c, got)
				}
			}
		}
	}
}

func composeThree(c, d, e impl.Code) (left impl.Code, leftOK bool, right impl.Code, rightOK bool) {
	if cd, ok := impl.ComposeCodes(c, d); ok {
		left, leftOK = impl.ComposeCodes(cd, e)
	}
	if de, ok := impl.ComposeCodes(d, e); ok {
		right, rightOK = impl.ComposeCodes(c, de)
	}
	return left, leftOK, right, rightOK
}

func TestComposeThreeCodes(t *testing.T) {
	list := slices.DeleteFunc(fewCodes(4), func(c impl.Code) bool { return c.Width == 4 })
	count := 0
	for _, c := range list {
		for _, d := range list {
			for _, e := range list {
				left, leftOK, right, rightOK := composeThree(c, d, e)
				same := c.Letters == d.Letters && d.Letters == e.Letters
				if want := same && isForm(c.Letters, c.Width+d.Width+e.Width-2); leftOK != want || rightOK != want || left != right {
					t.Fatalf("%#v, %#v and %#v are composed to %#v, %v and %#v, %v", c, d, e, left, leftOK, right, rightOK)
				}
				if leftOK {
					count++
				}
			}
		}
	}
	if count < 1000 {
		t.Errorf("only %d times three codes were composed", count)
	}
}

func TestCopyCode(t *testing.T) {
	for _, c := range []struct {
		width, at int
		want      string
	}{
		{1, 0, "2 1 ab"}, {2, 0, "2 2 aabb"}, {2, 1, "2 2 abab"}, {3, 0, "2 3 aaaabbbb"}, {3, 1, "2 3 aabbaabb"}, {3, 2, "2 3 abababab"}, {4, 0, "2 4 aaaaaaaabbbbbbbb"}, {4, 1, "2 4 aaaabbbbaaaabbbb"}, {4, 2, "2 4 aabbaabbaabbaabb"}, {4, 3, "2 4 abababababababab"},
		{1, 0, "3 1 abc"}, {2, 0, "3 2 aaabbbccc"}, {2, 1, "3 2 abcabcabc"}, {3, 0, "3 3 aaaaaaaaabbbbbbbbbccccccccc"}, {3, 1, "3 3 aaabbbcccaaabbbcccaaabbbccc"}, {3, 2, "3 3 abcabcabcabcabcabcabcabcabc"},
	} {
		want := mustCode(t, c.want)
		got, ok := impl.CopyCode(want.Letters, c.width, c.at)
		checkCode(t, "CopyCode", got, ok, want, true, want.Letters, c.width, c.at)
	}
}

func checkCopy(t *testing.T, k, width, at int) {
	t.Helper()
	accepted, want := isForm(k, width) && at >= 0 && at < width, impl.Code{}
	if accepted {
		want = copyByHand(k, width, at)
	}
	got, ok := impl.CopyCode(k, width, at)
	checkCode(t, "CopyCode", got, ok, want, accepted, k, width, at)
}

func TestCopyCodeAtEachIndex(t *testing.T) {
	for k := 0; k <= 5; k++ {
		for width := -1; width <= 6; width++ {
			for at := -2; at <= width+2; at++ {
				checkCopy(t, k, width, at)
			}
		}
	}
}

func TestCopyCodeGivesTheLetterAtTheIndex(t *testing.T) {
	for _, form := range codeForms {
		for at := range form[1] {
			c, ok := impl.CopyCode(form[0], form[1], at)
			if !ok || !impl.IsCode(c) {
				t.Fatalf("CopyCode(%d, %d, %d) = %#v, %v", form[0], form[1], at, c, ok)
			}
			eachText(letters[:form[0]], 6, func(w string) {
				want := ""
				if len(w) >= form[1] {
					want = w[at : at+len(w)-form[1]+1]
				}
				checkApply(t, c, w, want, true)
				checkRing(t, c, w, impl.TurnWord(w, at), w != "")
			})
		}
	}
}

func TestCopyCodeOfOtherNumbers(t *testing.T) {
	for _, k := range formNumbers {
		for _, width := range formNumbers {
			for _, at := range formNumbers {
				checkCopy(t, k, width, at)
			}
		}
	}
}

func TestEqualCode(t *testing.T) {
	list := []impl.Code{
		{}, codeOf(2, 2, "abba"), codeOf(3, 2, "abba"), codeOf(2, 3, "abba"), codeOf(2, 2, "abbb"), codeOf(2, 2, "bbba"), codeOf(2, 2, "abb"), codeOf(2, 2, "abbaa"), codeOf(2, 2, ""), codeOf(2, 2, "abba "), codeOf(2, 2, "Abba"), codeOf(2, 2, "abba\x00"),
		codeOf(2, 0, ""), codeOf(0, 2, ""), codeOf(0, 0, "abba"), codeOf(1, 0, ""), codeOf(0, 1, ""), codeOf(0, 0, "a"), codeOf(-2, 2, "abba"), codeOf(2, -2, "abba"), codeOf(256+2, 2, "abba"), codeOf(2, 256+2, "abba"), codeOf(1<<32+2, 2, "abba"), codeOf(2, 1<<32+2, "abba"), codeOf(math.MinInt, 2, "abba"), codeOf(2, math.MinInt, "abba"), codeOf(math.MaxInt, 2, "abba"), codeOf(2, math.MaxInt, "abba"), codeOf(math.MinInt, 0, ""), codeOf(0, math.MinInt, ""), codeOf(0, math.MaxInt, ""), codeOf(math.MaxInt, 0, ""),
		codeOf(2, 1, "ab"), codeOf(2, 1, "ba"), codeOf(3, 1, "abc"), codeOf(3, 1, "acb"), codeOf(2, 4, "aaaaaaaaaaaaaaaa"), codeOf(2, 4, "aaaaaaaaaaaaaaab"), codeOf(3, 3, strings.Repeat("a", 27)), codeOf(3, 3, strings.Repeat("a", 26)+"c"), codeOf(3, 3, "c"+strings.Repeat("a", 26)),
	}
	for i, c := range list {
		for j, d := range list {
			// The same letters in other memory are equal, too.
			d.Out = strings.Clone(d.Out)
			if got := impl.EqualCode(c, d); got != (i == j) {
				t.Errorf("EqualCode(%#v, %#v) = %v", c, d, got)
			}
		}
	}
	for _, c := range append(noCodes(), fewCodes(20)...) {
		if !impl.EqualCode(c, codeOf(c.Letters, c.Width, strings.Clone(c.Out))) {
			t.Errorf("EqualCode of %#v with itself = false", c)
		}
		for _, d := range []impl.Code{codeOf(c.Letters+1, c.Width, c.Out), codeOf(c.Letters, c.Width+1, c.Out), codeOf(c.Letters, c.Width, c.Out+"a"), codeOf(c.Letters+256, c.Width, c.Out), codeOf(c.Letters, c.Width-1<<32, c.Out), codeOf(c.Letters-1, c.Width+1, c.Out)} {
			if impl.EqualCode(c, d) || impl.EqualCode(d, c) {
				t.Errorf("EqualCode(%#v, %#v) = %v, turned %v", c, d, impl.EqualCode(c, d), impl.EqualCode(d, c))
			}
		}
	}
}

func TestCodeText(t *testing.T) {
	for _, c := range []struct {
		c    impl.Code
		want string
	}{
		{codeOf(2, 1, "ab"), "2 1 ab"}, {codeOf(2, 2, "abba"), "2 2 abba"}, {codeOf(2, 3, "abbaabba"), "2 3 abbaabba"}, {codeOf(2, 4, "abbaabbaabbaabba"), "2 4 abbaabbaabbaabba"}, {codeOf(3, 1, "bca"), "3 1 bca"}, {codeOf(3, 2, "abcbcacab"), "3 2 abcbcacab"}, {codeOf(3, 3, "aaaaaaaaabbbbbbbbbccccccccc"), "3 3 aaaaaaaaabbbbbbbbbccccccccc"},
	} {
		if got := impl.CodeText(c.c); got != c.want {
			t.Errorf("CodeText(%#v) = %q; want %q", c.c, got, c.want)
		}
	}
}

var codeTextForm = regexp.MustCompile(`^(2 1 [ab]{2}|2 2 [ab]{4}|2 3 [ab]{8}|2 4 [ab]{16}|3 1 [abc]{3}|3 2 [abc]{9}|3 3 [abc]{27})$`)

func checkParseCode(t *testing.T, text string) {
	t.Helper()
	accepted, want := codeTextForm.MatchString(text), impl.Code{}
	if accepted {
		want = codeOf(int(text[0]-'0'), int(text[2]-'0'), text[4:])
	}
	got, ok := impl.ParseCode(text)
	checkCode(t, "ParseCode", got, ok, want, accepted, text)
	if accepted && impl.CodeText(got) != text {
		t.Errorf("CodeText of ParseCode(%q) = %q", text, impl.CodeText(got))
	}
}

func TestACodeIsParsedFromItsText(t *testing.T) {
	texts := map[string]impl.Code{}
	for _, c := range fewCodes(300) {
		text := impl.CodeText(c)
		if want := strconv.Itoa(c.Letters) + " " + strconv.Itoa(c.Width) + " " + c.Out; text != want {
			t.Fatalf("CodeText(%#v) = %q; want %q", c, text, want)
		}
		if other, ok := texts[text]; ok && other != c {
			t.Fatalf("%#v and %#v have the text %q", c, other, text)
		}
		texts[text] = c
		got, ok := impl.ParseCode(text)
		checkCode(t, "ParseCode", got, ok, c, true, text)
	}
}

func TestParseCodeRejectsOtherTexts(t *testing.T) {
	texts := []string{
		"", " ", "  ", "   ", "x", "2", "2 2", "abba", "2 abba", "2abba", "22abba", "2 2abba", "22 abba", "abba 2 2", "2 abba 2",
		// An empty Out, or an empty part.
		"2 2 ", "2 0 ", "3 1 ", " 2 abba", "2  abba", "  abba", " 2 2", "0 0 ",
		// A space in front, at the end, and twice between.
		" 2 2 abba", "2 2 abba ", "2  2 abba", "2 2  abba", "  2 2 abba", "2 2 abba  ", "2 2 ab ba", "2 2 abb a", "2 2 a bba",
		// A fourth part.
		"2 2 abba x", "2 2 abba abba", "2 2 abba a", "2 2 abba 2", "2 2 2 abba", "2 2 abba 2 2 abba", "2 2 abba\n2 2 abba",
		// Other forms of the numbers.
		"02 2 abba", "2 02 abba", "002 2 abba", "2 002 abba", "02 02 abba", "+2 2 abba", "2 +2 abba", "-2 2 abba", "2 -2 abba", "-2 -2 abba", "2. 2 abba", "2.0 2 abba", "2 2.0 abba", "0x2 2 abba", "2 0x2 abba", "2e0 2 abba", "1 + 1 abba", "\u0662 2 abba", "2 \uff12 abba", "two 2 abba", "b 2 abba", "2 c abba", "-0 2 abba", "2 -0 a", "2 0 a", "0 2 abba", "0 0 a", "00 00 a",
		// Other bytes around and between.
		"2 2 abba\n", "\n2 2 abba", "2\n2\nabba", "2\t2\tabba", "2,2,abba", "2 2,abba", "2/2/abba", "2 2 abba\x00", "\x002 2 abba", "2 2 abba\r\n", "\ufeff2 2 abba", "2\u00a02 abba", "2 2 \"abba\"", "(2 2 abba)",
		// Letters, widths and lengths that no code has.
		"1 1 a", "1 2 a", "1 4 a", "4 1 abcd", "4 1 aaaa", "2 5 " + strings.Repeat("ab", 16), "3 4 " + strings.Repeat("abc", 27), "3 5 " + strings.Repeat("a", 243), "2 6 " + strings.Repeat("a", 64), "5 1 abcab", "26 1 abcdefghijklmnopqrstuvwxyz", "258 2 abba", "2 258 abba", "4294967298 2 abba", "2 4294967298 abba", "18446744073709551618 2 abba", "2 18446744073709551618 abba", "9223372036854775807 2 abba", "2 9223372036854775807 abba", "-9223372036854775808 2 abba", "2 -9223372036854775808 abba", "999999 2 abba", "2 999999 abba", "1000000 2 abba", "2 1000000 abba",
		"2 2 abb", "2 2 abbaa", "2 2 abbc", "2 2 cbba", "2 2 abbA", "2 2 0110", "2 1 a", "2 1 aba", "2 1 ac", "3 1 ab", "3 1 abca", "3 1 abd", "3 1 \x60bc", "2 3 abba", "3 2 abba", "3 2 abcabcab", "3 2 abcabcabca", "3 3 " + strings.Repeat("a", 26), "3 3 " + strings.Repeat("a", 28), "3 3 " + strings.Repeat("a", 26) + "d", "2 4 " + strings.Repeat("a", 15), "2 4 " + strings.Repeat("a", 17), "2 1 a\xe1", "2 1 \xc3\xa1", "2 2 ab\u0430", "2 1 \xff\xff", "2 2 " + strings.Repeat("abba", 1000), strings.Repeat("2 ", 1000), strings.Repeat(" ", 1000), strings.Repeat("2", 1000) + " 2 abba",
	}
	for _, text := range texts {
		if codeTextForm.MatchString(text) {
			t.Fatalf("%q is the text of a code", text)
		}
		checkParseCode(t, text)
	}
}

func TestParseCodeOnAllShortTexts(t *testing.T) {
	eachText("0123 abc", 6, func(text string) { checkParseCode(t, text) })
	eachText("23 abc", 7, func(text string) { checkParseCode(t, text) })
	eachText("2 ab", 8, func(text string) { checkParseCode(t, text) })
}

// Texts with a byte more, less or exchanged, and parts of texts.
func TestParseCodeOnNearTexts(t *testing.T) {
	for _, c := range fewCodes(2) {
		text := impl.CodeText(c)
		for i := range len(text) + 1 {
			for _, b := range []byte("012345 abcd+-\n\x00A\xe1\xff") {
				begin := text[:i] + string([]byte{b})
				checkParseCode(t, begin+text[i:])
				if i < len(text) {
					checkParseCode(t, begin+text[i+1:])
				}
			}
			if i < len(text) {
				checkParseCode(t, text[:i]+text[i+1:])
			}
			checkParseCode(t, text[:i])
			checkParseCode(t, text[i:])
		}
	}
}

func TestCodeFunctionsOfNoCode(t *testing.T) {
	others := []impl.Code{codeOf(2, 1, "ba"), codeOf(2, 2, "abba"), codeOf(2, 4, "abbaabbaabbaabba"), codeOf(3, 1, "bca"), codeOf(3, 3, strings.Repeat("abc", 9)), {}, codeOf(math.MinInt, math.MaxInt, "abba")}
	for _, c := range noCodes() {
		for _, w := range append(noWords(), "", "a", "b", "c", "ab", "abab", "abc", "aaaaaaaaaaaaaaaa", c.Out) {
			checkApply(t, c, w, "", false)
			checkRing(t, c, w, "", false)
		}
		if got := impl.CodeText(c); got != "" {
			t.Errorf("CodeText(%#v) = %q; want none", c, got)
		}
		text := strconv.Itoa(c.Letters) + " " + strconv.Itoa(c.Width) + " " + c.Out
		checkParseCode(t, text)
		for _, d := range append(others, c, codeOf(c.Letters, 1, "ab"), codeOf(c.Letters, 1-c.Width, "ab"), codeOf(c.Letters, 3-c.Width, "abba")) {
			got, ok := impl.ComposeCodes(c, d)
			checkCode(t, "ComposeCodes", got, ok, impl.Code{}, false, c, d)
			got, ok = impl.ComposeCodes(d, c)
			checkCode(t, "ComposeCodes", got, ok, impl.Code{}, false, d, c)
		}
	}
}

// Nothing is kept from one call to the next.
func TestCodeFunctionsAgain(t *testing.T) {
	list := fewCodes(10)
	type results struct{ applied, ring, text string }
	call := func(c impl.Code) (r results) {
		r.applied, _ = impl.ApplyCode(c, "abbabaab")
		r.ring, _ = impl.ApplyRing(c, "abbab")
		composed, _ := impl.ComposeCodes(c, c)
		r.text = impl.CodeText(composed) + impl.CodeText(c)
		return r
	}
	checkAgain(t, list, call)
}

// checkAgain calls for the whole list twice, the second time in reverse order.
func checkAgain[A any, R comparable](t *testing.T, list []A, call func(A) R) {
	t.Helper()
	first := make([]R, len(list))
	for i, argument := range list {
		first[i] = call(argument)
	}
	for i := len(list) - 1; i >= 0; i-- {
		if got := call(list[i]); got != first[i] {
			t.Errorf("the results for %#v are %v; they were %v", list[i], got, first[i])
		}
	}
}
