package tests

import (
	"math"
	"regexp"
	"slices"
	"strconv"
	"strings"
	"testing"

	"loop.example/g03103/impl"
)

const (
	greatestNumber = 999999
	greatestInt    = 999999999999
)

type parser struct {
	name            string
	parse           func(string) (int, bool)
	least, greatest int
}

func parsers() []parser {
	return []parser{
		{"ParseNumber", impl.ParseNumber, 0, greatestNumber},
		{"ParseInt", impl.ParseInt, -greatestInt, greatestInt},
	}
}

// checkParse demands that s is read as want, or as 0 and false where it is not accepted.
func checkParse(t *testing.T, p parser, s string, want int, accepted bool) {
	t.Helper()
	if !accepted {
		want = 0
	}
	if n, ok := p.parse(s); n != want || ok != accepted {
		t.Errorf("%s(%q) = %d, %v; want %d, %v", p.name, s, n, ok, want, accepted)
	}
}

// eachText calls visit for every string of at most most of the bytes of letters.
func eachText(letters string, most int, visit func(string)) {
	level := []string{""}
	for n := 0; ; n++ {
		var next []string
		for _, s := range level {
			visit(s)
			for i := range len(letters) {
				next = append(next, s+letters[i:i+1])
			}
		}
		if n == most {
			return
		}
		level = next
	}
}

func TestFormatInt(t *testing.T) {
	for _, c := range []struct {
		n    int
		want string
	}{
		{0, "0"}, {7, "7"}, {-1, "-1"}, {-5, "-5"}, {10, "10"}, {-70, "-70"}, {100, "100"}, {12345, "12345"},
		{999999, "999999"}, {-999999999999, "-999999999999"}, {4294967296, "4294967296"},
		{math.MaxInt, "9223372036854775807"}, {-math.MaxInt, "-9223372036854775807"},
		{math.MinInt, "-9223372036854775808"},
	} {
		if got := impl.FormatInt(c.n); got != c.want {
			t.Errorf("FormatInt(%d) = %q; want %q", c.n, got, c.want)
		}
	}
}

func TestParsersReadWhatFormatIntWrites(t *testing.T) {
	for n := range greatestNumber + 1 {
		if got, ok := impl.ParseNumber(impl.FormatInt(n)); !ok || got != n {
			t.Fatalf("ParseNumber of %d = %d, %v", n, got, ok)
		}
	}
	for _, p := range parsers() {
		for n := -2000; n <= 2000; n++ {
			checkParse(t, p, strconv.Itoa(n), n, p.least <= n && n <= p.greatest)
		}
		for power := 10; power <= 1000000000000000; power *= 10 {
			for _, n := range []int{power - 1, power, power + 1, 1 - power, -power, -power - 1} {
				checkParse(t, p, strconv.Itoa(n), n, p.least <= n && n <= p.greatest)
			}
		}
	}
}

func TestParsersAtTheLimits(t *testing.T) {
	for _, p := range parsers() {
		for _, n := range []int{p.least, p.least + 1, p.greatest - 1, p.greatest} {
			checkParse(t, p, strconv.Itoa(n), n, true)
		}
		for _, n := range []int{p.least - 1, p.greatest + 1, 2 * p.greatest, math.MinInt, math.MaxInt} {
			checkParse(t, p, strconv.Itoa(n), 0, false)
		}
	}
}

func TestParsersRejectOtherTexts(t *testing.T) {
	texts := []string{
		"", " ", "-", "+", "--1", "-+1", "+-1", "-0", "+0", "00", "-00", "000000", "007", "01", "-01", "-007", "+7", "+1",
		" 1", "1 ", "1\n", "\t1", "1\x00", "\x001", "1-", "1-2", "- 1", "1 2", "1,000", "1_000", "0x10", "0b1", "0o7",
		"1e3", "1.0", "1.", ".5", "a", "1a", "a1", "?", "NaN", "Inf", "\xff", "1\xff", "\u0661", "\uff11", "\u22121",
		"/", ":", "1/", "1:", "000001", "0999999", "-0999999999999",
		// Beyond 64 bits, where a sum of digits that wraps around could come back to a small number.
		"9223372036854775808", "-9223372036854775809", "18446744073709551616", "18446744073709551617",
		"-18446744073709551615", "340282366920938463463374607431768211457",
		strings.Repeat("9", 1000), "-" + strings.Repeat("9", 1000), strings.Repeat("0", 1000) + "1",
	}
	for _, p := range parsers() {
		for _, s := range texts {
			checkParse(t, p, s, 0, false)
		}
	}
}

func TestParsersOnAllShortTexts(t *testing.T) {
	form := regexp.MustCompile(`^(0|-?[1-9][0-9]*)$`)
	for _, p := range parsers() {
		eachText("-+019 _x", 5, func(s string) {
			n, _ := strconv.Atoi(s)
			checkParse(t, p, s, n, form.MatchString(s) && p.least <= n && n <= p.greatest)
		})
	}
}

func TestSplitByte(t *testing.T) {
	for _, c := range []struct {
		s    string
		by   byte
		want []string
	}{
		{"", ',', []string{""}},
		{",", ',', []string{"", ""}},
		{",,", ',', []string{"", "", ""}},
		{"a", ',', []string{"a"}},
		{",a", ',', []string{"", "a"}},
		{"a,", ',', []string{"a", ""}},
		{"a,b", ',', []string{"a", "b"}},
		{"a,,b", ',', []string{"a", "", "b"}},
		{",a,,bc,", ',', []string{"", "a", "", "bc", ""}},
		{"a b/c", '/', []string{"a b", "c"}},
		{"aXbx", 'x', []string{"aXb", ""}},
		{"a\nb\n", '\n', []string{"a", "b", ""}},
		{"\x00a\x00", 0, []string{"", "a", ""}},
		{"a\xffb", 0xff, []string{"a", "b"}},
		{"\u00e9", 0xa9, []string{"\xc3", ""}}, // The bytes of one rune are parted.
		{"\u00a9", 0xa9, []string{"\xc2", ""}},
		{"\u00e9\xe9", 0xe9, []string{"\u00e9", ""}}, // The byte is not the rune of the same number.
	} {
		if got := impl.SplitByte(c.s, c.by); !slices.Equal(got, c.want) {
			t.Errorf("SplitByte(%q, %q) = %q; want %q", c.s, c.by, got, c.want)
		}
	}
}

func TestJoin(t *testing.T) {
	for _, c := range []struct {
		list []string
		by   string
		want string
	}{
		{nil, ",", ""},
		{[]string{}, ",", ""},
		{[]string{""}, ",", ""},
		{[]string{"a"}, ",", "a"},
		{[]string{"a", "b"}, "-", "a-b"},
		{[]string{"a", "b", "c"}, "", "abc"},
		{[]string{"a", "b", "c"}, ", ", "a, b, c"},
		{[]string{"", ""}, "/", "/"},
		{[]string{"", "a", "", ""}, "/", "/a//"},
		{[]string{"\xff", "\x00"}, "\xc3", "\xff\xc3\x00"},
	} {
		if got := impl.Join(c.list, c.by); got != c.want {
			t.Errorf("Join(%q, %q) = %q; want %q", c.list, c.by, got, c.want)
		}
	}
}

func TestSplittingAndJoiningAreInverse(t *testing.T) {
	for _, by := range []byte{',', ' ', 0, 'a', 0x7f, 0x80, 0xc3, 0xff} {
		sep := string([]byte{by})
		eachText("ab"+sep+"\xa9", 5, func(s string) {
			parts := impl.SplitByte(s, by)
			if len(parts) != strings.Count(s, sep)+1 {
				t.Fatalf("SplitByte(%q, %q) has %d parts", s, by, len(parts))
			}
			for _, part := range parts {
				if strings.Contains(part, sep) {
					t.Fatalf("SplitByte(%q, %q) has the part %q", s, by, part)
				}
			}
			if got := impl.Join(parts, sep); got != s {
				t.Fatalf("Join of SplitByte(%q, %q) = %q", s, by, got)
			}
		})
	}
	for by := range 256 {
		sep := string([]byte{byte(by)})
		list := []string{string([]byte{byte(by + 1)}), "", string([]byte{byte(by + 2), byte(by + 128)}), ""}
		if got := impl.SplitByte(impl.Join(list, sep), byte(by)); !slices.Equal(got, list) {
			t.Errorf("SplitByte of Join(%q, %q) = %q", list, sep, got)
		}
	}
}

func TestSplitByteReturnsNewMemory(t *testing.T) {
	for _, s := range []string{"", "a", "a,b,c"} {
		want := impl.SplitByte(s, ',')
		changed := impl.SplitByte(s, ',')
		for i := range changed {
			changed[i] = "changed"
		}
		if got := impl.SplitByte(s, ','); !slices.Equal(got, want) {
			t.Errorf("SplitByte(%q) = %q after an earlier result was changed; want %q", s, got, want)
		}
	}
}

func TestJoinKeepsItsArgument(t *testing.T) {
	whole := []string{"a", "", "c", "behind", "further behind"}
	before := slices.Clone(whole)
	for n := range len(whole) + 1 {
		impl.Join(whole[:n], ",")
		if !slices.Equal(whole, before) {
			t.Fatalf("Join of %d elements changed the list to %q", n, whole)
		}
	}
}
