package tests

import (
	"strings"
	"testing"

	"loop.example/g00395/impl"
)

// spelled is how Quote writes one byte, from a table that is written out.
func spelled(b int) string {
	switch {
	case b == 10:
		return "\\n"
	case b == 34:
		return "\\\""
	case b == 92:
		return "\\\\"
	case b >= 32 && b <= 126:
		return string([]byte{byte(b)})
	}
	const digits = "0123456789abcdef"
	return "\\x" + string([]byte{digits[b/16], digits[b%16]})
}

func TestQuote(t *testing.T) {
	cases := []struct{ s, want string }{
		{"", `""`},
		{"abc XYZ 019", `"abc XYZ 019"`},
		{"a\nb", `"a\nb"`},
		{"\n\n", `"\n\n"`},
		{`say "hi"`, `"say \"hi\""`},
		{`\`, `"\\"`},
		{`\n`, `"\\n"`},
		{`\"`, `"\\\""`},
		{`it's`, `"it's"`},
		{"\x00\x09\x0d\x1f", `"\x00\x09\x0d\x1f"`},
		{" ~\x7f\x80\xff", `" ~\x7f\x80\xff"`},
		{"\xc3\xa9", `"\xc3\xa9"`},
		{"\xe2\x82\xac1", `"\xe2\x82\xac1"`},
	}
	for _, c := range cases {
		if got := impl.Quote(c.s); got != c.want {
			t.Errorf("Quote(%q) = %q, not %q", c.s, got, c.want)
		}
		if got, ok := impl.Unquote(c.want); got != c.s || !ok {
			t.Errorf("Unquote(%q) = %q, %t", c.want, got, ok)
		}
	}
}

func TestStringsOfAllBytesAreRecovered(t *testing.T) {
	for a := 0; a < 256; a++ {
		checkQuote(t, string([]byte{byte(a)}), "\""+spelled(a)+"\"")
		for b := 0; b < 256; b++ {
			checkQuote(t, string([]byte{byte(a), byte(b)}), "\""+spelled(a)+spelled(b)+"\"")
		}
	}
	long := strings.Repeat("a\n\"\\\x00\xff", 2000)
	checkQuote(t, long, "\""+strings.Repeat(`a\n\"\\\x00\xff`, 2000)+"\"")
}

func checkQuote(t *testing.T, s string, want string) {
	if got := impl.Quote(s); got != want {
		t.Fatalf("Quote(%q) = %q, not %q", s, got, want)
	}
	if got, ok := impl.Unquote(want); got != s || !ok {
		t.Fatalf("Unquote(%q) = %q, %t", want, got, ok)
	}
}

func TestTextsThatAreNoQuotes(t *testing.T) {
	texts := []string{
		"", `"`, `a`, `"a`, `a"`, `abc`, `'a'`, "`a`", ` "a"`, `"a" `, `"a"b"`, `"""`, `"a""`, `""a"`,
		`"\"`, `"\\\"`, `\"a"`, `"a\`, `"\q"`, `"\t"`, `"\r"`, `"\0"`, `"\N"`, `"\'"`, `"\ "`,
		`"\x"`, `"\x0"`, `"\x0g"`, `"\xg0"`, `"\x+1"`, `"\x-1"`, `"\x 1"`, `"\x_1"`, `"\x0\"`, `"\x00`, `"\X00"`,
		`"\xFF"`, `"\xfF"`, `"\xFf"`, `"\x0A"`, `"\x0a"`, `"\x41"`, `"\x20"`, `"\x7e"`, `"\x22"`, `"\x5c"`, `"\x5C"`,
		"\"\n\"", "\"\t\"", "\"\r\"", "\"\x00\"", "\"\x1f\"", "\"\x7f\"", "\"\x80\"", "\"\xff\"", "\"\xc3\xa9\"",
	}
	for _, s := range texts {
		if got, ok := impl.Unquote(s); got != "" || ok {
			t.Errorf("Unquote(%q) = %q, %t", s, got, ok)
		}
	}
}

// TestUnquoteOfEverySingleByte: of all texts with one byte between quotes,
// those are accepted in which it stands for itself.
func TestUnquoteOfEverySingleByte(t *testing.T) {
	for b := 0; b < 256; b++ {
		inner := string([]byte{byte(b)})
		want := ""
		plain := spelled(b) == inner
		if plain {
			want = inner
		}
		if got, ok := impl.Unquote("\"" + inner + "\""); got != want || ok != plain {
			t.Errorf("Unquote of byte %d between quotes = %q, %t", b, got, ok)
		}
	}
}

func TestUnquoteOfEveryEscape(t *testing.T) {
	meant := map[string]string{}
	for b := 0; b < 256; b++ {
		meant[spelled(b)] = string([]byte{byte(b)})
	}
	check := func(inner string) {
		want, wanted := meant[inner]
		if got, ok := impl.Unquote("\"" + inner + "\""); got != want || ok != wanted {
			t.Fatalf("Unquote of %q between quotes = %q, %t", inner, got, ok)
		}
	}
	for b := 0; b < 256; b++ {
		check("\\" + string([]byte{byte(b)}))
		for c := 0; c < 256; c++ {
			check("\\x" + string([]byte{byte(b), byte(c)}))
		}
	}
}

// readQuote reads a quoted string from the left, piece by piece.
func readQuote(s string) (string, bool) {
	if len(s) < 2 || s[0] != '"' || s[len(s)-1] != '"' {
		return "", false
	}
	text := []byte{}
	for rest := s[1 : len(s)-1]; rest != ""; {
		found := false
		for b := 0; b < 256 && !found; b++ {
			if strings.HasPrefix(rest, spelled(b)) {
				rest = rest[len(spelled(b)):]
				text = append(text, byte(b))
				found = true
			}
		}
		if !found {
			return "", false
		}
	}
	return string(text), true
}

func TestUnquoteOfAllShortTexts(t *testing.T) {
	for _, s := range textsOver("\"\\nx0aA", 6) {
		for _, q := range []string{s, "\"" + s + "\""} {
			want, wanted := readQuote(q)
			got, ok := impl.Unquote(q)
			if got != want || ok != wanted {
				t.Fatalf("Unquote(%q) = %q, %t, not %q, %t", q, got, ok, want, wanted)
			}
			if ok && impl.Quote(got) != q {
				t.Fatalf("Unquote(%q) = %q, whose Quote is another", q, got)
			}
		}
	}
}

const keywords = "let rec in fun if then else match with end type of raise try ref true false"

func TestNameOk(t *testing.T) {
	good := []string{
		"a", "z", "aB_9", "x1", "a_", "a__b", "fooBar", "abcdefghijkl", "z99999999999", "a___________",
		"lets", "le", "recs", "inn", "i", "fu", "iff", "thens", "elsee", "matches", "withs", "ends", "types", "off",
		"raises", "tryy", "refs", "true1", "false_", "print", "say", "read", "size", "lET", "tRUE",
	}
	for _, s := range good {
		if !impl.NameOk(s) {
			t.Errorf("NameOk(%q) is false", s)
		}
	}
	bad := []string{
		"", "A", "Abc", "_", "_a", "9", "9a", "abcdefghijklm", "a123456789012", strings.Repeat("a", 5000),
		"a b", " a", "a ", "a-b", "a'", "a.b", "a\n", "a\x00", "\x00", "\xc3\xa9", "a\xc3\xa9", "a\xff", "\xff",
		"\xce\xb1", "'a", "\"a\"",
	}
	for _, s := range append(bad, strings.Fields(keywords)...) {
		if impl.NameOk(s) {
			t.Errorf("NameOk(%q) is true", s)
		}
	}
}

func TestConOk(t *testing.T) {
	good := []string{
		"A", "Z", "A_1", "Cons", "NIL", "A_", "Abcdefghijkl", "Z99999999999", "LET", "Let", "True", "False", "Ref", "In",
	}
	for _, s := range good {
		if !impl.ConOk(s) {
			t.Errorf("ConOk(%q) is false", s)
		}
	}
	bad := []string{
		"", "a", "aB", "_", "_A", "1A", "Abcdefghijklm", "A123456789012", strings.Repeat("A", 5000),
		"A B", " A", "A ", "A-B", "A'", "A.B", "A\n", "A\x00", "\x00", "\xc3\x89", "A\xc3\x89", "A\xff", "\xff",
		"[]", "::", "true", "false",
	}
	for _, s := range append(bad, strings.Fields(keywords)...) {
		if impl.ConOk(s) {
			t.Errorf("ConOk(%q) is true", s)
		}
	}
}

// TestWordsByBytes tries every byte as the only, first, second and last one.
func TestWordsByBytes(t *testing.T) {
	for b := 0; b < 256; b++ {
		one := string([]byte{byte(b)})
		lower := b >= 97 && b <= 122
		upper := b >= 65 && b <= 90
		later := lower || upper || b >= 48 && b <= 57 || b == 95
		for _, s := range []string{one, one + "q", one + "Q_0aaaaaaaaa"} {
			len13 := len(s) > 12
			if impl.NameOk(s) != (lower && !len13) || impl.ConOk(s) != (upper && !len13) {
				t.Errorf("first byte %d of %q: NameOk %t, ConOk %t", b, s, impl.NameOk(s), impl.ConOk(s))
			}
		}
		for _, rest := range []string{"_" + one, one + "_", "0123456789" + one} {
			if impl.NameOk("x"+rest) != later || impl.ConOk("X"+rest) != later {
				t.Errorf("later byte %d: NameOk(%q) %t, ConOk(%q) %t", b, "x"+rest, impl.NameOk("x"+rest), "X"+rest, impl.ConOk("X"+rest))
			}
		}
	}
}

func TestWordsByLength(t *testing.T) {
	for size := 0; size <= 40; size++ {
		want := size >= 1 && size <= impl.MaxWord
		if got := impl.NameOk(strings.Repeat("q", size)); got != want {
			t.Errorf("NameOk of %d bytes is %t", size, got)
		}
		if got := impl.ConOk(strings.Repeat("Q", size)); got != want {
			t.Errorf("ConOk of %d bytes is %t", size, got)
		}
	}
}
