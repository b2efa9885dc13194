package tests

import (
	"math/big"
	"regexp"
	"slices"
	"strconv"
	"strings"
	"testing"

	"loop.example/g00395/impl"
)

const symbols = "-> <> <= := :: ( ) [ ] , ; | = < + - * / % ^ ! _"

func intTok(n int, at int) impl.Tok { return impl.Tok{Kind: impl.TokInt, N: n, At: at} }

func strTok(s string, at int) impl.Tok { return impl.Tok{Kind: impl.TokStr, S: s, At: at} }

func nameTok(s string, at int) impl.Tok { return impl.Tok{Kind: impl.TokName, S: s, At: at} }

func conTok(s string, at int) impl.Tok { return impl.Tok{Kind: impl.TokCon, S: s, At: at} }

func varTok(n int, at int) impl.Tok { return impl.Tok{Kind: impl.TokVar, N: n, At: at} }

func signTok(s string, at int) impl.Tok { return impl.Tok{Kind: impl.TokSign, S: s, At: at} }

// checkLex checks that the text has these tokens and no error.
func checkLex(t *testing.T, text string, want ...impl.Tok) {
	t.Helper()
	got, code, at := impl.Lex(text)
	if code != 0 || at != 0 || !slices.Equal(got, want) {
		t.Errorf("Lex(%q) = %#v, %d, %d, not %#v", text, got, code, at, want)
	}
}

// checkLexError checks that the text has this first error and no tokens.
func checkLexError(t *testing.T, text string, code int, at int) {
	t.Helper()
	got, c, a := impl.Lex(text)
	if len(got) != 0 || c != code || a != at {
		t.Errorf("Lex(%q) = %#v, %d, %d, not %d, %d", text, got, c, a, code, at)
	}
}

func TestTokenKinds(t *testing.T) {
	if impl.MaxText != 4000 {
		t.Errorf("MaxText is %d", impl.MaxText)
	}
	kinds := []int{impl.TokInt, impl.TokStr, impl.TokName, impl.TokCon, impl.TokVar, impl.TokSign}
	if !slices.Equal(kinds, []int{1, 2, 3, 4, 5, 6}) {
		t.Errorf("the kinds are %v", kinds)
	}
}

func TestLexOfPrograms(t *testing.T) {
	checkLex(t, "let x1 = 'b :: \"a\\\"\" in Cons_2 -> 7",
		signTok("let", 0), nameTok("x1", 4), signTok("=", 7), varTok(1, 9), signTok("::", 12), strTok("a\"", 15),
		signTok("in", 21), conTok("Cons_2", 24), signTok("->", 31), intTok(7, 34))
	checkLex(t, "type 'a opt = None | Some of 'a;print(1+2)",
		signTok("type", 0), varTok(0, 5), nameTok("opt", 8), signTok("=", 12), conTok("None", 14), signTok("|", 19),
		conTok("Some", 21), signTok("of", 26), varTok(0, 29), signTok(";", 31), nameTok("print", 32), signTok("(", 37),
		intTok(1, 38), signTok("+", 39), intTok(2, 40), signTok(")", 41))
	checkLex(t, "match[]with _->-1|x::y->x<=2 end",
		signTok("match", 0), signTok("[", 5), signTok("]", 6), signTok("with", 7), signTok("_", 12), signTok("->", 13),
		signTok("-", 15), intTok(1, 16), signTok("|", 17), nameTok("x", 18), signTok("::", 19), nameTok("y", 21),
		signTok("->", 22), nameTok("x", 24), signTok("<=", 25), intTok(2, 27), signTok("end", 29))
}

func TestLexOfNothing(t *testing.T) {
	for _, text := range []string{"", " ", "\t\n\r ", "(**)", " (* let *) \n", "(*a*)(*b*)", strings.Repeat(" ", impl.MaxText)} {
		checkLex(t, text)
	}
}

// TestLexByLength: only a text of more than MaxText bytes is too long, and
// then nothing else is an error.
func TestLexByLength(t *testing.T) {
	spaces := strings.Repeat(" ", impl.MaxText-1)
	checkLex(t, spaces+"x", nameTok("x", impl.MaxText-1))
	checkLex(t, "x"+spaces, nameTok("x", 0))
	checkLexError(t, spaces+"?", 2, impl.MaxText-1)
	checkLexError(t, spaces+"x ", 1, 0)
	checkLexError(t, spaces+" x", 1, 0)
	checkLexError(t, strings.Repeat(" ", impl.MaxText+1), 1, 0)
	checkLexError(t, strings.Repeat("?", impl.MaxText), 2, 0)
	checkLexError(t, strings.Repeat("?", impl.MaxText+1), 1, 0)
	checkLexError(t, strings.Repeat("?", 3*impl.MaxText), 1, 0)
	checkLexError(t, "\""+strings.Repeat("a", impl.MaxText), 1, 0)
	got, code, at := impl.Lex(strings.Repeat("(", impl.MaxText))
	if len(got) != impl.MaxText || code != 0 || at != 0 {
		t.Errorf("Lex of MaxText symbols: %d tokens, %d, %d", len(got), code, at)
	}
	for i, k := range got {
		if k != signTok("(", i) {
			t.Fatalf("token %d of MaxText symbols is %#v", i, k)
		}
	}
	inner := strings.Repeat("a", impl.MaxText-2)
	checkLex(t, "\""+inner+"\"", strTok(inner, 0))
	half := impl.MaxText / 4
	checkLex(t, strings.Repeat("(*", half)+strings.Repeat("*)", half))
	checkLexError(t, strings.Repeat("(*", half+1)+strings.Repeat("*)", half-1), 6, 0)
}

func TestSymbols(t *testing.T) {
	for _, s := range strings.Fields(symbols) {
		checkLex(t, s, signTok(s, 0))
		checkLex(t, " "+s+"\n"+s, signTok(s, 1), signTok(s, 2+len(s)))
	}
}

func TestLongestSymbols(t *testing.T) {
	checkLex(t, "<>=<=:=", signTok("<>", 0), signTok("=", 2), signTok("<=", 3), signTok(":=", 5))
	checkLex(t, "<<=", signTok("<", 0), signTok("<=", 1))
	checkLex(t, "<<>", signTok("<", 0), signTok("<>", 1))
	checkLex(t, "<==", signTok("<=", 0), signTok("=", 2))
	checkLex(t, "<>=", signTok("<>", 0), signTok("=", 2))
	checkLex(t, "-->", signTok("-", 0), signTok("->", 1))
	checkLex(t, "-<-", signTok("-", 0), signTok("<", 1), signTok("-", 2))
	checkLex(t, "::::=", signTok("::", 0), signTok("::", 2), signTok("=", 4))
	checkLex(t, ":=:=", signTok(":=", 0), signTok(":=", 2))
	checkLex(t, ":==", signTok(":=", 0), signTok("=", 2))
	checkLex(t, "< =", signTok("<", 0), signTok("=", 2))
	checkLex(t, "=<", signTok("=", 0), signTok("<", 1))
	checkLex(t, "[]()__", signTok("[", 0), signTok("]", 1), signTok("(", 2), signTok(")", 3), signTok("_", 4), signTok("_", 5))
	checkLex(t, "*)", signTok("*", 0), signTok(")", 1))
	checkLex(t, "( *", signTok("(", 0), signTok("*", 2))
}

func TestPartsOfSymbols(t *testing.T) {
	checkLex(t, ":::=", signTok("::", 0), signTok(":=", 2))
	checkLexError(t, ":", 2, 0)
	checkLexError(t, ": =", 2, 0)
	checkLexError(t, ":::", 2, 2)
	checkLexError(t, ":-", 2, 0)
	checkLexError(t, ">", 2, 0)
	checkLexError(t, ">=", 2, 0)
	checkLexError(t, "- >", 2, 2)
	checkLexError(t, "->>", 2, 2)
	checkLexError(t, "<>>", 2, 2)
	checkLexError(t, "<=>", 2, 2)
}

// TestLexOfEveryByte tries every byte as the first of a text, alone and
// between two words.
func TestLexOfEveryByte(t *testing.T) {
	starts := "(*)[],;|=<+-/%^!_"
	blanks := "\t\n\r "
	for b := range 256 {
		one := string([]byte{byte(b)})
		letter := b >= 'a' && b <= 'z' || b >= 'A' && b <= 'Z'
		digit := b >= '0' && b <= '9'
		switch {
		case letter && b >= 'a':
			checkLex(t, one, nameTok(one, 0))
		case letter:
			checkLex(t, one, conTok(one, 0))
		case digit:
			checkLex(t, one, intTok(b-'0', 0))
		case strings.Contains(starts, one):
			checkLex(t, one, signTok(one, 0))
		case strings.Contains(blanks, one):
			checkLex(t, one)
			checkLex(t, "a"+one+one+"B", nameTok("a", 0), conTok("B", 3))
		case b == '"':
			checkLexError(t, one, 4, 0)
			checkLexError(t, "a"+one+"B", 4, 1)
		default:
			checkLexError(t, one, 2, 0)
			checkLexError(t, "a"+one+"B", 2, 1)
			checkLexError(t, "(*"+one+"*) 12 "+one, 2, 9)
		}
	}
}

// TestLexOfTextsOutsideOfASCII: a letter or digit of more than one byte is
// none, and nothing else than a string or a comment has such bytes.
func TestLexOfTextsOutsideOfASCII(t *testing.T) {
	for _, s := range []string{"\u00e9", "\u00aa", "\u03b1", "\u0391", "\u0661", "\u00a0", "\u2028", "\ufeff", "\U0001d44e", "\xff", "\xc3", "\x80", "\x85"} {
		checkLexError(t, s, 2, 0)
		checkLexError(t, "ab"+s, 2, 2)
		checkLexError(t, "7"+s, 2, 1)
		checkLexError(t, "'"+s, 2, 0)
		checkLexError(t, "\""+s+"\"", 4, 0)
		checkLex(t, "(*"+s+"*)a", nameTok("a", 4+len(s)))
	}
}

func TestWordsOfEveryClass(t *testing.T) {
	for _, s := range []string{"a", "z", "aB_9", "x_", "fooBar", "abcdefghijkl", "z99999999999", "lets", "le", "inn", "endx", "true1", "print", "lET"} {
		checkLex(t, s, nameTok(s, 0))
		checkLex(t, " "+s+"(", nameTok(s, 1), signTok("(", 1+len(s)))
	}
	for _, s := range []string{"A", "Z", "A_1", "Cons", "NIL", "Abcdefghijkl", "Z99999999999", "Let", "LET", "True", "False"} {
		checkLex(t, s, conTok(s, 0))
		checkLex(t, "\n"+s+"'a", conTok(s, 1), varTok(0, 1+len(s)))
	}
	for _, s := range strings.Fields(keywords) {
		checkLex(t, s, signTok(s, 0))
		checkLex(t, "_"+s+"-", signTok("_", 0), signTok(s, 1), signTok("-", 1+len(s)))
		checkLex(t, s+"_", nameTok(s+"_", 0))
		checkLex(t, s+"1", nameTok(s+"1", 0))
		checkLex(t, strings.ToUpper(s), conTok(strings.ToUpper(s), 0))
	}
	checkLex(t, "a b", nameTok("a", 0), nameTok("b", 2))
	checkLex(t, "_a", signTok("_", 0), nameTok("a", 1))
	checkLex(t, "_A_", signTok("_", 0), conTok("A_", 1))
	checkLex(t, "letrec", nameTok("letrec", 0))
	checkLex(t, "let rec", signTok("let", 0), signTok("rec", 4))
	checkLex(t, "x'y", nameTok("x", 0), varTok(24, 1))
}

func TestLexOfWordsByLength(t *testing.T) {
	for size := 1; size <= 100; size++ {
		name, con := strings.Repeat("q", size), strings.Repeat("Q", size)
		if size <= impl.MaxWord {
			checkLex(t, "  "+name, nameTok(name, 2))
			checkLex(t, "  "+con+" ", conTok(con, 2))
			continue
		}
		checkLexError(t, name, 5, 0)
		checkLexError(t, "  "+name+" ?", 5, 2)
		checkLexError(t, "(**)"+con+"\"", 5, 4)
	}
	checkLexError(t, "abcdefghijklm", 5, 0)
	checkLexError(t, "let_________1", 5, 0)
	checkLexError(t, "a "+strings.Repeat("x", impl.MaxText-2), 5, 2)
}

func TestLexOfNumbers(t *testing.T) {
	checkLex(t, "0", intTok(0, 0))
	checkLex(t, "10", intTok(10, 0))
	checkLex(t, "4611686018427387903", intTok(impl.MaxInt, 0))
	checkLex(t, "1 2\t3", intTok(1, 0), intTok(2, 2), intTok(3, 4))
	checkLex(t, "-5", signTok("-", 0), intTok(5, 1))
	checkLex(t, "1+2", intTok(1, 0), signTok("+", 1), intTok(2, 2))
	checkLex(t, "1'a", intTok(1, 0), varTok(0, 1))
	checkLex(t, "_1", signTok("_", 0), intTok(1, 1))
	bad := []string{
		"00", "01", "007", "0_", "1_", "1_000", "1a", "7x", "0x10", "1e5", "2A", "9let", "07x", "1a2b",
		"4611686018427387904", "9223372036854775807", "9223372036854775808", "18446744073709551616", "18446744073709551617",
		"99999999999999999999999999", strings.Repeat("1", 3000), strings.Repeat("0", 20),
	}
	for _, s := range bad {
		checkLexError(t, s, 3, 0)
		checkLexError(t, " x "+s+" ?", 3, 3)
		checkLexError(t, "-"+s, 3, 1)
	}
	checkLexError(t, "-4611686018427387904", 3, 1)
	checkLexError(t, "1.5", 2, 1)
}

func TestTypeVariables(t *testing.T) {
	for i := range 26 {
		letter := string([]byte{byte('a' + i)})
		checkLex(t, "'"+letter, varTok(i, 0))
		checkLex(t, " '"+letter+"'"+letter, varTok(i, 1), varTok(i, 3))
	}
	checkLex(t, "'ab", varTok(0, 0), nameTok("b", 2))
	checkLex(t, "'a1", varTok(0, 0), intTok(1, 2))
	checkLex(t, "'let", varTok(11, 0), nameTok("et", 2))
	checkLex(t, "'a_", varTok(0, 0), signTok("_", 2))
	for _, s := range []string{"'", "''", "''a", "' a", "'A", "'1", "'_", "'(", "'\"", "'`", "'{", "'(*a*)"} {
		checkLexError(t, s, 2, 0)
		checkLexError(t, "'z"+s, 2, 2)
	}
	checkLexError(t, "'a'", 2, 2)
}

func TestLexOfStrings(t *testing.T) {
	checkLex(t, `""`, strTok("", 0))
	checkLex(t, `"a"`, strTok("a", 0))
	checkLex(t, `"a""b"`, strTok("a", 0), strTok("b", 3))
	checkLex(t, `x"y"z`, nameTok("x", 0), strTok("y", 1), nameTok("z", 4))
	checkLex(t, `"(* no comment *)"`, strTok("(* no comment *)", 0))
	checkLex(t, `"let 7 ? 'a"`, strTok("let 7 ? 'a", 0))
	checkLex(t, `"\""`, strTok(`"`, 0))
	checkLex(t, `"\\"`, strTok(`\`, 0))
	checkLex(t, `"\\" "\\"`, strTok(`\`, 0), strTok(`\`, 5))
	checkLex(t, `"\\\""`, strTok(`\"`, 0))
	checkLex(t, `"\\\\"a`, strTok(`\\`, 0), nameTok("a", 6))
	checkLex(t, `"\n\n"`, strTok("\n\n", 0))
	checkLex(t, `"\\n"`, strTok(`\n`, 0))
	checkLex(t, `"\xff\x00\x0d"`, strTok("\xff\x00\x0d", 0))
	for b := range 256 {
		inner := string([]byte{byte(b)})
		checkLex(t, " "+impl.Quote(inner)+"7", strTok(inner, 1), intTok(7, 1+len(impl.Quote(inner))))
	}
}

func TestStringsThatAreNotTerminated(t *testing.T) {
	for _, s := range []string{`"`, `"a`, `"\"`, `"\`, `"\\\"`, `"\\`, `"(* a *)`, "\"\n", `"\x2`, `"\x`, `"\"\"`} {
		checkLexError(t, s, 4, 0)
		checkLexError(t, " a "+s, 4, 3)
		checkLexError(t, `"b"`+s, 4, 3)
	}
	checkLexError(t, `"""`, 4, 2)
	checkLexError(t, `"a" "`, 4, 4)
	checkLexError(t, `"\""a"`, 4, 5)
}

func TestStringsThatUnquoteRejects(t *testing.T) {
	bad := []string{
		`"\t"`, `"\q"`, `"\N"`, `"\'"`, `"\0"`, `"\ "`, `"\x"`, `"\x1"`, `"\x1g"`, `"\xFF"`, `"\x0a"`, `"\x41"`, `"\x22"`, `"\x5c"`,
		"\"\n\"", "\"\t\"", "\"a\r\"", "\"\x00\"", "\"\x7f\"", "\"\x80\"", "\"\xc3\xa9\"", `"\x\""`, "\"\\\n\"",
	}
	for _, s := range bad {
		checkLexError(t, s, 4, 0)
		checkLexError(t, "7 "+s+" ?", 4, 2)
	}
}

func TestComments(t *testing.T) {
	checkLex(t, "a(**)b", nameTok("a", 0), nameTok("b", 5))
	checkLex(t, "a(* x *)b", nameTok("a", 0), nameTok("b", 8))
	checkLex(t, "a(***)b", nameTok("a", 0), nameTok("b", 6))
	checkLex(t, "a(****)b", nameTok("a", 0), nameTok("b", 7))
	checkLex(t, "(* (* *) *) a", nameTok("a", 12))
	checkLex(t, "(*(**)(**)*)a", nameTok("a", 12))
	checkLex(t, "(*(*(*x*)*)*)a(**)", nameTok("a", 13))
	checkLex(t, "(**)*)", signTok("*", 4), signTok(")", 5))
	checkLex(t, "((**))", signTok("(", 0), signTok(")", 5))
	checkLex(t, "(*(*)*)*)a", nameTok("a", 9))
	checkLex(t, "(*)*)a", nameTok("a", 5))
	checkLex(t, "(* ? \" 07 'A abcdefghijklmn \xff *)a", nameTok("a", len("(* ? \" 07 'A abcdefghijklmn \xff *)")))
	checkLex(t, "(* \" *) \"(*\"", strTok("(*", 8))
	checkLex(t, "7(*let*)8", intTok(7, 0), intTok(8, 8))
	checkLex(t, "le(**)t", nameTok("le", 0), nameTok("t", 6))
	checkLex(t, "<(**)=", signTok("<", 0), signTok("=", 5))
	checkLexError(t, "-(**)>", 2, 5)
}

func TestCommentsThatAreNotTerminated(t *testing.T) {
	for _, s := range []string{"(*", "(*)", "(* ", "(**", "(***", "(*(**)", "(*(*", "(*(*)*)", "(* *", "(* * )", "(* (* *)", "(* \"*", "(* ( *"} {
		checkLexError(t, s, 6, 0)
		checkLexError(t, "1 "+s, 6, 2)
		checkLexError(t, "(**)(* *) x"+s, 6, 11)
	}
	checkLexError(t, "(**)(*", 6, 4)
	checkLexError(t, "(*\"*)\"(*", 4, 5)
}

// TestFirstErrorIsReported puts the errors of two codes into one text, in both
// orders.
func TestFirstErrorIsReported(t *testing.T) {
	errors := []struct {
		text string
		code int
	}{
		{"?", 2}, {"'", 2}, {":", 2}, {"07", 3}, {"9x", 3}, {`"\q"`, 4}, {"\"\n\"", 4}, {"abcdefghijklm", 5}, {"Abcdefghijklm", 5},
	}
	open := []struct {
		text string
		code int
	}{{`"a`, 4}, {"(* a", 6}}
	for _, e := range errors {
		checkLexError(t, e.text, e.code, 0)
		checkLexError(t, "(* ? *) let 'a "+e.text, e.code, 15)
		for _, f := range append(open, errors...) {
			checkLexError(t, "x "+e.text+" "+f.text, e.code, 2)
		}
	}
	for _, e := range open {
		for _, f := range errors {
			checkLexError(t, "x "+e.text+" "+strings.ReplaceAll(f.text, `"`, ""), e.code, 2)
		}
	}
}

func TestSignOf(t *testing.T) {
	for _, s := range strings.Fields(symbols + " " + keywords) {
		if got := impl.SignOf(lexed(t, s)[0]); got != s {
			t.Errorf("SignOf of %q is %q", s, got)
		}
	}
	for _, s := range []string{"7", `"->"`, `"let"`, "lets", "Let", "'a", `""`} {
		if got := impl.SignOf(lexed(t, s)[0]); got != "" {
			t.Errorf("SignOf of %q is %q", s, got)
		}
	}
	for kind := -2; kind <= 10; kind++ {
		want := ""
		if kind == impl.TokSign {
			want = "->"
		}
		if got := impl.SignOf(impl.Tok{Kind: kind, N: 3, S: "->", At: 8}); got != want {
			t.Errorf("SignOf of kind %d is %q", kind, got)
		}
	}
	if got := impl.SignOf(impl.Tok{}); got != "" {
		t.Errorf("SignOf of the zero value is %q", got)
	}
}

// lexed returns the tokens of a text without errors.
func lexed(t *testing.T, text string) []impl.Tok {
	t.Helper()
	list, code, at := impl.Lex(text)
	if code != 0 || at != 0 {
		t.Fatalf("Lex(%q): %d, %d", text, code, at)
	}
	return list
}

// lexByPatterns is Lex, written with regular expressions.
func lexByPatterns(text string) ([]impl.Tok, int, int) {
	list := []impl.Tok{}
	for at := 0; at < len(text); {
		k, size, code := startByPatterns(text[at:])
		if code != 0 {
			return nil, code, at
		}
		if k.Kind != 0 {
			k.At = at
			list = append(list, k)
		}
		at += size
	}
	return list, 0, 0
}

var (
	blankPattern  = regexp.MustCompile(`^[\t\n\r ]+`)
	markPattern   = regexp.MustCompile(`\(\*|\*\)`)
	wordPattern   = regexp.MustCompile(`^[0-9A-Za-z][0-9A-Za-z_]*`)
	numberPattern = regexp.MustCompile(`^(0|[1-9][0-9]*)$`)
	varPattern    = regexp.MustCompile(`^'[a-z]`)
	stringPattern = regexp.MustCompile(`^"([^"\\]|\\(?s:.))*"`)
	symbolPattern = regexp.MustCompile(`^(->|<>|<=|:=|::|[][(),;|=<+*/%^!_-])`)
)

func startByPatterns(s string) (impl.Tok, int, int) {
	if blank := blankPattern.FindString(s); blank != "" {
		return impl.Tok{}, len(blank), 0
	}
	if strings.HasPrefix(s, "(*") {
		return commentByPatterns(s)
	}
	if word := wordPattern.FindString(s); word != "" {
		return wordByPatterns(word)
	}
	if s[0] == '"' {
		text, ok := readQuote(stringPattern.FindString(s))
		if !ok {
			return impl.Tok{}, 0, 4
		}
		return strTok(text, 0), len(stringPattern.FindString(s)), 0
	}
	if varPattern.MatchString(s) {
		return varTok(strings.IndexByte("abcdefghijklmnopqrstuvwxyz", s[1]), 0), 2, 0
	}
	if symbol := symbolPattern.FindString(s); symbol != "" {
		return signTok(symbol, 0), len(symbol), 0
	}
	return impl.Tok{}, 0, 2
}

func commentByPatterns(s string) (impl.Tok, int, int) {
	depth := 0
	for _, mark := range markPattern.FindAllStringIndex(s, -1) {
		if s[mark[0]] == '(' {
			depth++
		} else {
			depth--
		}
		if depth == 0 {
			return impl.Tok{}, mark[1], 0
		}
	}
	return impl.Tok{}, 0, 6
}

func wordByPatterns(word string) (impl.Tok, int, int) {
	first := word[0]
	switch {
	case first <= '9':
		n, _ := new(big.Int).SetString(word, 10)
		if !numberPattern.MatchString(word) || n.Cmp(big.NewInt(impl.MaxInt)) > 0 {
			return impl.Tok{}, 0, 3
		}
		return intTok(int(n.Int64()), 0), len(word), 0
	case len(word) > 12:
		return impl.Tok{}, 0, 5
	case first <= 'Z':
		return conTok(word, 0), len(word), 0
	case slices.Contains(strings.Fields(keywords), word):
		return signTok(word, 0), len(word), 0
	}
	return nameTok(word, 0), len(word), 0
}

func checkLexByPatterns(t *testing.T, text string) {
	t.Helper()
	want, wantCode, wantAt := lexByPatterns(text)
	got, code, at := impl.Lex(text)
	if code != wantCode || at != wantAt || !slices.Equal(got, want) {
		t.Fatalf("Lex(%q) = %#v, %d, %d, not %#v, %d, %d", text, got, code, at, want, wantCode, wantAt)
	}
}

func TestLexOfAllShortTexts(t *testing.T) {
	for _, a := range []struct {
		alphabet string
		size     int
	}{
		{"(*) a", 7}, {"\"\\xn0a ", 6}, {"-<>=:", 6}, {"_'aA07", 5}, {"(*)\"\\", 6}, {"'\" \n?z", 5}, {"ifn A", 5},
	} {
		for _, s := range textsOver(a.alphabet, a.size) {
			checkLexByPatterns(t, s)
		}
	}
	for a := range 256 {
		for b := range 256 {
			checkLexByPatterns(t, string([]byte{byte(a), byte(b)}))
		}
	}
}

// TestLexOfMixedTexts puts pieces together in an order that a linear
// congruential generator chooses.
func TestLexOfMixedTexts(t *testing.T) {
	pieces := strings.Fields(symbols + " " + keywords + " " + keywords)
	pieces = append(pieces, "x", "abc", "Con", "17", "0", "4611686018427387903", "'a", "'z", `"s"`, `""`, `"\n\""`,
		"(**)", "(* (* ? *) *)", " ", "\n", "\t", "\r", " ", " ", " ")
	bad := []string{"?", "07", `"\q"`, "abcdefghijklm", "(*", `"`, "4611686018427387904", "'", ":", "\u00e9"}
	seed := uint32(1)
	next := func(n int) int {
		seed = seed*1664525 + 1013904223
		return int(seed>>16) % n
	}
	for range 20000 {
		text := ""
		for range next(25) {
			text += pieces[next(len(pieces))]
			if next(60) == 0 {
				text += bad[next(len(bad))]
			}
		}
		checkLexByPatterns(t, text)
	}
}

// spellings is how the tokens are written, and each token at offset 0.
func spellings() ([]string, []impl.Tok) {
	texts, list := []string{}, []impl.Tok{}
	add := func(text string, k impl.Tok) {
		texts = append(texts, text)
		list = append(list, k)
	}
	for _, s := range strings.Fields(symbols + " " + keywords) {
		add(s, signTok(s, 0))
	}
	for _, s := range []string{"a", "x_1", "abcdefghijkl"} {
		add(s, nameTok(s, 0))
		add(strings.ToUpper(s), conTok(strings.ToUpper(s), 0))
	}
	for _, n := range []int{0, 7, 120, impl.MaxInt} {
		add(strconv.Itoa(n), intTok(n, 0))
	}
	for _, s := range []string{"", "a b", "(*", "*)", "\"\\\n\xff"} {
		add(impl.Quote(s), strTok(s, 0))
	}
	add("'a", varTok(0, 0))
	add("'z", varTok(25, 0))
	return texts, list
}

// TestSeparatedTokens: whatever stands between two tokens, only the offsets
// depend on it.
func TestSeparatedTokens(t *testing.T) {
	texts, list := spellings()
	for _, gap := range []string{" ", "\t", "\n", "\r", "(**)", " (* a *) ", "(* (* \" *) ? *)", "\r\n\t (*)*)(*(**)*)"} {
		for i, a := range texts {
			for j, b := range texts {
				second := list[j]
				second.At = len(a) + len(gap)
				checkLex(t, a+gap+b, list[i], second)
				first := list[i]
				first.At = len(gap)
				second.At = 2*len(gap) + len(a)
				checkLex(t, gap+a+gap+b+gap, first, second)
			}
		}
		if t.Failed() {
			t.FailNow()
		}
	}
}

// TestTokensWithoutGaps: two tokens need no gap, unless they form a longer
// word, a longer symbol or the start of a comment.
func TestTokensWithoutGaps(t *testing.T) {
	texts, list := spellings()
	double := []string{"->", "<>", "<=", ":=", "::", "(*"}
	for i, a := range texts {
		for j, b := range texts {
			longer := wordPattern.MatchString(a) && (wordPattern.MatchString(b) || b == "_")
			if longer || slices.Contains(double, a+b[:1]) {
				continue
			}
			second := list[j]
			second.At = len(a)
			checkLex(t, a+b, list[i], second)
		}
	}
}

// TestCommentsChangeOnlyOffsets puts a comment between any two tokens of a
// program.
func TestCommentsChangeOnlyOffsets(t *testing.T) {
	text := "type ('a,'b)t=A of 'a|B;let rec f x=if x<=0 then[]else x::f(x-1)in match f 3 with[]->()|y::_->say(\"a\\n\"^\"b\")end"
	plain := lexed(t, text)
	const comment = "(* \" (* 07 *)*)"
	longer, ats := "", []int{}
	for i, k := range plain {
		end := len(text)
		if i+1 < len(plain) {
			end = plain[i+1].At
		}
		longer += comment
		ats = append(ats, len(longer))
		longer += text[k.At:end]
	}
	moved := lexed(t, longer+comment)
	if len(moved) != len(plain) {
		t.Fatalf("%d tokens with comments, %d without", len(moved), len(plain))
	}
	for i, k := range plain {
		k.At = ats[i]
		if moved[i] != k {
			t.Errorf("token %d is %#v with comments, not %#v", i, moved[i], k)
		}
	}
}

// TestLexResultIsNew: a caller may change a result, and the next call returns
// the same as before.
func TestLexResultIsNew(t *testing.T) {
	first := lexed(t, "let x = 1")
	want := slices.Clone(first)
	clear(first)
	checkLex(t, "let x = 1", want...)
}
