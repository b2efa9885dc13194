package tests

import (
	"math"
	"math/big"
	"strconv"
	"strings"
	"testing"

	"loop.example/g00395/impl"
)

// someInts returns the ends of both ranges, ints that are not numbers, and
// others spread over all magnitudes.
func someInts() []int {
	ints := []int{
		impl.MinInt, impl.MinInt + 1, impl.MaxInt, impl.MaxInt - 1,
		impl.MinInt - 1, impl.MaxInt + 1, impl.MaxInt + 2,
		math.MinInt64, math.MinInt64 + 1, math.MinInt64 + 2, math.MaxInt64, math.MaxInt64 - 1,
		1 << 31, -1 << 31, 1<<32 + 1, 3037000500, -3037000500,
	}
	for n := -10; n <= 10; n++ {
		ints = append(ints, n)
	}
	state := uint64(88172645463325252)
	for i := 0; i < 40; i++ {
		state ^= state << 13
		state ^= state >> 7
		state ^= state << 17
		ints = append(ints, int(state)>>(i%60))
	}
	return ints
}

// wrapped is Wrap in arithmetic without limits.
func wrapped(n *big.Int) int {
	size := new(big.Int).Lsh(big.NewInt(1), 63)
	half := new(big.Int).Lsh(big.NewInt(1), 62)
	m := new(big.Int).Mod(new(big.Int).Add(n, half), size)
	return int(m.Sub(m, half).Int64())
}

func large(n int) *big.Int { return big.NewInt(int64(n)) }

func isNumber(n int) bool { return n >= -1<<62 && n <= 1<<62-1 }

func TestLimitsOfNumbersAndWords(t *testing.T) {
	if impl.MaxInt != 1<<62-1 || impl.MinInt != -1<<62 || impl.MaxWord != 12 {
		t.Error("a constant of chapter 2 differs")
	}
}

func TestWrap(t *testing.T) {
	cases := []struct{ n, want int }{
		{0, 0}, {1, 1}, {-1, -1}, {1234567, 1234567},
		{impl.MaxInt, impl.MaxInt}, {impl.MinInt, impl.MinInt},
		{impl.MaxInt + 1, impl.MinInt}, {impl.MinInt - 1, impl.MaxInt},
		{math.MaxInt64, -1}, {math.MinInt64, 0}, {math.MinInt64 + 1, 1},
	}
	for _, c := range cases {
		if got := impl.Wrap(c.n); got != c.want {
			t.Errorf("Wrap(%d) = %d, not %d", c.n, got, c.want)
		}
	}
	for _, n := range someInts() {
		got := impl.Wrap(n)
		if got != wrapped(large(n)) || !isNumber(got) {
			t.Errorf("Wrap(%d) = %d", n, got)
		}
		if isNumber(n) && got != n {
			t.Errorf("Wrap changes the number %d to %d", n, got)
		}
	}
}

func TestSumsDifferencesAndProducts(t *testing.T) {
	for _, a := range someInts() {
		for _, b := range someInts() {
			if got, want := impl.AddW(a, b), wrapped(new(big.Int).Add(large(a), large(b))); got != want {
				t.Fatalf("AddW(%d, %d) = %d, not %d", a, b, got, want)
			}
			if got, want := impl.SubW(a, b), wrapped(new(big.Int).Sub(large(a), large(b))); got != want {
				t.Fatalf("SubW(%d, %d) = %d, not %d", a, b, got, want)
			}
			if got, want := impl.MulW(a, b), wrapped(new(big.Int).Mul(large(a), large(b))); got != want {
				t.Fatalf("MulW(%d, %d) = %d, not %d", a, b, got, want)
			}
		}
	}
}

func TestNumbersWrapAround(t *testing.T) {
	cases := []struct {
		what      string
		got, want int
	}{
		{"MaxInt + 1", impl.AddW(impl.MaxInt, 1), impl.MinInt},
		{"MinInt + -1", impl.AddW(impl.MinInt, -1), impl.MaxInt},
		{"MaxInt + MaxInt", impl.AddW(impl.MaxInt, impl.MaxInt), -2},
		{"MinInt + MinInt", impl.AddW(impl.MinInt, impl.MinInt), 0},
		{"MinInt - 1", impl.SubW(impl.MinInt, 1), impl.MaxInt},
		{"0 - MinInt", impl.SubW(0, impl.MinInt), impl.MinInt},
		{"MaxInt * 2", impl.MulW(impl.MaxInt, 2), -2},
		{"MinInt * -1", impl.MulW(impl.MinInt, -1), impl.MinInt},
		{"MinInt * 2", impl.MulW(impl.MinInt, 2), 0},
		{"2^31 * 2^31", impl.MulW(1<<31, 1<<31), impl.MinInt},
		{"2^32 * 2^31", impl.MulW(1<<32, 1<<31), 0},
		{"6 * -7", impl.MulW(6, -7), -42},
	}
	for _, c := range cases {
		if c.got != c.want {
			t.Errorf("%s = %d, not %d", c.what, c.got, c.want)
		}
	}
}

func TestNumbersFormARing(t *testing.T) {
	ints := someInts()
	for _, a := range ints {
		w := impl.Wrap(a)
		if impl.AddW(a, 0) != w || impl.MulW(a, 1) != w || impl.MulW(a, 0) != 0 || impl.SubW(a, a) != 0 {
			t.Fatalf("0 or 1 is not neutral for %d", a)
		}
		if impl.AddW(a, impl.SubW(0, a)) != 0 {
			t.Fatalf("%d has no inverse", a)
		}
		for _, b := range ints {
			if impl.AddW(a, b) != impl.AddW(b, a) || impl.MulW(a, b) != impl.MulW(b, a) {
				t.Fatalf("%d and %d do not commute", a, b)
			}
			if impl.AddW(impl.SubW(a, b), b) != w {
				t.Fatalf("%d - %d + %d is not Wrap of the first", a, b, b)
			}
			for _, c := range ints {
				checkTriple(t, a, b, c)
			}
		}
	}
}

func checkTriple(t *testing.T, a, b, c int) {
	if impl.AddW(impl.AddW(a, b), c) != impl.AddW(a, impl.AddW(b, c)) {
		t.Fatalf("sums of %d, %d and %d are not associative", a, b, c)
	}
	if impl.MulW(impl.MulW(a, b), c) != impl.MulW(a, impl.MulW(b, c)) {
		t.Fatalf("products of %d, %d and %d are not associative", a, b, c)
	}
	if impl.MulW(a, impl.AddW(b, c)) != impl.AddW(impl.MulW(a, b), impl.MulW(a, c)) {
		t.Fatalf("%d does not distribute over %d and %d", a, b, c)
	}
}

func TestQuotientsAndRemainders(t *testing.T) {
	cases := []struct{ a, b, q, r int }{
		{7, 2, 3, 1}, {-7, 2, -3, -1}, {7, -2, -3, 1}, {-7, -2, 3, -1},
		{0, 5, 0, 0}, {3, 5, 0, 3}, {-3, 5, 0, -3}, {6, 3, 2, 0},
		{impl.MinInt, -1, impl.MinInt, 0}, {impl.MaxInt, -1, -impl.MaxInt, 0},
		{impl.MinInt, 1, impl.MinInt, 0}, {impl.MinInt, impl.MinInt, 1, 0},
		{impl.MinInt, impl.MaxInt, -1, -1}, {impl.MaxInt, impl.MinInt, 0, impl.MaxInt},
		{impl.MinInt, 2, -1 << 61, 0},
		{impl.MaxInt + 1, -1, impl.MinInt, 0}, {impl.MaxInt + 1, math.MaxInt64, impl.MinInt, 0},
		{7, math.MinInt64 + 2, 3, 1}, {math.MaxInt64, 2, 0, -1}, {math.MinInt64, 3, 0, 0},
	}
	for _, c := range cases {
		q, ok := impl.DivW(c.a, c.b)
		r, also := impl.RemW(c.a, c.b)
		if !ok || !also || q != c.q || r != c.r {
			t.Errorf("%d by %d is %d %t and %d %t, not %d and %d", c.a, c.b, q, ok, r, also, c.q, c.r)
		}
	}
}

func TestQuotientsAreConsistentWithRemainders(t *testing.T) {
	for _, a := range someInts() {
		for _, b := range someInts() {
			q, ok := impl.DivW(a, b)
			r, also := impl.RemW(a, b)
			y := wrapped(large(b))
			if y == 0 {
				if ok || also || q != 0 || r != 0 {
					t.Fatalf("%d by %d: %d %t and %d %t", a, b, q, ok, r, also)
				}
				continue
			}
			exact, rest := new(big.Int).QuoRem(large(wrapped(large(a))), large(y), new(big.Int))
			if !ok || q != wrapped(exact) {
				t.Fatalf("DivW(%d, %d) = %d, %t", a, b, q, ok)
			}
			if !also || large(r).Cmp(rest) != 0 {
				t.Fatalf("RemW(%d, %d) = %d, %t", a, b, r, also)
			}
			if impl.AddW(impl.MulW(q, b), r) != impl.Wrap(a) {
				t.Fatalf("%d by %d: quotient and remainder do not give the first", a, b)
			}
		}
	}
}

// TestDivisorZero includes the int -2^63, which is not 0 but wraps to it.
func TestDivisorZero(t *testing.T) {
	for _, a := range someInts() {
		for _, b := range []int{0, math.MinInt64} {
			if q, ok := impl.DivW(a, b); q != 0 || ok {
				t.Errorf("DivW(%d, %d) = %d, %t", a, b, q, ok)
			}
			if r, ok := impl.RemW(a, b); r != 0 || ok {
				t.Errorf("RemW(%d, %d) = %d, %t", a, b, r, ok)
			}
		}
	}
}

func TestNumText(t *testing.T) {
	cases := []struct {
		n    int
		want string
	}{
		{0, "0"}, {7, "7"}, {-1, "-1"}, {10, "10"}, {-120, "-120"}, {1000000, "1000000"},
		{impl.MaxInt, "4611686018427387903"}, {impl.MinInt, "-4611686018427387904"},
		{impl.MaxInt + 1, ""}, {impl.MinInt - 1, ""}, {math.MaxInt64, ""}, {math.MinInt64, ""},
	}
	for _, c := range cases {
		if got := impl.NumText(c.n); got != c.want {
			t.Errorf("NumText(%d) = %q, not %q", c.n, got, c.want)
		}
	}
}

func TestNumbersAreRecoveredFromTheirTexts(t *testing.T) {
	for _, n := range someInts() {
		s := impl.NumText(n)
		if !isNumber(n) {
			if s != "" {
				t.Errorf("NumText(%d) = %q, though it is not a number", n, s)
			}
			continue
		}
		if want := large(n).String(); s != want {
			t.Errorf("NumText(%d) = %q", n, s)
		}
		if got, ok := impl.TextNum(s); got != n || !ok {
			t.Errorf("TextNum(%q) = %d, %t", s, got, ok)
		}
	}
}

func TestTextsThatAreNoNumbers(t *testing.T) {
	texts := []string{
		"", "-", "+", "+1", "--1", "-0", "+0", "00", "01", "-01", "007",
		" 1", "1 ", "1\n", "\t1", "1\x00", "- 1", "1-", "1 2", "1_000", "1,000",
		"0x10", "0b1", "0o7", "1e3", "1.0", "1.", ".5", "a", "1a", "ff", "\"1\"",
		"4611686018427387904", "-4611686018427387905",
		"9223372036854775807", "-9223372036854775808", "9223372036854775808",
		"18446744073709551616", "18446744073709551617",
		strings.Repeat("9", 5000), "0" + strings.Repeat("0", 5000), "-" + strings.Repeat("1", 30),
		"\xff", "\xef\xbc\x91", "\xd9\xa1", "nil", "NaN",
	}
	for _, s := range texts {
		if n, ok := impl.TextNum(s); n != 0 || ok {
			t.Errorf("TextNum(%q) = %d, %t", s, n, ok)
		}
	}
}

// TestAllShortNumberTexts compares TextNum with the definition: the number
// whose NumText is the text.
func TestAllShortNumberTexts(t *testing.T) {
	numbers := map[string]int{}
	for n := -999; n <= 9999; n++ {
		numbers[strconv.Itoa(n)] = n
	}
	for _, s := range textsOver("-+ 0129_", 4) {
		want, wanted := numbers[s]
		if n, ok := impl.TextNum(s); n != want || ok != wanted {
			t.Fatalf("TextNum(%q) = %d, %t", s, n, ok)
		}
	}
}

// textsOver returns all texts of at most size bytes of the alphabet.
func textsOver(alphabet string, size int) []string {
	texts := []string{""}
	last := texts
	for i := 0; i < size; i++ {
		next := []string{}
		for _, s := range last {
			for j := range len(alphabet) {
				next = append(next, s+alphabet[j:j+1])
			}
		}
		texts = append(texts, next...)
		last = next
	}
	return texts
}
