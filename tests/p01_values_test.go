package tests

import (
	"math"
	"math/big"
	"slices"
	"strconv"
	"testing"

	"loop.example/g00941/impl"
)

// The document's numbers are written out here, so that a changed constant is noticed as well.
const (
	bottom    = -1000000000000000
	maxFinite = 1000000
)

// edgeValues are values on both sides of every distinction that the chapter makes.
func edgeValues() []int64 {
	return []int64{bottom, -maxFinite, -maxFinite + 1, -500001, -500000, -7, -3, -1, 0, 1, 2, 5, 499999, 500000, 500001, maxFinite - 1, maxFinite}
}

// notValues are integers that a careless check could take for values.
func notValues() []int64 {
	return []int64{math.MinInt64, math.MinInt64 + 1, 2 * bottom, bottom - 1, bottom + 1, bottom + maxFinite, -maxFinite - 1, maxFinite + 1, -bottom, math.MaxInt64 - 1, math.MaxInt64}
}

func isFiniteNumber(a int64) bool { return a >= -maxFinite && a <= maxFinite }

func TestP01Constants(t *testing.T) {
	codes := []int64{impl.ErrNone, impl.ErrInvalid, impl.ErrRange, impl.ErrLimit, impl.ErrNotFound, impl.ErrState, impl.ErrSyntax}
	if !slices.Equal(codes, []int64{0, 1, 2, 3, 4, 5, 6}) {
		t.Errorf("error codes are %v", codes)
	}
	limits := []int64{impl.MaxFinite, impl.Bottom, impl.MaxList}
	if !slices.Equal(limits, []int64{maxFinite, bottom, 200}) {
		t.Errorf("limits are %v", limits)
	}
}

func TestP01IsValue(t *testing.T) {
	for _, a := range edgeValues() {
		if !impl.IsValue(a) {
			t.Errorf("IsValue(%d) = false", a)
		}
	}
	for _, a := range notValues() {
		if impl.IsValue(a) {
			t.Errorf("IsValue(%d) = true", a)
		}
	}
}

func TestP01SumOf(t *testing.T) {
	full := slices.Repeat([]int64{-5}, 200)
	cases := []struct {
		list []int64
		want int64
		code int64
	}{
		{nil, bottom, impl.ErrNone},
		{[]int64{}, bottom, impl.ErrNone},
		{[]int64{bottom}, bottom, impl.ErrNone},
		{[]int64{bottom, bottom}, bottom, impl.ErrNone},
		{[]int64{0}, 0, impl.ErrNone},
		{[]int64{-maxFinite, bottom}, -maxFinite, impl.ErrNone},
		{[]int64{bottom, -maxFinite}, -maxFinite, impl.ErrNone},
		{[]int64{3, maxFinite, -4}, maxFinite, impl.ErrNone},
		{[]int64{-3, -2, -9}, -2, impl.ErrNone},
		{full, -5, impl.ErrNone},
		{append(slices.Clone(full[1:]), 8), 8, impl.ErrNone},
		{append(slices.Clone(full), 8), 0, impl.ErrLimit},
		{slices.Repeat([]int64{math.MaxInt64}, 201), 0, impl.ErrLimit},
		{slices.Repeat([]int64{math.MaxInt64}, 200), 0, impl.ErrInvalid},
	}
	for _, c := range cases {
		if sum, code := impl.SumOf(c.list); sum != c.want || code != c.code {
			t.Errorf("SumOf of %d elements %v = %d, %d, want %d, %d", len(c.list), c.list, sum, code, c.want, c.code)
		}
	}
	for _, bad := range notValues() {
		for _, list := range [][]int64{{bad}, {bad, 1}, {maxFinite, bad}, {bottom, bad, bottom}} {
			if sum, code := impl.SumOf(list); sum != 0 || code != impl.ErrInvalid {
				t.Errorf("SumOf(%v) = %d, %d", list, sum, code)
			}
		}
	}
}

func TestP01SumOfLeavesItsArgument(t *testing.T) {
	whole := []int64{4, bottom, 9, -1, 77, 78}
	before := slices.Clone(whole)
	impl.SumOf(whole[:4])
	if !slices.Equal(whole, before) {
		t.Errorf("after SumOf the list is %v", whole)
	}
}

func TestP01ProductOf(t *testing.T) {
	cases := []struct{ a, b, want, code int64 }{
		{5, 7, 12, impl.ErrNone},
		{-5, 0, -5, impl.ErrNone},
		{bottom, 0, bottom, impl.ErrNone},
		{0, bottom, bottom, impl.ErrNone},
		{bottom, bottom, bottom, impl.ErrNone},
		{bottom, maxFinite, bottom, impl.ErrNone},
		{-maxFinite, bottom, bottom, impl.ErrNone},
		{500000, 500000, maxFinite, impl.ErrNone},
		{500000, 500001, 0, impl.ErrLimit},
		{-500000, -500000, -maxFinite, impl.ErrNone},
		{-500000, -500001, 0, impl.ErrLimit},
		{maxFinite, -maxFinite, 0, impl.ErrNone},
		{maxFinite, maxFinite, 0, impl.ErrLimit},
		{-maxFinite, -maxFinite, 0, impl.ErrLimit},
		{-maxFinite, -1, 0, impl.ErrLimit},
	}
	for _, c := range cases {
		if p, code := impl.ProductOf(c.a, c.b); p != c.want || code != c.code {
			t.Errorf("ProductOf(%d, %d) = %d, %d, want %d, %d", c.a, c.b, p, code, c.want, c.code)
		}
	}
}

// Both functions check their two values before anything else.
func TestP01InvalidPairs(t *testing.T) {
	functions := map[string]func(int64, int64) (int64, int64){"ProductOf": impl.ProductOf, "QuotientOf": impl.QuotientOf}
	for name, f := range functions {
		for _, bad := range notValues() {
			for _, other := range append(edgeValues(), notValues()...) {
				x, one := f(bad, other)
				y, two := f(other, bad)
				if x != 0 || one != impl.ErrInvalid || y != 0 || two != impl.ErrInvalid {
					t.Errorf("%s of %d and %d = %d, %d, and exchanged %d, %d", name, bad, other, x, one, y, two)
				}
			}
		}
	}
}

func TestP01ProductsDistributeOverSums(t *testing.T) {
	for _, a := range edgeValues() {
		for _, b := range edgeValues() {
			for _, c := range edgeValues() {
				checkDistribution(t, a, b, c)
			}
		}
	}
}

// checkDistribution allows for limits: a product of the sum is one of the two products, so it is
// told whenever both of these are.
func checkDistribution(t *testing.T, a, b, c int64) {
	t.Helper()
	sum, code := impl.SumOf([]int64{b, c})
	if code != impl.ErrNone {
		t.Fatalf("SumOf(%d, %d): code %d", b, c, code)
	}
	left, leftCode := impl.ProductOf(a, sum)
	ab, one := impl.ProductOf(a, b)
	ac, two := impl.ProductOf(a, c)
	if one != impl.ErrNone || two != impl.ErrNone {
		return
	}
	right, code := impl.SumOf([]int64{ab, ac})
	if leftCode != impl.ErrNone || code != impl.ErrNone || left != right {
		t.Errorf("%d times the sum of %d and %d = %d, %d, but the sum of the products is %d, %d", a, b, c, left, leftCode, right, code)
	}
}

// The products themselves are the sums as integers, so that distribution does not hold for want
// of results.
func TestP01ProductsAreIntegerSums(t *testing.T) {
	for _, a := range edgeValues() {
		for _, b := range edgeValues() {
			want, wantCode := a+b, int64(impl.ErrNone)
			if a == bottom || b == bottom {
				want = bottom
			} else if !isFiniteNumber(want) {
				want, wantCode = 0, impl.ErrLimit
			}
			if p, code := impl.ProductOf(a, b); p != want || code != wantCode {
				t.Errorf("ProductOf(%d, %d) = %d, %d, want %d, %d", a, b, p, code, want, wantCode)
			}
		}
	}
}

func TestP01PowerOf(t *testing.T) {
	cases := []struct{ a, n, want, code int64 }{
		{-3, 4, -12, impl.ErrNone},
		{7, 1, 7, impl.ErrNone},
		{7, 0, 0, impl.ErrNone},
		{bottom, 0, 0, impl.ErrNone},
		{bottom, 1, bottom, impl.ErrNone},
		{bottom, maxFinite, bottom, impl.ErrNone},
		{maxFinite, 0, 0, impl.ErrNone},
		{0, maxFinite, 0, impl.ErrNone},
		{1, maxFinite, maxFinite, impl.ErrNone},
		{-1, maxFinite, -maxFinite, impl.ErrNone},
		{maxFinite, 1, maxFinite, impl.ErrNone},
		{1000, 1000, maxFinite, impl.ErrNone},
		{1000, 1001, 0, impl.ErrLimit},
		{-1000, 1000, -maxFinite, impl.ErrNone},
		{-1000, 1001, 0, impl.ErrLimit},
		{maxFinite, maxFinite, 0, impl.ErrLimit},
		{-maxFinite, maxFinite, 0, impl.ErrLimit},
		{0, maxFinite + 1, 0, impl.ErrRange},
		{0, -1, 0, impl.ErrRange},
		{bottom, -1, 0, impl.ErrRange},
		{maxFinite, maxFinite + 1, 0, impl.ErrRange},
		{2, math.MinInt64, 0, impl.ErrRange},
		{2, math.MaxInt64, 0, impl.ErrRange},
		{maxFinite + 1, 0, 0, impl.ErrInvalid},
		{maxFinite + 1, -1, 0, impl.ErrInvalid},
		{bottom + 1, maxFinite + 1, 0, impl.ErrInvalid},
		{math.MinInt64, math.MinInt64, 0, impl.ErrInvalid},
		{math.MaxInt64, math.MaxInt64, 0, impl.ErrInvalid},
	}
	for _, c := range cases {
		if p, code := impl.PowerOf(c.a, c.n); p != c.want || code != c.code {
			t.Errorf("PowerOf(%d, %d) = %d, %d, want %d, %d", c.a, c.n, p, code, c.want, c.code)
		}
	}
}

func TestP01PowersAreRepeatedProducts(t *testing.T) {
	for _, a := range edgeValues() {
		want, wantCode := int64(0), int64(impl.ErrNone)
		for n := int64(0); n <= 20; n++ {
			if p, code := impl.PowerOf(a, n); p != want || code != wantCode {
				t.Errorf("PowerOf(%d, %d) = %d, %d, want %d, %d", a, n, p, code, want, wantCode)
			}
			if wantCode == impl.ErrNone {
				want, wantCode = impl.ProductOf(want, a)
			}
		}
	}
}

func TestP01QuotientOf(t *testing.T) {
	cases := []struct{ a, b, want, code int64 }{
		{5, 7, -2, impl.ErrNone},
		{5, 0, 5, impl.ErrNone},
		{bottom, 5, bottom, impl.ErrNone},
		{bottom, -maxFinite, bottom, impl.ErrNone},
		{5, bottom, 0, impl.ErrState},
		{bottom, bottom, 0, impl.ErrState},
		{maxFinite, bottom, 0, impl.ErrState},
		{500000, -500000, maxFinite, impl.ErrNone},
		{500000, -500001, 0, impl.ErrLimit},
		{-500000, 500000, -maxFinite, impl.ErrNone},
		{-500000, 500001, 0, impl.ErrLimit},
		{maxFinite, -maxFinite, 0, impl.ErrLimit},
		{-maxFinite, maxFinite, 0, impl.ErrLimit},
		{maxFinite, maxFinite, 0, impl.ErrNone},
	}
	for _, c := range cases {
		if q, code := impl.QuotientOf(c.a, c.b); q != c.want || code != c.code {
			t.Errorf("QuotientOf(%d, %d) = %d, %d, want %d, %d", c.a, c.b, q, code, c.want, c.code)
		}
	}
}

func TestP01QuotientsAreGreatestFactors(t *testing.T) {
	for _, a := range edgeValues() {
		for _, b := range edgeValues() {
			q, code := impl.QuotientOf(a, b)
			if code != impl.ErrNone {
				continue
			}
			if p, code := impl.ProductOf(b, q); code != impl.ErrNone || p > a {
				t.Errorf("%d times the quotient %d = %d, %d, but has to be at most %d", b, q, p, code, a)
			}
			for _, x := range append(edgeValues(), q+1) {
				if p, code := impl.ProductOf(b, x); x > q && code == impl.ErrNone && p <= a {
					t.Errorf("QuotientOf(%d, %d) = %d, but the product with %d is at most %d as well", a, b, q, x, a)
				}
			}
		}
	}
}

func TestP01ValuesAreRecoveredFromTexts(t *testing.T) {
	if s := impl.ValueText(bottom); s != "." {
		t.Errorf("ValueText of Bottom = %q", s)
	}
	if a, ok := impl.ReadValue("."); a != bottom || !ok {
		t.Errorf("ReadValue of a period = %d, %v", a, ok)
	}
	for a := int64(-maxFinite); a <= maxFinite; a++ {
		s := impl.ValueText(a)
		if s != strconv.FormatInt(a, 10) {
			t.Fatalf("ValueText(%d) = %q", a, s)
		}
		if b, ok := impl.ReadValue(s); b != a || !ok {
			t.Fatalf("ReadValue(%q) = %d, %v", s, b, ok)
		}
	}
	for _, a := range notValues() {
		if s := impl.ValueText(a); s != "" {
			t.Errorf("ValueText(%d) = %q", a, s)
		}
	}
}

func TestP01NotTexts(t *testing.T) {
	texts := []string{
		"", "..", ". ", " .", "-.", ".0", "0.", "-", "+", "--1", "+1", "+0", "-0", "00", "01", "-01", "007", "-00", "0000000001",
		" 1", "1 ", "1\n", "\t1", "1 2", "1,2", "1.0", "1e3", "0x10", "1_000", "0b1", "0o7", "a", "1a", "\x00", "1\x00", "\xff",
		"−1", "１", "٣", "inf", "NaN", "Bottom", "true",
		"1000001", "-1000001", "10000000", "01000000", "-1000000000000000", "1000000000000000", "-999999999999999",
		"9223372036854775807", "-9223372036854775808", "9223372036854775808", "-9223372036854775809", "18446744073709551617",
		"1" + string(slices.Repeat([]byte("0"), 100000)),
		string(slices.Repeat([]byte("0"), 100000)) + "1",
	}
	for _, s := range texts {
		if a, ok := impl.ReadValue(s); a != 0 || ok {
			t.Errorf("ReadValue(%.40q) = %d, %v", s, a, ok)
		}
	}
}

// shortTexts returns all texts of at most longest of the given characters.
func shortTexts(characters string, longest int) []string {
	texts := []string{""}
	for first := 0; longest > 0; longest-- {
		last := len(texts)
		for _, s := range texts[first:last] {
			for _, c := range characters {
				texts = append(texts, s+string(c))
			}
		}
		first = last
	}
	return texts
}

// TestP01ShortTexts reads every short text over the characters that occur in texts.
func TestP01ShortTexts(t *testing.T) {
	values := map[string]int64{".": bottom}
	for a := int64(-9999); a <= 9999; a++ {
		values[strconv.FormatInt(a, 10)] = a
	}
	for _, s := range shortTexts(".-+019 ", 4) {
		want, wantOK := values[s]
		if a, ok := impl.ReadValue(s); a != want || ok != wantOK {
			t.Errorf("ReadValue(%q) = %d, %v, want %d, %v", s, a, ok, want, wantOK)
		}
	}
}

func TestP01IsRatio(t *testing.T) {
	valid := []impl.Ratio{
		{Num: 0, Den: 1}, {Num: 1, Den: 1}, {Num: -1, Den: 7}, {Num: 3, Den: 2}, {Num: 2, Den: 3}, {Num: -9, Den: 10},
		{Num: maxFinite, Den: 1}, {Num: -maxFinite, Den: 1}, {Num: 1, Den: maxFinite}, {Num: -1, Den: maxFinite},
		{Num: maxFinite, Den: maxFinite - 1}, {Num: -maxFinite + 1, Den: maxFinite},
	}
	for _, r := range valid {
		if !impl.IsRatio(r) {
			t.Errorf("IsRatio(%v) = false", r)
		}
	}
	for _, r := range notRatios() {
		if impl.IsRatio(r) {
			t.Errorf("IsRatio(%v) = true", r)
		}
	}
}

func notRatios() []impl.Ratio {
	return []impl.Ratio{
		{}, {Num: 1, Den: 0}, {Num: -1, Den: 0}, {Num: 0, Den: 2}, {Num: 0, Den: -1}, {Num: 0, Den: maxFinite},
		{Num: 2, Den: 4}, {Num: -2, Den: 4}, {Num: 6, Den: 3}, {Num: -15, Den: 35}, {Num: maxFinite, Den: maxFinite},
		{Num: 1, Den: -1}, {Num: -3, Den: -2}, {Num: 3, Den: -2},
		{Num: maxFinite + 1, Den: 1}, {Num: -maxFinite - 1, Den: 1}, {Num: 1, Den: maxFinite + 1}, {Num: 1, Den: -maxFinite},
		{Num: bottom, Den: 1}, {Num: 1, Den: bottom},
		{Num: math.MinInt64, Den: 1}, {Num: math.MaxInt64, Den: 1}, {Num: 1, Den: math.MinInt64}, {Num: 1, Den: math.MaxInt64},
		{Num: math.MinInt64, Den: math.MinInt64}, {Num: math.MinInt64, Den: -1}, {Num: math.MaxInt64, Den: math.MaxInt64},
	}
}

func TestP01MakeRatio(t *testing.T) {
	cases := []struct {
		num, den int64
		want     impl.Ratio
		code     int64
	}{
		{6, 4, impl.Ratio{Num: 3, Den: 2}, impl.ErrNone},
		{-6, 4, impl.Ratio{Num: -3, Den: 2}, impl.ErrNone},
		{6, -4, impl.Ratio{Num: -3, Den: 2}, impl.ErrNone},
		{-6, -4, impl.Ratio{Num: 3, Den: 2}, impl.ErrNone},
		{0, 5, impl.Ratio{Num: 0, Den: 1}, impl.ErrNone},
		{0, -5, impl.Ratio{Num: 0, Den: 1}, impl.ErrNone},
		{7, 1, impl.Ratio{Num: 7, Den: 1}, impl.ErrNone},
		{7, -1, impl.Ratio{Num: -7, Den: 1}, impl.ErrNone},
		{maxFinite, maxFinite, impl.Ratio{Num: 1, Den: 1}, impl.ErrNone},
		{maxFinite, -maxFinite, impl.Ratio{Num: -1, Den: 1}, impl.ErrNone},
		{-maxFinite, -1, impl.Ratio{Num: maxFinite, Den: 1}, impl.ErrNone},
		{-1, -maxFinite, impl.Ratio{Num: 1, Den: maxFinite}, impl.ErrNone},
		{maxFinite - 1, maxFinite, impl.Ratio{Num: maxFinite - 1, Den: maxFinite}, impl.ErrNone},
		{1, 0, impl.Ratio{}, impl.ErrState},
		{0, 0, impl.Ratio{}, impl.ErrState},
		{-maxFinite, 0, impl.Ratio{}, impl.ErrState},
	}
	for _, c := range cases {
		if r, code := impl.MakeRatio(c.num, c.den); r != c.want || code != c.code {
			t.Errorf("MakeRatio(%d, %d) = %v, %d, want %v, %d", c.num, c.den, r, code, c.want, c.code)
		}
	}
	for _, bad := range append(notValues(), bottom) {
		for _, other := range []int64{0, 1, -1, maxFinite, bad} {
			r, one := impl.MakeRatio(bad, other)
			s, two := impl.MakeRatio(other, bad)
			if r != (impl.Ratio{}) || one != impl.ErrInvalid || s != (impl.Ratio{}) || two != impl.ErrInvalid {
				t.Errorf("MakeRatio of %d and %d = %v, %d, and exchanged %v, %d", bad, other, r, one, s, two)
			}
		}
	}
}

// TestP01RatiosAgainstExactOnes compares with the fractions of the standard library.
func TestP01RatiosAgainstExactOnes(t *testing.T) {
	numbers := []int64{-12, -10, -7, -6, -4, -1, 1, 2, 3, 6, 8, 12}
	for _, a := range edgeValues() {
		if a != bottom {
			numbers = append(numbers, a)
		}
	}
	var ratios []impl.Ratio
	for _, num := range numbers {
		for _, den := range numbers {
			if den == 0 {
				continue
			}
			r, code := impl.MakeRatio(num, den)
			exact := big.NewRat(num, den)
			if code != impl.ErrNone || r.Num != exact.Num().Int64() || r.Den != exact.Denom().Int64() || !impl.IsRatio(r) {
				t.Errorf("MakeRatio(%d, %d) = %v, %d", num, den, r, code)
			}
			ratios = append(ratios, r)
		}
	}
	for _, a := range ratios {
		for _, b := range ratios {
			want := int64(big.NewRat(a.Num, a.Den).Cmp(big.NewRat(b.Num, b.Den)))
			if k, code := impl.CompareRatios(a, b); k != want || code != impl.ErrNone {
				t.Fatalf("CompareRatios(%v, %v) = %d, %d, want %d", a, b, k, code, want)
			}
		}
	}
}

// TestP01SmallRatios finds the valid ratios among all small pairs by trying every divisor.
func TestP01SmallRatios(t *testing.T) {
	for num := int64(-40); num <= 40; num++ {
		for den := int64(-3); den <= 40; den++ {
			want := den >= 1
			for d := int64(2); d <= 40; d++ {
				if num%d == 0 && den%d == 0 {
					want = false
				}
			}
			r := impl.Ratio{Num: num, Den: den}
			if impl.IsRatio(r) != want {
				t.Errorf("IsRatio(%v) = %v", r, !want)
			}
		}
	}
}

func TestP01CompareRatios(t *testing.T) {
	cases := []struct {
		a, b impl.Ratio
		want int64
	}{
		{impl.Ratio{Num: 1, Den: 3}, impl.Ratio{Num: 1, Den: 2}, -1},
		{impl.Ratio{Num: 1, Den: 2}, impl.Ratio{Num: 1, Den: 3}, 1},
		{impl.Ratio{Num: -1, Den: 3}, impl.Ratio{Num: -1, Den: 2}, 1},
		{impl.Ratio{Num: -1, Den: 2}, impl.Ratio{Num: 0, Den: 1}, -1},
		{impl.Ratio{Num: 0, Den: 1}, impl.Ratio{Num: 0, Den: 1}, 0},
		{impl.Ratio{Num: maxFinite, Den: 1}, impl.Ratio{Num: -maxFinite, Den: 1}, 1},
		{impl.Ratio{Num: maxFinite - 1, Den: maxFinite}, impl.Ratio{Num: maxFinite - 2, Den: maxFinite - 1}, 1},
		{impl.Ratio{Num: 1, Den: maxFinite}, impl.Ratio{Num: 1, Den: maxFinite - 1}, -1},
	}
	for _, c := range cases {
		if k, code := impl.CompareRatios(c.a, c.b); k != c.want || code != impl.ErrNone {
			t.Errorf("CompareRatios(%v, %v) = %d, %d, want %d", c.a, c.b, k, code, c.want)
		}
	}
	good := impl.Ratio{Num: 1, Den: 2}
	for _, bad := range notRatios() {
		for _, pair := range [][2]impl.Ratio{{bad, good}, {good, bad}, {bad, bad}} {
			if k, code := impl.CompareRatios(pair[0], pair[1]); k != 0 || code != impl.ErrInvalid {
				t.Errorf("CompareRatios(%v, %v) = %d, %d", pair[0], pair[1], k, code)
			}
		}
	}
}
