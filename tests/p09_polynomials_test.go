package tests

import (
	"fmt"
	"math/big"
	"math/rand/v2"
	"slices"
	"testing"

	"loop.example/g00941/impl"
)

const maxTerms = 12

// fine is twice a number that 1 to 11 divide. In units of 1 / fine, all places where two terms are
// equal are even numbers, so that the odd numbers beside them lie between these places.
const fine = 55440

func corner(num, den, times int64) impl.Corner { return impl.Corner{At: ratio(num, den), Times: times} }

// realValue is the value at p / fine, in units of 1 / fine.
func realValue(c []int64, p int64) int64 {
	greatest := int64(bottom)
	for i, coefficient := range c {
		if coefficient != bottom {
			greatest = max(greatest, coefficient*fine+int64(i)*p)
		}
	}
	return greatest
}

// places are enough numbers to tell what polynomials are like everywhere: those at which two terms
// of one of them are equal, one on both sides of each of these, and two where there are none.
func places(polynomials ...[]int64) []int64 {
	list := []int64{0, 1}
	for _, c := range polynomials {
		for k := range c {
			for i := range k {
				if c[i] != bottom && c[k] != bottom {
					p := fine * (c[i] - c[k]) / int64(k-i)
					list = append(list, p-1, p, p+1)
				}
			}
		}
	}
	slices.Sort(list)
	return slices.Compact(list)
}

func plainSame(c, d []int64) bool {
	for _, p := range places(c, d) {
		if realValue(c, p) != realValue(d, p) {
			return false
		}
	}
	return true
}

// isOnlyGreatest reports whether the term i is greater than all the others at p / fine.
func isOnlyGreatest(c []int64, i int, p int64) bool {
	others := slices.Clone(c)
	others[i] = bottom
	return c[i] != bottom && c[i]*fine+int64(i)*p > realValue(others, p)
}

func plainTerms(c []int64) []int64 {
	var terms []int64
	all := places(c)
	for i := range c {
		if slices.ContainsFunc(all, func(p int64) bool { return isOnlyGreatest(c, i, p) }) {
			terms = append(terms, int64(i))
		}
	}
	return terms
}

func plainCorners(c []int64) ([]impl.Corner, int64) {
	var corners []impl.Corner
	terms := plainTerms(c)
	for m := 1; m < len(terms); m++ {
		i, k := terms[m-1], terms[m]
		at, code := wantRatio(big.NewRat(c[i]-c[k], k-i))
		if code != impl.ErrNone {
			return nil, code
		}
		corners = append(corners, impl.Corner{At: at, Times: k - i})
	}
	return corners, impl.ErrNone
}

// floorOf divides by a positive number.
func floorOf(a, b int64) int64 {
	return new(big.Int).Div(big.NewInt(a), big.NewInt(b)).Int64()
}

// plainFull takes the greatest coefficients with which no term exceeds the value anywhere.
func plainFull(c []int64) []int64 {
	full := bottoms(len(c))
	terms, all := plainTerms(c), places(c)
	for n := terms[0]; n <= terms[len(terms)-1]; n++ {
		least := realValue(c, 0)
		for _, p := range all {
			least = min(least, realValue(c, p)-n*p)
		}
		full[n] = floorOf(least, fine)
	}
	return full
}

func checkCorners(t *testing.T, what string, list []impl.Corner, code int64, want []impl.Corner, wantCode int64) {
	t.Helper()
	if code != wantCode || !slices.Equal(list, want) || code != impl.ErrNone && len(list) != 0 {
		t.Errorf("%s = %v, %d, want %v, %d", what, list, code, want, wantCode)
	}
}

// polynomialParts is all that the chapter tells of one polynomial.
type polynomialParts struct {
	c, terms    []int64
	corners     []impl.Corner
	cornersCode int64
	full        []int64
}

func checkPolynomial(t *testing.T, want polynomialParts) {
	t.Helper()
	what := fmt.Sprint(" of ", want.c)
	if !impl.IsPolynomial(want.c) {
		t.Errorf("IsPolynomial(%v) = false", want.c)
	}
	terms, code := impl.EssentialTerms(want.c)
	checkList(t, "EssentialTerms"+what, terms, code, want.terms, impl.ErrNone)
	corners, code := impl.CornersOf(want.c)
	checkCorners(t, "CornersOf"+what, corners, code, want.corners, want.cornersCode)
	full, code := impl.FullPolynomial(want.c)
	checkList(t, "FullPolynomial"+what, full, code, want.full, impl.ErrNone)
	for _, same := range [][]int64{want.c, want.full} {
		is, code := impl.SameFunction(want.c, same)
		checkAnswer(t, "SameFunction"+what+" and the same one", is, code, true, impl.ErrNone)
		is, code = impl.SameFunction(same, want.c)
		checkAnswer(t, "SameFunction, turned round,"+what+" and the same one", is, code, true, impl.ErrNone)
	}
}

// plainPolynomial follows the definitions.
func plainPolynomial(c []int64) polynomialParts {
	want := polynomialParts{c: c, terms: plainTerms(c), full: plainFull(c)}
	want.corners, want.cornersCode = plainCorners(c)
	return want
}

// curve has the coefficients f(0) to f(n - 1).
func curve(n int64, f func(i int64) int64) []int64 {
	var c []int64
	for i := range n {
		c = append(c, f(i))
	}
	return c
}

// ends has two coefficients and n times Bottom between them.
func ends(first int64, n int, last int64) []int64 {
	return slices.Concat([]int64{first}, bottoms(n), []int64{last})
}

// bent makes a polynomial whose corners do not decrease, so that each term is essential or touches
// the value, and then spoils some of its coefficients.
func bent(random *rand.Rand, n int, limit int64, spoil func(coefficient int64) int64) []int64 {
	corners := make([]int64, n)
	for i := range corners {
		corners[i] = random.Int64N(2*limit+1) - limit
	}
	slices.Sort(corners)
	c := []int64{random.Int64N(2*limit+1) - limit}
	for _, at := range corners[1:] {
		c = append(c, c[len(c)-1]-at)
	}
	for i := range c {
		if random.IntN(4) == 0 {
			c[i] = spoil(c[i])
		}
	}
	return c
}

// somePolynomials are polynomials of all kinds with n coefficients.
func somePolynomials(random *rand.Rand, n int) [][]int64 {
	asItIs := func(coefficient int64) int64 { return coefficient }
	missing := func(coefficient int64) int64 { return bottom }
	lower := func(coefficient int64) int64 { return coefficient - 1 }
	list := [][]int64{edgeMatrix(random, 1, n)[0]}
	for _, limit := range []int64{0, 1, 3, 9, 500, 60000, maxFinite, maxFinite, maxFinite} {
		list = append(list, randomMatrix(random, 1, n, limit)[0])
	}
	for _, limit := range []int64{1, 3, 50, 1000, 80000} {
		list = append(list, bent(random, n, limit, asItIs), bent(random, n, limit, missing), bent(random, n, limit, lower))
	}
	for _, c := range list {
		if isBottomRow(c) {
			c[random.IntN(n)] = random.Int64N(7) - 3
		}
	}
	return list
}

// eachPolynomial makes polynomials with all numbers of coefficients.
func eachPolynomial(random *rand.Rand, rounds int, check func(c []int64)) {
	for n := 1; n <= maxTerms; n++ {
		for range rounds {
			for _, c := range somePolynomials(random, n) {
				check(c)
			}
		}
	}
}

// eachTwo makes two polynomials that have at most a given number of coefficients together, mostly of
// the same kind.
func eachTwo(random *rand.Rand, together int, check func(c, d []int64)) {
	for m := 1; m <= maxTerms; m++ {
		for n := 1; n <= maxTerms && m+n <= together; n++ {
			for range 3 {
				list := somePolynomials(random, n)
				for k, c := range somePolynomials(random, m) {
					check(c, list[k])
					check(c, list[random.IntN(len(list))])
				}
			}
		}
	}
}

func TestP09Constants(t *testing.T) {
	if impl.MaxTerms != maxTerms {
		t.Errorf("MaxTerms is %d", impl.MaxTerms)
	}
}

// notPolynomials are arguments that a careless check could take for polynomials.
func notPolynomials() [][]int64 {
	list := [][]int64{nil, {}, {bottom}, {bottom, bottom}, bottoms(maxTerms), bottoms(maxTerms + 1), make([]int64, maxTerms+1), append(make([]int64, 1), bottoms(maxTerms)...), make([]int64, 300)}
	for _, bad := range notValues() {
		list = append(list, []int64{bad}, []int64{bad, 0}, []int64{0, bad}, []int64{bottom, bad}, []int64{bad, bottom}, []int64{0, bottom, bad, 0}, append(make([]int64, maxTerms-1), bad), append(bottoms(maxTerms-1), bad))
	}
	return list
}

func TestP09IsPolynomial(t *testing.T) {
	for _, bad := range notPolynomials() {
		if impl.IsPolynomial(bad) {
			t.Errorf("IsPolynomial(%v) = true", bad)
		}
	}
	for n := 1; n <= maxTerms; n++ {
		for i := range n {
			// One finite coefficient, wherever it is, is enough, and one that is no value is too much.
			for _, a := range edgeValues() {
				c, d := bottoms(n), make([]int64, n)
				c[i], d[i] = a, a
				if impl.IsPolynomial(c) != (a != bottom) || impl.IsPolynomial(d) != (a != bottom || n > 1) {
					t.Errorf("IsPolynomial(%v) = %v, IsPolynomial(%v) = %v", c, impl.IsPolynomial(c), d, impl.IsPolynomial(d))
				}
			}
			for _, bad := range notValues() {
				d := make([]int64, n)
				d[i] = bad
				if impl.IsPolynomial(d) {
					t.Errorf("IsPolynomial(%v) = true", d)
				}
			}
		}
	}
}

func TestP09EvaluatePolynomial(t *testing.T) {
	c := []int64{4, 0, 2}
	zeros, least := make([]int64, maxTerms), slices.Repeat([]int64{-maxFinite}, maxTerms)
	cases := []struct {
		c             []int64
		x, want, code int64
	}{
		{c, 0, 4, impl.ErrNone},
		{c, 1, 4, impl.ErrNone},
		{c, 2, 6, impl.ErrNone},
		{c, -5, 4, impl.ErrNone},
		{c, -maxFinite, 4, impl.ErrNone},
		{c, 499999, maxFinite, impl.ErrNone},
		{c, 500000, 0, impl.ErrLimit},
		{c, maxFinite, 0, impl.ErrLimit},
		{[]int64{1, 5, 6, 3}, -2, 3, impl.ErrNone},
		{[]int64{1, 5, 6, 3}, 0, 6, impl.ErrNone},
		{[]int64{1, 5, 6, 3}, 4, 15, impl.ErrNone},
		{[]int64{bottom, 7, bottom, 1, bottom}, -4, 3, impl.ErrNone},
		{[]int64{bottom, 7, bottom, 1, bottom}, 3, 10, impl.ErrNone},
		{[]int64{bottom, 7, bottom, 1, bottom}, 4, 13, impl.ErrNone},
		// At Bottom only the term 0 is left.
		{c, bottom, 4, impl.ErrNone},
		{[]int64{-maxFinite, maxFinite}, bottom, -maxFinite, impl.ErrNone},
		{[]int64{maxFinite}, bottom, maxFinite, impl.ErrNone},
		{[]int64{bottom, 7}, bottom, bottom, impl.ErrNone},
		{append(bottoms(maxTerms-1), maxFinite), bottom, bottom, impl.ErrNone},
		// A polynomial of one term.
		{[]int64{-3}, maxFinite, -3, impl.ErrNone},
		{[]int64{-3}, -maxFinite, -3, impl.ErrNone},
		{[]int64{bottom, 0}, maxFinite, maxFinite, impl.ErrNone},
		{[]int64{bottom, 0}, -maxFinite, -maxFinite, impl.ErrNone},
		{[]int64{bottom, 1}, maxFinite - 1, maxFinite, impl.ErrNone},
		{[]int64{bottom, 1}, maxFinite, 0, impl.ErrLimit},
		{[]int64{bottom, -1}, -maxFinite + 1, -maxFinite, impl.ErrNone},
		{[]int64{bottom, -1}, -maxFinite, 0, impl.ErrLimit},
		// Only the value itself has to be a value, not a power of x.
		{[]int64{bottom, bottom, -maxFinite}, maxFinite, maxFinite, impl.ErrNone},
		{[]int64{bottom, bottom, -maxFinite + 1}, maxFinite, 0, impl.ErrLimit},
		{[]int64{bottom, bottom, maxFinite}, -maxFinite, -maxFinite, impl.ErrNone},
		{[]int64{bottom, bottom, maxFinite - 1}, -maxFinite, 0, impl.ErrLimit},
		{append(bottoms(maxTerms-1), -maxFinite), 181818, 999998, impl.ErrNone},
		{append(bottoms(maxTerms-1), -maxFinite), 181819, 0, impl.ErrLimit},
		{append(bottoms(maxTerms-1), maxFinite), -181818, -999998, impl.ErrNone},
		{append(bottoms(maxTerms-1), maxFinite), -181819, 0, impl.ErrLimit},
		{append(bottoms(maxTerms-1), maxFinite), maxFinite, 0, impl.ErrLimit},
		{append(bottoms(maxTerms-1), -maxFinite), -maxFinite, 0, impl.ErrLimit},
		// Terms that are not the greatest one do no harm.
		{zeros, -maxFinite, 0, impl.ErrNone},
		{zeros, 90909, 999999, impl.ErrNone},
		{zeros, 90910, 0, impl.ErrLimit},
		{zeros, maxFinite, 0, impl.ErrLimit},
		{least, -maxFinite, -maxFinite, impl.ErrNone},
		{least, 0, -maxFinite, impl.ErrNone},
		{least[1:], maxFinite, 0, impl.ErrLimit},
		{[]int64{bottom, -5, -maxFinite}, -maxFinite, 0, impl.ErrLimit},
		{[]int64{-maxFinite, -5, -maxFinite}, -maxFinite, -maxFinite, impl.ErrNone},
	}
	for _, c := range cases {
		v, code := impl.EvaluatePolynomial(c.c, c.x)
		if v != c.want || code != c.code {
			t.Errorf("EvaluatePolynomial(%v, %d) = %d, %d, want %d, %d", c.c, c.x, v, code, c.want, c.code)
		}
	}
}

// plainValue is the value at a finite x, if it is a value.
func plainValue(c []int64, x int64) (int64, int64) {
	v := realValue(c, x*fine) / fine
	if !isFiniteNumber(v) {
		return 0, impl.ErrLimit
	}
	return v, impl.ErrNone
}

// someNumbers are places where the value is computed: also those near the corners.
func someNumbers(random *rand.Rand, c []int64) []int64 {
	list := []int64{0, 1, -1, maxFinite, -maxFinite, random.Int64N(101) - 50, random.Int64N(2*maxFinite+1) - maxFinite}
	for _, p := range places(c) {
		if x := floorOf(p, fine); random.IntN(20) == 0 && isFiniteNumber(x) {
			list = append(list, x)
		}
	}
	return list
}

func TestP09ValuesFollowTheDefinition(t *testing.T) {
	random := newRandom(91)
	codes := map[int64]int{}
	eachPolynomial(random, 5, func(c []int64) {
		for _, x := range someNumbers(random, c) {
			want, wantCode := plainValue(c, x)
			v, code := impl.EvaluatePolynomial(c, x)
			checkNumber(t, "EvaluatePolynomial of many", v, code, want, wantCode)
			codes[code]++
		}
		v, code := impl.EvaluatePolynomial(c, bottom)
		checkNumber(t, "EvaluatePolynomial at Bottom", v, code, c[0], impl.ErrNone)
	})
	checkVaried(t, codes, map[int64]int{impl.ErrNone: 5000, impl.ErrLimit: 1000})
}

func TestP09AddPolynomials(t *testing.T) {
	c := []int64{4, 0, 2}
	full := curve(maxTerms, func(i int64) int64 { return i - 5 })
	cases := []struct{ c, d, want []int64 }{
		{c, c, c},
		{c, []int64{bottom, 1, 0, 7}, []int64{4, 1, 2, 7}},
		{c, []int64{bottom, bottom, bottom, bottom, -9}, []int64{4, 0, 2, bottom, -9}},
		{c, []int64{-9}, c},
		{c, []int64{5}, []int64{5, 0, 2}},
		{c, []int64{bottom, 3}, []int64{4, 3, 2}},
		{[]int64{1}, []int64{-1}, []int64{1}},
		{[]int64{-7}, []int64{-5}, []int64{-5}},
		{[]int64{-maxFinite}, []int64{maxFinite}, []int64{maxFinite}},
		{[]int64{-maxFinite, bottom}, []int64{bottom, -maxFinite}, []int64{-maxFinite, -maxFinite}},
		// Both are Bottom at some index: in front, between and behind.
		{[]int64{bottom, 1, bottom, 3, bottom}, []int64{bottom, 2, bottom, bottom, bottom}, []int64{bottom, 2, bottom, 3, bottom}},
		{[]int64{bottom, 1, bottom, 3, bottom}, []int64{bottom, -2}, []int64{bottom, 1, bottom, 3, bottom}},
		{[]int64{0, bottom, bottom}, []int64{1, bottom}, []int64{1, bottom, bottom}},
		// As many coefficients as there can be.
		{full, []int64{0}, append([]int64{0}, full[1:]...)},
		{full, full, full},
		{full, slices.Repeat([]int64{0}, maxTerms), []int64{0, 0, 0, 0, 0, 0, 1, 2, 3, 4, 5, 6}},
		{append(bottoms(maxTerms-1), 8), []int64{maxFinite}, ends(maxFinite, maxTerms-2, 8)},
	}
	for _, x := range cases {
		sum, code := impl.AddPolynomials(x.c, x.d)
		checkList(t, "AddPolynomials", sum, code, x.want, impl.ErrNone)
		sum, code = impl.AddPolynomials(x.d, x.c)
		checkList(t, "AddPolynomials, turned round", sum, code, x.want, impl.ErrNone)
	}
}

// checkTerms checks a product of two factors in both orders.
func checkTerms(t *testing.T, c, d, want []int64, wantCode int64) {
	t.Helper()
	product, code := impl.MultiplyPolynomials(c, d)
	checkList(t, "MultiplyPolynomials", product, code, want, wantCode)
	product, code = impl.MultiplyPolynomials(d, c)
	checkList(t, "MultiplyPolynomials, turned round", product, code, want, wantCode)
}

func TestP09MultiplyPolynomials(t *testing.T) {
	c := []int64{4, 0, 2}
	full := curve(maxTerms, func(i int64) int64 { return 7*i%5 - 3*i })
	cases := []struct {
		c, d, want []int64
		code       int64
	}{
		{c, []int64{0}, c, impl.ErrNone},
		{c, []int64{-6}, []int64{-2, -6, -4}, impl.ErrNone},
		{c, []int64{bottom, 1}, []int64{bottom, 5, 1, 3}, impl.ErrNone},
		{c, c, []int64{8, 4, 6, 2, 4}, impl.ErrNone},
		{c, []int64{1, 5, 6, 3}, []int64{5, 9, 10, 7, 8, 5}, impl.ErrNone},
		{[]int64{3}, []int64{-5}, []int64{-2}, impl.ErrNone},
		// Bottom before the first, between and behind the other coefficients.
		{c, []int64{1, bottom}, []int64{5, 1, 3, bottom}, impl.ErrNone},
		{[]int64{bottom, 1}, []int64{bottom, bottom, 2}, []int64{bottom, bottom, bottom, 3}, impl.ErrNone},
		{[]int64{1, bottom}, []int64{2, bottom, bottom}, []int64{3, bottom, bottom, bottom}, impl.ErrNone},
		{[]int64{1, bottom, 0}, []int64{2, bottom, -1}, []int64{3, bottom, 2, bottom, -1}, impl.ErrNone},
		{[]int64{bottom, 1, bottom}, []int64{0, bottom, bottom, 5}, []int64{bottom, 1, bottom, bottom, 6, bottom}, impl.ErrNone},
		// As many coefficients as there can be, and one more, Bottom or not.
		{full, []int64{0}, full, impl.ErrNone},
		{make([]int64, 7), make([]int64, 6), make([]int64, maxTerms), impl.ErrNone},
		{make([]int64, 7), make([]int64, 7), nil, impl.ErrLimit},
		{full, []int64{0, 0}, nil, impl.ErrLimit},
		{full, []int64{0, bottom}, nil, impl.ErrLimit},
		{append([]int64{0}, bottoms(maxTerms-1)...), []int64{0, bottom}, nil, impl.ErrLimit},
		{append([]int64{0}, bottoms(maxTerms-2)...), []int64{0, bottom}, append([]int64{0}, bottoms(maxTerms-1)...), impl.ErrNone},
		{full, full, nil, impl.ErrLimit},
		// Coefficients at the limit and beyond it.
		{[]int64{maxFinite}, []int64{0}, []int64{maxFinite}, impl.ErrNone},
		{[]int64{maxFinite}, []int64{1}, nil, impl.ErrLimit},
		{[]int64{maxFinite}, []int64{-maxFinite}, []int64{0}, impl.ErrNone},
		{[]int64{-maxFinite}, []int64{-1}, nil, impl.ErrLimit},
		{[]int64{-500000}, []int64{-500000}, []int64{-maxFinite}, impl.ErrNone},
		{[]int64{0, 500000}, []int64{0, 500000}, []int64{0, 500000, maxFinite}, impl.ErrNone},
		{[]int64{0, 500001}, []int64{0, 500000}, nil, impl.ErrLimit},
		{[]int64{500001, 0}, []int64{500000, 0}, nil, impl.ErrLimit},
		{[]int64{maxFinite, bottom}, []int64{bottom, 1}, nil, impl.ErrLimit},
		{[]int64{bottom, maxFinite, 0}, []int64{bottom, 0, 0}, []int64{bottom, bottom, maxFinite, maxFinite, 0}, impl.ErrNone},
		{[]int64{0, -maxFinite}, []int64{0, -1}, nil, impl.ErrLimit},
		// A product that is no value does no harm beside a greater one.
		{[]int64{0, -maxFinite}, []int64{-1, 0}, []int64{-1, 0, -maxFinite}, impl.ErrNone},
		{[]int64{0, -maxFinite, 0}, []int64{-1, -1, -1}, []int64{-1, -1, -1, -1, -1}, impl.ErrNone},
	}
	for _, x := range cases {
		checkTerms(t, x.c, x.d, x.want, x.code)
	}
	for m := 1; m <= maxTerms; m++ {
		for n := 1; n <= maxTerms; n++ {
			want, wantCode := slices.Repeat([]int64{5}, m+n-1), int64(impl.ErrNone)
			if m+n-1 > maxTerms {
				want, wantCode = nil, impl.ErrLimit
			}
			checkTerms(t, slices.Repeat([]int64{2}, m), slices.Repeat([]int64{3}, n), want, wantCode)
		}
	}
}

// plainConvolution takes the greatest sums as the document says, whether they are values or not.
func plainConvolution(c, d []int64) []int64 {
	product := bottoms(len(c) + len(d) - 1)
	for n := range product {
		for i := range c {
			if k := n - i; k >= 0 && k < len(d) && c[i] != bottom && d[k] != bottom {
				product[n] = max(product[n], c[i]+d[k])
			}
		}
	}
	return product
}

func TestP09SumsAndProductsFollowTheDefinition(t *testing.T) {
	codes := map[int64]int{}
	eachTwo(newRandom(92), 2*maxTerms, func(c, d []int64) {
		longer := max(len(c), len(d))
		want := plainMax(append(slices.Clone(c), bottoms(longer-len(c))...), append(slices.Clone(d), bottoms(longer-len(d))...))
		sum, code := impl.AddPolynomials(c, d)
		checkList(t, "AddPolynomials of many", sum, code, want, impl.ErrNone)
		want, wantCode := valuesOf(plainConvolution(c, d))
		if len(want) > maxTerms {
			want, wantCode = nil, impl.ErrLimit
		}
		product, code := impl.MultiplyPolynomials(c, d)
		checkList(t, "MultiplyPolynomials of many", product, code, want, wantCode)
		codes[code]++
	})
	checkVaried(t, codes, map[int64]int{impl.ErrNone: 3000, impl.ErrLimit: 3000})
}

// TestP09OneTerm has polynomials without corners: all they have is one term.
func TestP09OneTerm(t *testing.T) {
	for n := 1; n <= maxTerms; n++ {
		for i := range n {
			for _, a := range edgeValues()[1:] {
				c := bottoms(n)
				c[i] = a
				checkPolynomial(t, polynomialParts{c: c, terms: []int64{int64(i)}, full: c})
			}
		}
	}
}

func TestP09Corners(t *testing.T) {
	const none = impl.ErrNone
	indices := curve(maxTerms, func(i int64) int64 { return i })
	squares := curve(maxTerms, func(i int64) int64 { return -i * i })
	var odd []impl.Corner
	for i := range int64(maxTerms - 1) {
		odd = append(odd, corner(2*i+1, 1, 1))
	}
	cases := []polynomialParts{
		{[]int64{4, 0, 2}, []int64{0, 2}, []impl.Corner{corner(1, 1, 2)}, none, []int64{4, 3, 2}},
		{[]int64{4, bottom, 2}, []int64{0, 2}, []impl.Corner{corner(1, 1, 2)}, none, []int64{4, 3, 2}},
		{[]int64{4, 4, 2}, []int64{0, 1, 2}, []impl.Corner{corner(0, 1, 1), corner(2, 1, 1)}, none, []int64{4, 4, 2}},
		{[]int64{1, 5, 6, 3}, []int64{0, 1, 2, 3}, []impl.Corner{corner(-4, 1, 1), corner(-1, 1, 1), corner(3, 1, 1)}, none, []int64{1, 5, 6, 3}},
		{[]int64{3, -2}, []int64{0, 1}, []impl.Corner{corner(5, 1, 1)}, none, []int64{3, -2}},
		{[]int64{-2, 3}, []int64{0, 1}, []impl.Corner{corner(-5, 1, 1)}, none, []int64{-2, 3}},
		// Bottom before the first, between and behind the other coefficients.
		{[]int64{bottom, 4, 0, 1, bottom}, []int64{1, 3}, []impl.Corner{corner(3, 2, 2)}, none, []int64{bottom, 4, 2, 1, bottom}},
		{[]int64{bottom, bottom, 7, 7}, []int64{2, 3}, []impl.Corner{corner(0, 1, 1)}, none, []int64{bottom, bottom, 7, 7}},
		{[]int64{7, 7, bottom, bottom}, []int64{0, 1}, []impl.Corner{corner(0, 1, 1)}, none, []int64{7, 7, bottom, bottom}},
		{[]int64{bottom, 1, bottom, 5, bottom, 1, bottom}, []int64{1, 3, 5}, []impl.Corner{corner(-2, 1, 2), corner(2, 1, 2)}, none, []int64{bottom, 1, 3, 5, 3, 1, bottom}},
		// Ratios in lowest terms, and coefficients that are rounded down.
		{ends(0, 2, -2), []int64{0, 3}, []impl.Corner{corner(2, 3, 3)}, none, []int64{0, -1, -2, -2}},
		{ends(0, 2, 2), []int64{0, 3}, []impl.Corner{corner(-2, 3, 3)}, none, []int64{0, 0, 1, 2}},
		{ends(3, 1, 0), []int64{0, 2}, []impl.Corner{corner(3, 2, 2)}, none, []int64{3, 1, 0}},
		{ends(-3, 1, 0), []int64{0, 2}, []impl.Corner{corner(-3, 2, 2)}, none, []int64{-3, -2, 0}},
		{ends(-3, 1, -6), []int64{0, 2}, []impl.Corner{corner(3, 2, 2)}, none, []int64{-3, -5, -6}},
		{ends(0, 1, -1), []int64{0, 2}, []impl.Corner{corner(1, 2, 2)}, none, []int64{0, -1, -1}},
		{ends(6, 3, 0), []int64{0, 4}, []impl.Corner{corner(3, 2, 4)}, none, []int64{6, 4, 3, 1, 0}},
		{ends(0, 3, -6), []int64{0, 4}, []impl.Corner{corner(3, 2, 4)}, none, []int64{0, -2, -3, -5, -6}},
		{ends(-6, 3, 0), []int64{0, 4}, []impl.Corner{corner(-3, 2, 4)}, none, []int64{-6, -5, -3, -2, 0}},
		{ends(-8, 3, -8), []int64{0, 4}, []impl.Corner{corner(0, 1, 4)}, none, []int64{-8, -8, -8, -8, -8}},
		{ends(0, 10, 1), []int64{0, 11}, []impl.Corner{corner(-1, 11, 11)}, none, []int64{0, 0, 0, 0, 0, 0, 0, 0, 0, 0, 0, 1}},
		{ends(0, 10, -1), []int64{0, 11}, []impl.Corner{corner(1, 11, 11)}, none, []int64{0, -1, -1, -1, -1, -1, -1, -1, -1, -1, -1, -1}},
		{ends(-1, 10, -12), []int64{0, 11}, []impl.Corner{corner(1, 1, 11)}, none, []int64{-1, -2, -3, -4, -5, -6, -7, -8, -9, -10, -11, -12}},
		{[]int64{0, bottom, 3, bottom, bottom, 5}, []int64{0, 2, 5}, []impl.Corner{corner(-3, 2, 2), corner(-2, 3, 3)}, none, []int64{0, 1, 3, 3, 4, 5}},
		// Terms below the others, one or several at once.
		{[]int64{0, 5, 9, 12, 14, 100}, []int64{0, 5}, []impl.Corner{corner(-20, 1, 5)}, none, []int64{0, 20, 40, 60, 80, 100}},
		{[]int64{0, 10, 12, 13, 13, 21}, []int64{0, 1, 5}, []impl.Corner{corner(-10, 1, 1), corner(-11, 4, 4)}, none, []int64{0, 10, 12, 15, 18, 21}},
		{[]int64{21, 13, 13, 12, 10, 0}, []int64{0, 4, 5}, []impl.Corner{corner(11, 4, 4), corner(10, 1, 1)}, none, []int64{21, 18, 15, 12, 10, 0}},
		{[]int64{5, 1, 0, 1, 5}, []int64{0, 4}, []impl.Corner{corner(0, 1, 4)}, none, []int64{5, 5, 5, 5, 5}},
		{[]int64{5, -maxFinite, -maxFinite, 5}, []int64{0, 3}, []impl.Corner{corner(0, 1, 3)}, none, []int64{5, 5, 5, 5}},
		// Terms that only touch the others, one or several at once.
		{[]int64{4, 3, 2}, []int64{0, 2}, []impl.Corner{corner(1, 1, 2)}, none, []int64{4, 3, 2}},
		{[]int64{0, 0, 0}, []int64{0, 2}, []impl.Corner{corner(0, 1, 2)}, none, []int64{0, 0, 0}},
		{[]int64{0, 3, 1, 9}, []int64{0, 3}, []impl.Corner{corner(-3, 1, 3)}, none, []int64{0, 3, 6, 9}},
		{[]int64{0, 1, 6, 9}, []int64{0, 3}, []impl.Corner{corner(-3, 1, 3)}, none, []int64{0, 3, 6, 9}},
		{[]int64{0, 6, 9, 12, 15, 14}, []int64{0, 1, 4, 5}, []impl.Corner{corner(-6, 1, 1), corner(-3, 1, 3), corner(1, 1, 1)}, none, []int64{0, 6, 9, 12, 15, 14}},
		{[]int64{0, 6, 9, 12, 15, 19}, []int64{0, 1, 5}, []impl.Corner{corner(-6, 1, 1), corner(-13, 4, 4)}, none, []int64{0, 6, 9, 12, 15, 19}},
		// As many terms as there can be.
		{make([]int64, maxTerms), []int64{0, 11}, []impl.Corner{corner(0, 1, 11)}, none, make([]int64, maxTerms)},
		{squares, indices, odd, none, squares},
		{curve(maxTerms, func(i int64) int64 { return i * i }), []int64{0, 11}, []impl.Corner{corner(-11, 1, 11)}, none, curve(maxTerms, func(i int64) int64 { return 11 * i })},
	}
	for _, want := range cases {
		checkPolynomial(t, want)
	}
}

// TestP09CornersBeyondTheLimit has corners that are valid ratios although the differences are no
// values, and such that are not: then only CornersOf returns an error.
func TestP09CornersBeyondTheLimit(t *testing.T) {
	const none, limit = impl.ErrNone, impl.ErrLimit
	cases := []polynomialParts{
		{[]int64{maxFinite, 0}, []int64{0, 1}, []impl.Corner{corner(maxFinite, 1, 1)}, none, []int64{maxFinite, 0}},
		{[]int64{0, maxFinite}, []int64{0, 1}, []impl.Corner{corner(-maxFinite, 1, 1)}, none, []int64{0, maxFinite}},
		{[]int64{maxFinite, -1}, []int64{0, 1}, nil, limit, []int64{maxFinite, -1}},
		{[]int64{-1, maxFinite}, []int64{0, 1}, nil, limit, []int64{-1, maxFinite}},
		{[]int64{maxFinite, -maxFinite}, []int64{0, 1}, nil, limit, []int64{maxFinite, -maxFinite}},
		{[]int64{-maxFinite, maxFinite}, []int64{0, 1}, nil, limit, []int64{-maxFinite, maxFinite}},
		// Lowest terms make ratios valid, or do not.
		{ends(maxFinite, 1, -maxFinite), []int64{0, 2}, []impl.Corner{corner(maxFinite, 1, 2)}, none, []int64{maxFinite, 0, -maxFinite}},
		{ends(-maxFinite, 1, maxFinite), []int64{0, 2}, []impl.Corner{corner(-maxFinite, 1, 2)}, none, []int64{-maxFinite, 0, maxFinite}},
		{ends(maxFinite, 1, -maxFinite+1), []int64{0, 2}, nil, limit, []int64{maxFinite, 0, -maxFinite + 1}},
		{ends(-maxFinite, 1, maxFinite-1), []int64{0, 2}, nil, limit, []int64{-maxFinite, -1, maxFinite - 1}},
		{ends(maxFinite, 1, -1), []int64{0, 2}, nil, limit, []int64{maxFinite, 499999, -1}},
		{ends(maxFinite, 1, -2), []int64{0, 2}, []impl.Corner{corner(500001, 1, 2)}, none, []int64{maxFinite, 499999, -2}},
		{ends(maxFinite, 1, 1), []int64{0, 2}, []impl.Corner{corner(999999, 2, 2)}, none, []int64{maxFinite, 500000, 1}},
		{ends(maxFinite, 9, -maxFinite), []int64{0, 10}, []impl.Corner{corner(200000, 1, 10)}, none, curve(11, func(i int64) int64 { return maxFinite - 200000*i })},
		{ends(maxFinite, 10, -maxFinite), []int64{0, 11}, nil, limit, curve(maxTerms, func(i int64) int64 { return floorOf(11*maxFinite-2*maxFinite*i, 11) })},
		// Only the first, the middle or the last corner is no valid ratio.
		{[]int64{-1, maxFinite, 0}, []int64{0, 1, 2}, nil, limit, []int64{-1, maxFinite, 0}},
		{[]int64{0, maxFinite, -1}, []int64{0, 1, 2}, nil, limit, []int64{0, maxFinite, -1}},
		{[]int64{0, maxFinite, 0}, []int64{0, 1, 2}, []impl.Corner{corner(-maxFinite, 1, 1), corner(maxFinite, 1, 1)}, none, []int64{0, maxFinite, 0}},
		{[]int64{-500000, -100000, bottom, bottom, 900001, 900001}, []int64{0, 1, 4, 5}, nil, limit, []int64{-500000, -100000, 233333, 566667, 900001, 900001}},
		{[]int64{-500000, -100000, bottom, bottom, 899999, 899999}, []int64{0, 1, 4, 5}, []impl.Corner{corner(-400000, 1, 1), corner(-333333, 1, 3), corner(0, 1, 1)}, none, []int64{-500000, -100000, 233333, 566666, 899999, 899999}},
		{[]int64{9, -maxFinite, 3, maxFinite, -7}, []int64{0, 3, 4}, nil, limit, []int64{9, 333339, 666669, maxFinite, -7}},
		// A corner between terms that are not essential is none.
		{[]int64{0, -maxFinite, maxFinite}, []int64{0, 2}, []impl.Corner{corner(-500000, 1, 2)}, none, []int64{0, 500000, maxFinite}},
		{[]int64{maxFinite, -maxFinite, 0}, []int64{0, 2}, []impl.Corner{corner(500000, 1, 2)}, none, []int64{maxFinite, 500000, 0}},
	}
	for _, want := range cases {
		checkPolynomial(t, want)
	}
}

func TestP09PolynomialsFollowTheDefinition(t *testing.T) {
	codes, counts, lengths := map[int64]int{}, map[int64]int{}, map[int64]int{}
	eachPolynomial(newRandom(93), 40, func(c []int64) {
		want := plainPolynomial(c)
		checkPolynomial(t, want)
		codes[want.cornersCode]++
		counts[int64(len(want.terms))]++
		for _, one := range want.corners {
			lengths[one.Times]++
		}
	})
	checkVaried(t, codes, map[int64]int{impl.ErrNone: 5000, impl.ErrLimit: 300})
	checkVaried(t, counts, map[int64]int{1: 1000, 2: 1000, 3: 1000, 5: 500, 8: 200, 11: 30, 12: 10})
	checkVaried(t, lengths, map[int64]int{1: 5000, 2: 3000, 3: 1000, 6: 300, 11: 20})
}

// checkSame checks two polynomials in both orders.
func checkSame(t *testing.T, c, d []int64, want bool) {
	t.Helper()
	is, code := impl.SameFunction(c, d)
	checkAnswer(t, fmt.Sprint("SameFunction of ", c, " and ", d), is, code, want, impl.ErrNone)
	is, code = impl.SameFunction(d, c)
	checkAnswer(t, fmt.Sprint("SameFunction of ", d, " and ", c), is, code, want, impl.ErrNone)
}

func TestP09SameFunction(t *testing.T) {
	c := []int64{4, 0, 2}
	long := curve(maxTerms, func(i int64) int64 { return i * i })
	cases := []struct {
		c, d []int64
		want bool
	}{
		{c, c, true},
		{c, []int64{4, 3, 2}, true},
		{c, []int64{4, bottom, 2}, true},
		{c, []int64{4, -maxFinite, 2}, true},
		{c, []int64{4, 0, 2, bottom}, true},
		{c, []int64{4, 1, 2, bottom, bottom}, true},
		{c, []int64{4, 4, 2}, false},
		{c, []int64{4, 0, 3}, false},
		{c, []int64{5, 0, 2}, false},
		{c, []int64{5, 1, 3}, false},
		{c, []int64{bottom, 4, 0, 2}, false},
		{c, []int64{4}, false},
		{c, []int64{4, 0, 2, -9}, false},
		{c, []int64{4, 0, 2, -maxFinite}, false},
		{c, []int64{bottom, bottom, 2}, false},
		{[]int64{0}, []int64{0}, true},
		{[]int64{0}, []int64{1}, false},
		{[]int64{0}, []int64{0, bottom}, true},
		{[]int64{0}, []int64{bottom, 0}, false},
		{[]int64{0}, []int64{0, 0}, false},
		{[]int64{0, 0}, []int64{0, 0, 0}, false},
		{[]int64{0, 0}, []int64{0, 0, bottom}, true},
		{[]int64{0, 0}, []int64{bottom, 0, 0}, false},
		// The same coefficients of essential terms, but for one: the first, a middle or the last one.
		{[]int64{0, 9, 8, 0}, []int64{1, 9, 8, 0}, false},
		{[]int64{0, 9, 8, 0}, []int64{0, 8, 8, 0}, false},
		{[]int64{0, 9, 8, 0}, []int64{0, 9, 9, 0}, false},
		{[]int64{0, 9, 8, 0}, []int64{0, 9, 8, -1}, false},
		{[]int64{0, 9, 8, 0}, []int64{0, 9, 8, 0, bottom}, true},
		// As many terms as there can be.
		{long, ends(0, maxTerms-2, 121), true},
		{long, ends(0, maxTerms-2, 120), false},
		{long, ends(1, maxTerms-2, 121), false},
		{long, slices.Concat(long[:5], []int64{56}, long[6:]), false},
		{long, slices.Concat(long[:5], []int64{55}, long[6:]), true},
		{append([]int64{3}, bottoms(maxTerms-1)...), []int64{3}, true},
		{append(bottoms(maxTerms-1), 3), []int64{3}, false},
	}
	for _, x := range cases {
		checkSame(t, x.c, x.d, x.want)
	}
}

// nearPolynomials are polynomials that mostly have the same values as c, or almost the same.
func nearPolynomials(random *rand.Rand, c []int64) [][]int64 {
	list := [][]int64{plainFull(c)}
	for range 6 {
		d := slices.Clone(c)
		i := random.IntN(len(d))
		d[i] = []int64{bottom, c[i] - 1, c[i] + 1, -maxFinite, plainFull(c)[i], plainFull(c)[i] + 1}[random.IntN(6)]
		if impl.IsPolynomial(d) {
			list = append(list, d)
		}
	}
	if len(c) < maxTerms {
		list = append(list, append(slices.Clone(c), bottom), append(slices.Clone(c), -maxFinite), append([]int64{bottom}, c...))
	}
	return list
}

func TestP09SameFunctionsFollowTheDefinition(t *testing.T) {
	random := newRandom(94)
	same := map[int64]int{}
	check := func(c, d []int64) {
		want := plainSame(c, d)
		checkSame(t, c, d, want)
		if want {
			same[1]++
		} else {
			same[0]++
		}
	}
	eachPolynomial(random, 3, func(c []int64) {
		for _, d := range nearPolynomials(random, c) {
			check(c, d)
		}
	})
	lists(3, 3, func(indices []int64) {
		lists(3, 2, func(others []int64) { check(indices, others) })
		lists(3, 3, func(others []int64) { check(indices, others) })
	})
	checkVaried(t, same, map[int64]int{0: 1000, 1: 1000})
}

// TestP09FullIsTheGreatest raises the coefficients of full polynomials one by one: that changes the
// value somewhere.
func TestP09FullIsTheGreatest(t *testing.T) {
	eachPolynomial(newRandom(95), 2, func(c []int64) {
		full, code := impl.FullPolynomial(c)
		if code != impl.ErrNone || !slices.Equal(plainMax(c, full), full) {
			t.Errorf("FullPolynomial(%v) = %v, %d", c, full, code)
		}
		again, code := impl.FullPolynomial(full)
		checkList(t, "FullPolynomial of a full one", again, code, full, impl.ErrNone)
		for n := range full {
			d := slices.Clone(full)
			d[n] = max(d[n]+1, -maxFinite)
			if d[n] <= maxFinite {
				checkSame(t, c, d, false)
			}
		}
	})
}

// mergedCorners are the corners of both lists in order, those at the same place as one.
func mergedCorners(list, other []impl.Corner) []impl.Corner {
	all := slices.Concat(list, other)
	slices.SortFunc(all, func(one, two impl.Corner) int {
		return big.NewRat(one.At.Num, one.At.Den).Cmp(big.NewRat(two.At.Num, two.At.Den))
	})
	var merged []impl.Corner
	for _, one := range all {
		if last := len(merged) - 1; last >= 0 && merged[last].At == one.At {
			merged[last].Times += one.Times
		} else {
			merged = append(merged, one)
		}
	}
	return merged
}

func TestP09CornersOfProducts(t *testing.T) {
	c, d := []int64{4, 0, 2}, []int64{1, 5, 6, 3}
	cases := []struct {
		c, d []int64
		want []impl.Corner
	}{
		{c, d, []impl.Corner{corner(-4, 1, 1), corner(-1, 1, 1), corner(1, 1, 2), corner(3, 1, 1)}},
		{c, c, []impl.Corner{corner(1, 1, 4)}},
		{c, []int64{7}, []impl.Corner{corner(1, 1, 2)}},
		{[]int64{bottom, -7, bottom}, d, []impl.Corner{corner(-4, 1, 1), corner(-1, 1, 1), corner(3, 1, 1)}},
		{[]int64{5}, []int64{bottom, 8}, nil},
		{[]int64{0, 0}, ends(3, 1, 3), []impl.Corner{corner(0, 1, 3)}},
		{[]int64{0, 0}, []int64{3, bottom, 5, 5}, []impl.Corner{corner(-1, 1, 2), corner(0, 1, 2)}},
		{ends(0, 1, 3), ends(0, 2, 2), []impl.Corner{corner(-3, 2, 2), corner(-2, 3, 3)}},
		{ends(0, 1, -3), ends(0, 3, -6), []impl.Corner{corner(3, 2, 6)}},
		{ends(0, 4, 1), ends(0, 5, 1), []impl.Corner{corner(-1, 5, 5), corner(-1, 6, 6)}},
		{[]int64{0, 1000, 2000}, []int64{5, -maxFinite + 1005}, []impl.Corner{corner(-1000, 1, 2), corner(maxFinite-1000, 1, 1)}},
	}
	for _, x := range cases {
		checkProductCorners(t, x.c, x.d, x.want, impl.ErrNone)
	}
}

func checkProductCorners(t *testing.T, c, d []int64, want []impl.Corner, wantCode int64) {
	t.Helper()
	product, code := impl.MultiplyPolynomials(c, d)
	if code != impl.ErrNone {
		t.Errorf("MultiplyPolynomials(%v, %v): code %d", c, d, code)
		return
	}
	corners, code := impl.CornersOf(product)
	checkCorners(t, fmt.Sprint("CornersOf of the product of ", c, " and ", d), corners, code, want, wantCode)
}

// TestP09Guarantee is the promise: corners of a product are those of its factors. A corner that is no
// valid ratio is one of the product as well.
func TestP09Guarantee(t *testing.T) {
	codes, joined := map[int64]int{}, 0
	eachTwo(newRandom(96), maxTerms+1, func(c, d []int64) {
		if values, _ := valuesOf(plainConvolution(c, d)); values == nil {
			return
		}
		corners, code := impl.CornersOf(c)
		others, otherCode := impl.CornersOf(d)
		want, wantCode := mergedCorners(corners, others), max(code, otherCode)
		if wantCode != impl.ErrNone {
			want = nil
		}
		checkProductCorners(t, c, d, want, wantCode)
		codes[wantCode]++
		if len(want) < len(corners)+len(others) {
			joined++
		}
	})
	checkVaried(t, codes, map[int64]int{impl.ErrNone: 3000, impl.ErrLimit: 50})
	if joined < 500 {
		t.Errorf("only %d products have a corner that is one of both factors", joined)
	}
}

// TestP09ValuesOfSumsAndProducts is the rest of the guarantee: the value of a sum is the greater
// value, and that of a product the sum of the values.
func TestP09ValuesOfSumsAndProducts(t *testing.T) {
	random := newRandom(97)
	codes := map[int64]int{}
	eachTwo(random, maxTerms+1, func(c, d []int64) {
		sum, _ := impl.AddPolynomials(c, d)
		product, productCode := impl.MultiplyPolynomials(c, d)
		for _, x := range append(someNumbers(random, d), bottom) {
			one, code := impl.EvaluatePolynomial(c, x)
			two, otherCode := impl.EvaluatePolynomial(d, x)
			if code != impl.ErrNone || otherCode != impl.ErrNone {
				continue
			}
			v, code := impl.EvaluatePolynomial(sum, x)
			checkNumber(t, "EvaluatePolynomial of a sum", v, code, max(one, two), impl.ErrNone)
			if productCode == impl.ErrNone {
				want, wantCode := impl.ProductOf(one, two)
				v, code = impl.EvaluatePolynomial(product, x)
				checkNumber(t, "EvaluatePolynomial of a product", v, code, want, wantCode)
				codes[code]++
			}
		}
	})
	checkVaried(t, codes, map[int64]int{impl.ErrNone: 10000, impl.ErrLimit: 100})
}

// checkNoPolynomial gives an argument for which all functions return the same error.
func checkNoPolynomial(t *testing.T, c []int64) {
	t.Helper()
	for name, call := range map[string]func(c []int64) ([]int64, int64){"EssentialTerms": impl.EssentialTerms, "FullPolynomial": impl.FullPolynomial} {
		list, code := call(c)
		checkList(t, fmt.Sprint(name, " of ", c), list, code, nil, impl.ErrInvalid)
	}
	corners, code := impl.CornersOf(c)
	checkCorners(t, fmt.Sprint("CornersOf of ", c), corners, code, nil, impl.ErrInvalid)
	for _, x := range append(edgeValues(), notValues()...) {
		v, code := impl.EvaluatePolynomial(c, x)
		checkNumber(t, fmt.Sprint("EvaluatePolynomial of ", c), v, code, 0, impl.ErrInvalid)
	}
}

func checkNoPair(t *testing.T, c, d []int64) {
	t.Helper()
	what := fmt.Sprint(" of ", c, " and ", d)
	for name, call := range map[string]func(c, d []int64) ([]int64, int64){"AddPolynomials": impl.AddPolynomials, "MultiplyPolynomials": impl.MultiplyPolynomials} {
		list, code := call(c, d)
		checkList(t, name+what, list, code, nil, impl.ErrInvalid)
	}
	is, code := impl.SameFunction(c, d)
	checkAnswer(t, "SameFunction"+what, is, code, false, impl.ErrInvalid)
}

// TestP09InvalidArguments gives invalid arguments together with all that is checked after them.
func TestP09InvalidArguments(t *testing.T) {
	good := [][]int64{{0}, {maxFinite}, {bottom, 4, bottom}, make([]int64, maxTerms), slices.Repeat([]int64{maxFinite}, maxTerms)}
	for _, bad := range notPolynomials() {
		checkNoPolynomial(t, bad)
		for _, other := range append(notPolynomials(), good...) {
			checkNoPair(t, bad, other)
			checkNoPair(t, other, bad)
		}
	}
	// An x that is no value is told before a value that would be none.
	for _, c := range good {
		for _, bad := range notValues() {
			v, code := impl.EvaluatePolynomial(c, bad)
			checkNumber(t, fmt.Sprint("EvaluatePolynomial of ", c, " at ", bad), v, code, 0, impl.ErrRange)
		}
	}
}

// rowsOfCorners lets checkCalls look at CornersOf.
func rowsOfCorners(rows [][]int64) ([][]int64, int64) {
	corners, code := impl.CornersOf(rows[0])
	list := [][]int64{{int64(len(corners))}}
	for _, one := range corners {
		list = append(list, []int64{one.At.Num, one.At.Den, one.Times})
	}
	return list, code
}

func TestP09ResultsShareNoMemory(t *testing.T) {
	ofOne := func(call func(c []int64) ([]int64, int64)) func(rows [][]int64) ([][]int64, int64) {
		return oneRow(func(rows [][]int64) ([]int64, int64) { return call(rows[0]) })
	}
	ofBoth := func(call func(c, d []int64) ([]int64, int64)) func(rows [][]int64) ([][]int64, int64) {
		return oneRow(func(rows [][]int64) ([]int64, int64) { return call(rows[0], rows[len(rows)-1]) })
	}
	calls := map[string]func(rows [][]int64) ([][]int64, int64){
		"EvaluatePolynomial":  numbers(func(rows [][]int64) (int64, int64) { return impl.EvaluatePolynomial(rows[0], 3) }),
		"AddPolynomials":      ofBoth(impl.AddPolynomials),
		"MultiplyPolynomials": ofBoth(impl.MultiplyPolynomials),
		"EssentialTerms":      ofOne(impl.EssentialTerms),
		"CornersOf":           rowsOfCorners,
		"FullPolynomial":      ofOne(impl.FullPolynomial),
		"IsPolynomial":        answers(func(rows [][]int64) bool { return impl.IsPolynomial(rows[0]) }),
	}
	// In most of them a result has the same numbers as an argument, and in the first one none has.
	for _, before := range [][][]int64{
		{{4, 0, 2, bottom, -9}, {1, 5, 6}},
		{{1, 5, 6, 3}, {0}},
		{{0, 5, 6, 3}, {0, bottom}},
		{{0}, {1, 5, 6, 3}},
		{{0, bottom}, {1, 5, 6, 3}},
		{{9, 0}, {8, -1, -3, -7}},
		{{0, 1}},
		{{0, 0}, {bottom, 1, bottom}},
	} {
		checkCalls(t, calls, before)
	}
	same := map[string]func(rows [][]int64) ([][]int64, int64){
		"SameFunction": answers(func(rows [][]int64) bool {
			is, code := impl.SameFunction(rows[0], rows[1])
			return is && code == impl.ErrNone
		}),
	}
	checkCalls(t, same, [][]int64{{4, 0, 2}, {4, 3, 2, bottom}})
	checkCalls(t, same, [][]int64{{4, 3, 2, bottom}, {4, 0, 2}})
}
