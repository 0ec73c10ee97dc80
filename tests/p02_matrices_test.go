package tests

import (
	"math"
	"math/rand/v2"
	"regexp"
	"slices"
	"strconv"
	"strings"
	"testing"

	"loop.example/g00941/impl"
)

const maxSize = 10

// filled returns a matrix of any size, also of one that is not allowed.
func filled(m, n int, entry int64) [][]int64 {
	a := make([][]int64, m)
	for i := range a {
		a[i] = slices.Repeat([]int64{entry}, n)
	}
	return a
}

func unitOf(n int) [][]int64 {
	a := filled(n, n, bottom)
	for i := range a {
		a[i][i] = 0
	}
	return a
}

func cloneRows(a [][]int64) [][]int64 {
	b := slices.Clone(a)
	for i := range b {
		b[i] = slices.Clone(b[i])
	}
	return b
}

func equalRows(a, b [][]int64) bool {
	return slices.EqualFunc(a, b, func(x, y []int64) bool { return slices.Equal(x, y) })
}

// with returns a copy of a in which one entry is changed.
func with(a [][]int64, i, j int, entry int64) [][]int64 {
	b := cloneRows(a)
	b[i][j] = entry
	return b
}

// randomMatrix has entries in -limit..limit and, as every third one or so, Bottom.
func randomMatrix(random *rand.Rand, m, n int, limit int64) [][]int64 {
	a := filled(m, n, bottom)
	for i := range a {
		for j := range a[i] {
			if random.IntN(3) > 0 {
				a[i][j] = random.Int64N(2*limit+1) - limit
			}
		}
	}
	return a
}

// edgeMatrix has entries that are edge values.
func edgeMatrix(random *rand.Rand, m, n int) [][]int64 {
	values := edgeValues()
	a := filled(m, n, bottom)
	for i := range a {
		for j := range a[i] {
			a[i][j] = values[random.IntN(len(values))]
		}
	}
	return a
}

func newRandom(seed uint64) *rand.Rand { return rand.New(rand.NewPCG(seed, 2)) }

// plainProduct multiplies by the definition. Its second result is false if an entry is no value.
func plainProduct(a, b [][]int64) ([][]int64, bool) {
	c := filled(len(a), len(b[0]), bottom)
	allValues := true
	for i := range c {
		for j := range c[i] {
			for k := range b {
				if a[i][k] != bottom && b[k][j] != bottom {
					c[i][j] = max(c[i][j], a[i][k]+b[k][j])
				}
			}
			allValues = allValues && (c[i][j] == bottom || isFiniteNumber(c[i][j]))
		}
	}
	return c, allValues
}

func plainSum(a, b [][]int64) [][]int64 {
	c := cloneRows(a)
	for i := range c {
		for j := range c[i] {
			c[i][j] = max(c[i][j], b[i][j])
		}
	}
	return c
}

// notMatrices are arguments that a careless check could take for matrices.
func notMatrices() [][][]int64 {
	list := [][][]int64{
		nil, {}, {nil}, {{}}, {{}, {}}, {nil, nil}, {{1}, nil}, {nil, {1}}, {{1}, {}}, {{}, {1}},
		{{1}, {1, 2}}, {{1, 2}, {1}}, {{1, 2}, {1, 2}, {1}}, {{1, 2}, {1, 2, 3}, {1, 2}}, {{1, 2, 3}, {1, 2}, {1}},
		filled(maxSize+1, 1, 0), filled(1, maxSize+1, 0), filled(maxSize+1, maxSize+1, 0), filled(maxSize, maxSize+1, 0), filled(maxSize+1, maxSize, 0),
		filled(maxSize+1, 0, 0), filled(maxSize, 0, 0), filled(300, 300, 0),
		slices.Insert(filled(9, 10, 0), 9, slices.Repeat([]int64{0}, 11)),
		slices.Insert(filled(9, 10, 0), 9, slices.Repeat([]int64{0}, 9)),
	}
	for _, bad := range notValues() {
		list = append(list, [][]int64{{bad}}, [][]int64{{bad, 0}, {0, 0}}, [][]int64{{0, 0}, {0, bad}}, [][]int64{{0, bottom, bad}}, with(filled(maxSize, maxSize, bottom), 9, 9, bad))
	}
	return list
}

// notVectors are the same for vectors.
func notVectors() [][]int64 {
	list := [][]int64{nil, {}, slices.Repeat([]int64{0}, maxSize+1), slices.Repeat([]int64{0}, 300)}
	for _, bad := range notValues() {
		list = append(list, []int64{bad}, []int64{bad, 0}, []int64{0, bad}, []int64{0, bottom, bad}, []int64{0, bad, 0})
	}
	return list
}

func checkMatrix(t *testing.T, what string, a [][]int64, code int64, want [][]int64, wantCode int64) {
	t.Helper()
	if code != wantCode || !equalRows(a, want) || code != impl.ErrNone && len(a) != 0 {
		t.Errorf("%s = %v, %d, want %v, %d", what, a, code, want, wantCode)
	}
}

func TestP02Constants(t *testing.T) {
	if impl.MaxSize != 10 || impl.MaxPower != 100 {
		t.Errorf("limits are %d and %d", impl.MaxSize, impl.MaxPower)
	}
}

func TestP02IsMatrix(t *testing.T) {
	for m := 1; m <= maxSize; m++ {
		for n := 1; n <= maxSize; n++ {
			for _, entry := range edgeValues() {
				if !impl.IsMatrix(filled(m, n, entry)) {
					t.Errorf("IsMatrix of %d rows and %d columns with %d = false", m, n, entry)
				}
			}
		}
	}
	for _, a := range notMatrices() {
		if impl.IsMatrix(a) {
			t.Errorf("IsMatrix(%.200v) = true", a)
		}
	}
}

// Each entry and each row counts, wherever it is.
func TestP02IsMatrixLooksEverywhere(t *testing.T) {
	good := edgeMatrix(newRandom(1), 7, 9)
	for i := range good {
		for j := range good[i] {
			if impl.IsMatrix(with(good, i, j, maxFinite+1)) || impl.IsMatrix(with(good, i, j, bottom+1)) {
				t.Errorf("IsMatrix with a wrong entry at %d and %d = true", i, j)
			}
		}
		for _, row := range [][]int64{nil, good[i][:8], append(slices.Clone(good[i]), 0)} {
			a := cloneRows(good)
			a[i] = row
			if impl.IsMatrix(a) {
				t.Errorf("IsMatrix with %d entries in row %d = true", len(row), i)
			}
		}
	}
}

func TestP02UnitAndBottom(t *testing.T) {
	for n := 1; n <= maxSize; n++ {
		a, code := impl.UnitMatrix(int64(n))
		checkMatrix(t, "UnitMatrix", a, code, unitOf(n), impl.ErrNone)
		for m := 1; m <= maxSize; m++ {
			a, code := impl.BottomMatrix(int64(m), int64(n))
			checkMatrix(t, "BottomMatrix", a, code, filled(m, n, bottom), impl.ErrNone)
		}
	}
	for _, n := range []int64{math.MinInt64, bottom, -1, 0, maxSize + 1, 1 << 32, 1<<32 + 1, math.MaxInt64} {
		a, code := impl.UnitMatrix(n)
		checkMatrix(t, "UnitMatrix of a wrong size", a, code, nil, impl.ErrRange)
		for _, m := range []int64{1, maxSize, n} {
			a, code := impl.BottomMatrix(m, n)
			checkMatrix(t, "BottomMatrix of wrong columns", a, code, nil, impl.ErrRange)
			a, code = impl.BottomMatrix(n, m)
			checkMatrix(t, "BottomMatrix of wrong rows", a, code, nil, impl.ErrRange)
		}
	}
}

func TestP02AddMatrices(t *testing.T) {
	cases := []struct{ a, b, want [][]int64 }{
		{[][]int64{{1, bottom}, {3, 0}}, [][]int64{{2, 5}, {bottom, -1}}, [][]int64{{2, 5}, {3, 0}}},
		{[][]int64{{bottom}}, [][]int64{{bottom}}, [][]int64{{bottom}}},
		{[][]int64{{maxFinite, -maxFinite}}, [][]int64{{maxFinite, bottom}}, [][]int64{{maxFinite, -maxFinite}}},
		{[][]int64{{-1}, {-2}, {-3}}, [][]int64{{-3}, {-2}, {-1}}, [][]int64{{-1}, {-2}, {-1}}},
	}
	for _, c := range cases {
		a, code := impl.AddMatrices(c.a, c.b)
		checkMatrix(t, "AddMatrices", a, code, c.want, impl.ErrNone)
		a, code = impl.AddMatrices(c.b, c.a)
		checkMatrix(t, "AddMatrices exchanged", a, code, c.want, impl.ErrNone)
	}
	random := newRandom(2)
	for m := 1; m <= maxSize; m++ {
		for n := 1; n <= maxSize; n++ {
			a, b := edgeMatrix(random, m, n), edgeMatrix(random, m, n)
			sum, code := impl.AddMatrices(a, b)
			checkMatrix(t, "AddMatrices", sum, code, plainSum(a, b), impl.ErrNone)
		}
	}
}

func TestP02MultiplyMatrices(t *testing.T) {
	cases := []struct{ a, b, want [][]int64 }{
		{[][]int64{{1, bottom}, {3, 0}}, [][]int64{{2, 5}, {bottom, -1}}, [][]int64{{3, 6}, {5, 8}}},
		{[][]int64{{2, 5}, {bottom, -1}}, [][]int64{{1, bottom}, {3, 0}}, [][]int64{{8, 5}, {2, -1}}},
		{[][]int64{{1, 2, 3}}, [][]int64{{4}, {bottom}, {-6}}, [][]int64{{5}}},
		{[][]int64{{4}, {bottom}, {-6}}, [][]int64{{1, 2, 3}}, [][]int64{{5, 6, 7}, {bottom, bottom, bottom}, {-5, -4, -3}}},
		{[][]int64{{bottom, 7}}, [][]int64{{7}, {bottom}}, [][]int64{{bottom}}},
		{[][]int64{{bottom}}, [][]int64{{maxFinite}}, [][]int64{{bottom}}},
		{[][]int64{{500000}}, [][]int64{{500000}}, [][]int64{{maxFinite}}},
		{[][]int64{{-500000}}, [][]int64{{-500000}}, [][]int64{{-maxFinite}}},
		{[][]int64{{maxFinite}}, [][]int64{{-maxFinite}}, [][]int64{{0}}},
		// A product that is no value is added to a greater one that is.
		{[][]int64{{-maxFinite, 0}}, [][]int64{{-1}, {5}}, [][]int64{{5}}},
		{[][]int64{{0, -maxFinite}}, [][]int64{{-maxFinite}, {-maxFinite}}, [][]int64{{-maxFinite}}},
	}
	for _, c := range cases {
		a, code := impl.MultiplyMatrices(c.a, c.b)
		checkMatrix(t, "MultiplyMatrices", a, code, c.want, impl.ErrNone)
	}
	beyond := []struct{ a, b [][]int64 }{
		{[][]int64{{500000}}, [][]int64{{500001}}},
		{[][]int64{{-500000}}, [][]int64{{-500001}}},
		{[][]int64{{maxFinite}}, [][]int64{{maxFinite}}},
		{[][]int64{{-maxFinite}}, [][]int64{{-maxFinite}}},
		{[][]int64{{-maxFinite, bottom}}, [][]int64{{-1}, {0}}},
		{[][]int64{{0, maxFinite}}, [][]int64{{0}, {1}}},
		{[][]int64{{0, bottom}, {bottom, maxFinite}}, [][]int64{{0, 0}, {0, 1}}},
		{filled(maxSize, maxSize, maxFinite), filled(maxSize, maxSize, 1)},
	}
	for _, c := range beyond {
		a, code := impl.MultiplyMatrices(c.a, c.b)
		checkMatrix(t, "MultiplyMatrices beyond the limit", a, code, nil, impl.ErrLimit)
	}
}

func TestP02ProductsFollowTheDefinition(t *testing.T) {
	random := newRandom(3)
	for m := 1; m <= maxSize; m++ {
		for k := 1; k <= maxSize; k++ {
			for n := 1; n <= maxSize; n++ {
				checkProduct(t, randomMatrix(random, m, k, 500000), randomMatrix(random, k, n, 500000))
				checkProduct(t, edgeMatrix(random, m, k), edgeMatrix(random, k, n))
			}
		}
	}
}

func checkProduct(t *testing.T, a, b [][]int64) {
	t.Helper()
	want, wantCode := [][]int64(nil), int64(impl.ErrLimit)
	if product, ok := plainProduct(a, b); ok {
		want, wantCode = product, impl.ErrNone
	}
	product, code := impl.MultiplyMatrices(a, b)
	checkMatrix(t, "MultiplyMatrices", product, code, want, wantCode)
}

// TestP02Fits tries all pairs of sizes with sums, products and vectors.
func TestP02Fits(t *testing.T) {
	for m := 1; m <= maxSize; m++ {
		for n := 1; n <= maxSize; n++ {
			a := filled(m, n, maxFinite)
			for k := 1; k <= maxSize; k++ {
				if _, code := impl.TimesVector(a, make([]int64, k)); (code == impl.ErrNone) != (k == n) || k != n && code != impl.ErrState {
					t.Errorf("TimesVector of %d rows and %d columns and %d elements: code %d", m, n, k, code)
				}
				for l := 1; l <= maxSize; l++ {
					b := filled(k, l, maxFinite)
					sum, code := impl.AddMatrices(a, b)
					if m == k && n == l {
						checkMatrix(t, "AddMatrices", sum, code, a, impl.ErrNone)
					} else {
						checkMatrix(t, "AddMatrices of other sizes", sum, code, nil, impl.ErrState)
					}
					want := int64(impl.ErrLimit)
					if n != k {
						want = impl.ErrState
					}
					product, code := impl.MultiplyMatrices(a, b)
					checkMatrix(t, "MultiplyMatrices of great entries", product, code, nil, want)
				}
			}
		}
	}
}

// TestP02InvalidMatrices gives invalid arguments together with all that is checked after them.
func TestP02InvalidMatrices(t *testing.T) {
	others := append(notMatrices(), [][]int64{{maxFinite}}, [][]int64{{1, 2}}, [][]int64{{1}, {2}}, filled(maxSize, maxSize, bottom))
	for _, bad := range notMatrices() {
		for _, other := range others {
			for _, pair := range [][2][][]int64{{bad, other}, {other, bad}} {
				a, code := impl.AddMatrices(pair[0], pair[1])
				checkMatrix(t, "AddMatrices of no matrix", a, code, nil, impl.ErrInvalid)
				a, code = impl.MultiplyMatrices(pair[0], pair[1])
				checkMatrix(t, "MultiplyMatrices of no matrix", a, code, nil, impl.ErrInvalid)
			}
		}
		for _, n := range []int64{math.MinInt64, -1, 0, 1, 2, 100, 101, math.MaxInt64} {
			a, code := impl.PowerMatrix(bad, n)
			checkMatrix(t, "PowerMatrix of no matrix", a, code, nil, impl.ErrInvalid)
		}
		a, code := impl.TransposeMatrix(bad)
		checkMatrix(t, "TransposeMatrix of no matrix", a, code, nil, impl.ErrInvalid)
		for _, x := range append(notVectors(), []int64{0}, []int64{0, maxFinite}) {
			if y, code := impl.TimesVector(bad, x); len(y) != 0 || code != impl.ErrInvalid {
				t.Errorf("TimesVector(%.100v, %.100v) = %v, %d", bad, x, y, code)
			}
		}
		if s := impl.MatrixText(bad); s != "" {
			t.Errorf("MatrixText(%.100v) = %q", bad, s)
		}
	}
}

func TestP02PowerMatrix(t *testing.T) {
	// The arcs 0 -> 1 -> 2 -> 3 -> 0: the power 2 has a greater entry than the limit allows, the
	// power 4 is the unit.
	round := [][]int64{{bottom, bottom, bottom, -600000}, {600000, bottom, bottom, bottom}, {bottom, 600000, bottom, bottom}, {bottom, bottom, -600000, bottom}}
	rows := [][]int64{{1, 2, 3}, {4, 5, 6}}
	cases := []struct {
		a    [][]int64
		n    int64
		want [][]int64
		code int64
	}{
		{[][]int64{{1, bottom}, {3, 0}}, 2, [][]int64{{2, bottom}, {4, 0}}, impl.ErrNone},
		{[][]int64{{1, bottom}, {3, 0}}, 1, [][]int64{{1, bottom}, {3, 0}}, impl.ErrNone},
		{[][]int64{{1, bottom}, {3, 0}}, 0, unitOf(2), impl.ErrNone},
		{filled(3, 3, bottom), 0, unitOf(3), impl.ErrNone},
		{filled(3, 3, bottom), 1, filled(3, 3, bottom), impl.ErrNone},
		{filled(3, 3, bottom), 100, filled(3, 3, bottom), impl.ErrNone},
		{filled(maxSize, maxSize, maxFinite), 0, unitOf(maxSize), impl.ErrNone},
		{filled(maxSize, maxSize, maxFinite), 1, filled(maxSize, maxSize, maxFinite), impl.ErrNone},
		{filled(maxSize, maxSize, maxFinite), 2, nil, impl.ErrLimit},
		{filled(maxSize, maxSize, 10000), 100, filled(maxSize, maxSize, maxFinite), impl.ErrNone},
		{filled(maxSize, maxSize, 10001), 100, nil, impl.ErrLimit},
		{filled(maxSize, maxSize, 10001), 99, filled(maxSize, maxSize, 990099), impl.ErrNone},
		{[][]int64{{-10000}}, 100, [][]int64{{-maxFinite}}, impl.ErrNone},
		{[][]int64{{-10001}}, 100, nil, impl.ErrLimit},
		{[][]int64{{maxFinite}}, 100, nil, impl.ErrLimit},
		{[][]int64{{-maxFinite}}, 100, nil, impl.ErrLimit},
		{[][]int64{{0}}, 100, [][]int64{{0}}, impl.ErrNone},
		{[][]int64{{bottom, maxFinite}, {bottom, bottom}}, 100, filled(2, 2, bottom), impl.ErrNone},
		{[][]int64{{bottom, maxFinite}, {-maxFinite, bottom}}, 100, unitOf(2), impl.ErrNone},
		{round, 1, round, impl.ErrNone},
		{round, 2, nil, impl.ErrLimit},
		{round, 4, nil, impl.ErrLimit},
		{round, 5, nil, impl.ErrLimit},
		{[][]int64{{0}}, 101, nil, impl.ErrRange},
		{[][]int64{{0}}, -1, nil, impl.ErrRange},
		{[][]int64{{maxFinite}}, 101, nil, impl.ErrRange},
		{[][]int64{{0}}, math.MaxInt64, nil, impl.ErrRange},
		{[][]int64{{0}}, math.MinInt64, nil, impl.ErrRange},
		{[][]int64{{0}}, 1 << 32, nil, impl.ErrRange},
		{rows, 101, nil, impl.ErrRange},
		{rows, -1, nil, impl.ErrRange},
		{rows, 100, nil, impl.ErrState},
		{rows, 1, nil, impl.ErrState},
		{rows, 0, nil, impl.ErrState},
		{filled(maxSize, 9, maxFinite), 2, nil, impl.ErrState},
		{filled(9, maxSize, maxFinite), 2, nil, impl.ErrState},
	}
	for _, c := range cases {
		a, code := impl.PowerMatrix(c.a, c.n)
		checkMatrix(t, "PowerMatrix of "+impl.MatrixText(c.a)+" and "+strconv.FormatInt(c.n, 10), a, code, c.want, c.code)
	}
}

// The chain goes through all powers up to MaxPower, so that a limit that is passed once stays
// an error for all greater exponents.
func TestP02PowersAreRepeatedProducts(t *testing.T) {
	random := newRandom(4)
	for n := 1; n <= maxSize; n++ {
		for _, limit := range []int64{5, 10000, 12000, 40000, 300000} {
			a := randomMatrix(random, n, n, limit)
			want, wantCode := unitOf(n), int64(impl.ErrNone)
			for k := int64(0); k <= 100; k++ {
				power, code := impl.PowerMatrix(a, k)
				checkMatrix(t, "PowerMatrix", power, code, want, wantCode)
				if wantCode == impl.ErrNone {
					product, ok := plainProduct(want, a)
					want = product
					if !ok {
						want, wantCode = nil, impl.ErrLimit
					}
				}
			}
		}
	}
}

func TestP02TransposeMatrix(t *testing.T) {
	a, code := impl.TransposeMatrix([][]int64{{1, bottom, maxFinite}, {-maxFinite, 0, -5}})
	checkMatrix(t, "TransposeMatrix", a, code, [][]int64{{1, -maxFinite}, {bottom, 0}, {maxFinite, -5}}, impl.ErrNone)
	random := newRandom(5)
	for m := 1; m <= maxSize; m++ {
		for n := 1; n <= maxSize; n++ {
			a := edgeMatrix(random, m, n)
			b, code := impl.TransposeMatrix(a)
			if code != impl.ErrNone || len(b) != n {
				t.Fatalf("TransposeMatrix of %d rows and %d columns = %v, %d", m, n, b, code)
			}
			for i := range a {
				for j := range a[i] {
					if len(b[j]) != m || b[j][i] != a[i][j] {
						t.Errorf("TransposeMatrix(%v) = %v", a, b)
					}
				}
			}
		}
	}
}

func TestP02TimesVector(t *testing.T) {
	cases := []struct {
		a    [][]int64
		x    []int64
		want []int64
		code int64
	}{
		{[][]int64{{2, 5}, {bottom, -1}}, []int64{1, 10}, []int64{15, 9}, impl.ErrNone},
		{[][]int64{{2, 5}, {bottom, -1}}, []int64{1, bottom}, []int64{3, bottom}, impl.ErrNone},
		{[][]int64{{2, 5}, {bottom, -1}}, []int64{bottom, bottom}, []int64{bottom, bottom}, impl.ErrNone},
		{[][]int64{{1, 2, 3}}, []int64{3, 2, 2}, []int64{5}, impl.ErrNone},
		{[][]int64{{1}, {2}, {bottom}}, []int64{-3}, []int64{-2, -1, bottom}, impl.ErrNone},
		{[][]int64{{maxFinite}}, []int64{-maxFinite}, []int64{0}, impl.ErrNone},
		{[][]int64{{500000}}, []int64{500000}, []int64{maxFinite}, impl.ErrNone},
		{[][]int64{{-maxFinite, -3}}, []int64{-1, 0}, []int64{-3}, impl.ErrNone},
		{[][]int64{{500000}}, []int64{500001}, nil, impl.ErrLimit},
		{[][]int64{{-500000}}, []int64{-500001}, nil, impl.ErrLimit},
		{[][]int64{{0, 0}, {0, maxFinite}}, []int64{0, 1}, nil, impl.ErrLimit},
		{[][]int64{{maxFinite, maxFinite}}, []int64{maxFinite}, nil, impl.ErrState},
		{[][]int64{{maxFinite}, {maxFinite}}, []int64{maxFinite, maxFinite}, nil, impl.ErrState},
	}
	for _, c := range cases {
		if y, code := impl.TimesVector(c.a, c.x); !slices.Equal(y, c.want) || code != c.code {
			t.Errorf("TimesVector(%v, %v) = %v, %d, want %v, %d", c.a, c.x, y, code, c.want, c.code)
		}
	}
	for _, bad := range notVectors() {
		for _, a := range [][][]int64{{{1}}, {{1, 2}}, {{1, 2, 3}}, filled(maxSize, maxSize, maxFinite)} {
			if y, code := impl.TimesVector(a, bad); len(y) != 0 || code != impl.ErrInvalid {
				t.Errorf("TimesVector(%v, %.100v) = %v, %d", a, bad, y, code)
			}
		}
	}
}

func TestP02VectorsAreColumns(t *testing.T) {
	random := newRandom(6)
	for m := 1; m <= maxSize; m++ {
		for n := 1; n <= maxSize; n++ {
			for range 5 {
				a, column := randomMatrix(random, m, n, 700000), randomMatrix(random, n, 1, 700000)
				x := make([]int64, n)
				for i := range x {
					x[i] = column[i][0]
				}
				want, wantCode := []int64(nil), int64(impl.ErrLimit)
				if product, ok := plainProduct(a, column); ok {
					wantCode = impl.ErrNone
					for _, row := range product {
						want = append(want, row[0])
					}
				}
				if y, code := impl.TimesVector(a, x); !slices.Equal(y, want) || code != wantCode {
					t.Errorf("TimesVector(%v, %v) = %v, %d, want %v, %d", a, x, y, code, want, wantCode)
				}
			}
		}
	}
}

// must returns a result without an error.
func must(t *testing.T) func([][]int64, int64) [][]int64 {
	return func(a [][]int64, code int64) [][]int64 {
		t.Helper()
		if code != impl.ErrNone {
			t.Fatalf("code %d", code)
		}
		return a
	}
}

func TestP02Laws(t *testing.T) {
	random := newRandom(7)
	size := func() int { return 1 + random.IntN(maxSize) }
	for range 2000 {
		l, m, n, o := size(), size(), size(), size()
		a, b, c := randomMatrix(random, l, m, 300000), randomMatrix(random, m, n, 300000), randomMatrix(random, n, o, 300000)
		d := randomMatrix(random, m, n, 300000)
		checkLaws(t, a, b, c, d)
	}
}

// checkLaws expects entries so small that no product exceeds a limit; b and d have one size.
func checkLaws(t *testing.T, a, b, c, d [][]int64) {
	t.Helper()
	ok, times, plus := must(t), impl.MultiplyMatrices, impl.AddMatrices
	laws := []struct {
		name        string
		left, right [][]int64
	}{
		{"association", ok(times(ok(times(a, b)), c)), ok(times(a, ok(times(b, c))))},
		{"distribution from the left", ok(times(a, ok(plus(b, d)))), ok(plus(ok(times(a, b)), ok(times(a, d))))},
		{"distribution from the right", ok(times(ok(plus(b, d)), c)), ok(plus(ok(times(b, c)), ok(times(d, c))))},
		{"the unit from the left", ok(times(ok(impl.UnitMatrix(int64(len(b)))), b)), b},
		{"the unit from the right", ok(times(b, ok(impl.UnitMatrix(int64(len(b[0])))))), b},
		{"the bottom as a summand", ok(plus(b, ok(impl.BottomMatrix(int64(len(b)), int64(len(b[0])))))), b},
		{"the bottom as a factor", ok(times(a, filled(len(b), 1, bottom))), filled(len(a), 1, bottom)},
		{"transposition of a product", ok(impl.TransposeMatrix(ok(times(a, b)))), ok(times(ok(impl.TransposeMatrix(b)), ok(impl.TransposeMatrix(a))))},
		{"transposition twice", ok(impl.TransposeMatrix(ok(impl.TransposeMatrix(a)))), a},
	}
	for _, law := range laws {
		if !equalRows(law.left, law.right) {
			t.Errorf("%s does not hold for %v, %v, %v, %v: %v and %v", law.name, a, b, c, d, law.left, law.right)
		}
	}
}

// Where a limit is exceeded on one side only, the law says nothing; the edges still have to agree
// on all else.
func TestP02LawsAtTheEdges(t *testing.T) {
	random := newRandom(8)
	told := 0
	for range 20000 {
		m, n := 1+random.IntN(2), 1+random.IntN(2)
		a, b, c := edgeMatrix(random, 1, m), edgeMatrix(random, m, n), edgeMatrix(random, n, 1)
		ab, one := impl.MultiplyMatrices(a, b)
		bc, two := impl.MultiplyMatrices(b, c)
		if one != impl.ErrNone || two != impl.ErrNone {
			continue
		}
		left, one := impl.MultiplyMatrices(ab, c)
		right, two := impl.MultiplyMatrices(a, bc)
		if one != two || !equalRows(left, right) {
			t.Errorf("association does not hold for %v, %v, %v: %v, %d and %v, %d", a, b, c, left, one, right, two)
		}
		if one == impl.ErrNone {
			told++
		}
	}
	if told < 1000 {
		t.Errorf("only %d products were told", told)
	}
}

func TestP02TextsOfMatrices(t *testing.T) {
	cases := []struct {
		a    [][]int64
		text string
	}{
		{unitOf(2), "0,.;.,0"},
		{[][]int64{{0}}, "0"},
		{[][]int64{{bottom}}, "."},
		{[][]int64{{1, 2}}, "1,2"},
		{[][]int64{{1}, {2}}, "1;2"},
		{[][]int64{{-maxFinite, maxFinite, -1}, {bottom, 10, 100}}, "-1000000,1000000,-1;.,10,100"},
		{filled(maxSize, maxSize, -maxFinite), strings.Repeat(strings.Repeat(",-1000000", 10)[1:]+";", 9) + strings.Repeat(",-1000000", 10)[1:]},
		{filled(1, maxSize, 7), "7,7,7,7,7,7,7,7,7,7"},
		{filled(maxSize, 1, 7), "7;7;7;7;7;7;7;7;7;7"},
	}
	for _, c := range cases {
		if s := impl.MatrixText(c.a); s != c.text {
			t.Errorf("MatrixText(%v) = %q, want %q", c.a, s, c.text)
		}
		if a, ok := impl.ReadMatrix(c.text); !equalRows(a, c.a) || !ok {
			t.Errorf("ReadMatrix(%q) = %v, %v, want %v", c.text, a, ok, c.a)
		}
	}
}

func TestP02MatricesAreRecoveredFromTexts(t *testing.T) {
	random := newRandom(9)
	for m := 1; m <= maxSize; m++ {
		for n := 1; n <= maxSize; n++ {
			for _, a := range [][][]int64{edgeMatrix(random, m, n), randomMatrix(random, m, n, maxFinite), filled(m, n, bottom)} {
				s := impl.MatrixText(a)
				if b, ok := impl.ReadMatrix(s); !equalRows(a, b) || !ok {
					t.Errorf("ReadMatrix(%q) = %v, %v, want %v", s, b, ok, a)
				}
			}
		}
	}
}

func TestP02NotTexts(t *testing.T) {
	texts := []string{
		"", ",", ";", ",;,", "1,", ",1", "1;", ";1", "1,,2", "1;;2", "1,2;", ";1,2", "1,2;3", "1;2,3", "1,2;3,4,5", "1,2;3,4;5", "1,2;,3", "1,2;3,", "1,2;;3,4", "1,2;3,4;",
		"1, 2", "1 ,2", " 1,2", "1,2 ", "1; 2", "1 ;2", "1,2\n", "1\n2", "1,2;\n3,4", "1\t,2", "1,2;3,4 ", "1 2",
		"01,2", "1,02", "00", "1,00;2,3", "-0", "1,-0", "+1", "1,+2", "+0,1", "1,-", "-,1", "--1,2", "1,-01",
		"..", ".,..", "1,.0", "1..2", ".;..", "1.", "0.0", "1e3,2", "0x1,2", "a", "1,a", "1,Bottom",
		"1000001", "1,1000001", "-1000001,1", "0;1000001", "0;-1000001", "9223372036854775808,1", "-1000000000000000",
		"1:2", "1|2", "1.,2", "(1,2)", "[1,2]", "1,2\x00", "\xff", "１,２", "−1",
		strings.Repeat("1,", 10) + "1", strings.Repeat("1;", 10) + "1", strings.Repeat("1,1;", 10) + "1,1", strings.Repeat("1,", 10), strings.Repeat("1;", 10),
		strings.Repeat("1,", 9) + "1;" + strings.Repeat("1,", 10) + "1", strings.Repeat("1,", 9) + "1;" + strings.Repeat("1,", 8) + "1",
		strings.Repeat("1,", 100000) + "1", strings.Repeat("1;", 100000) + "1", strings.Repeat(",", 100000), strings.Repeat(";", 100000),
	}
	for _, s := range texts {
		if a, ok := impl.ReadMatrix(s); len(a) != 0 || ok {
			t.Errorf("ReadMatrix(%.60q) = %v, %v", s, a, ok)
		}
	}
}

// TestP02ShortTexts reads every short text over the characters that occur in texts.
func TestP02ShortTexts(t *testing.T) {
	entry := `(\.|0|-?[1-9][0-9]*)`
	pattern := regexp.MustCompile(`^` + entry + `(,` + entry + `)*(;` + entry + `(,` + entry + `)*)*$`)
	for _, s := range shortTexts(".-01,; ", 6) {
		want := pattern.MatchString(s)
		for _, row := range strings.Split(s, ";") {
			want = want && strings.Count(row, ",")*(strings.Count(s, ";")+1) == strings.Count(s, ",")
		}
		a, ok := impl.ReadMatrix(s)
		if ok != want || ok && impl.MatrixText(a) != s || !ok && len(a) != 0 {
			t.Errorf("ReadMatrix(%q) = %v, %v", s, a, ok)
		}
	}
}

// spare marks memory behind the end of a slice that no call may change.
const spare = 424242

// withSpare copies a matrix into rows that have spare capacity.
func withSpare(a [][]int64) [][]int64 {
	b := make([][]int64, len(a), len(a)+2)
	for i, row := range a {
		b[i] = append(append(make([]int64, 0, len(row)+3), row...), spare, spare, spare)[:len(row)]
	}
	copy(b[len(a):cap(b)], [][]int64{{spare}, {spare}})
	return b
}

func isUnchanged(a, before [][]int64) bool {
	if !equalRows(a, before) || !equalRows(a[len(a):cap(a)], [][]int64{{spare}, {spare}}) {
		return false
	}
	for _, row := range a {
		if !slices.Equal(row[len(row):cap(row)], []int64{spare, spare, spare}) {
			return false
		}
	}
	return true
}

// checkRowsApart writes over each row of a result up to its capacity, and looks whether another
// one has changed.
func checkRowsApart(t *testing.T, name string, a [][]int64) {
	t.Helper()
	for i := range a {
		others := cloneRows(a)
		whole := a[i][:cap(a[i])]
		for j := range whole {
			whole[j] = -31
		}
		for j := range a {
			if j != i && !slices.Equal(a[j], others[j]) {
				t.Errorf("%s: the rows %d and %d share memory", name, i, j)
			}
		}
	}
}

func TestP02ResultsShareNoMemory(t *testing.T) {
	before := [][]int64{{1, bottom, -4}, {3, 0, bottom}, {bottom, 5, 2}}
	calls := map[string]func(a [][]int64) ([][]int64, int64){
		"AddMatrices":       func(a [][]int64) ([][]int64, int64) { return impl.AddMatrices(a, a) },
		"AddMatrices left":  func(a [][]int64) ([][]int64, int64) { return impl.AddMatrices(a, filled(3, 3, bottom)) },
		"AddMatrices right": func(a [][]int64) ([][]int64, int64) { return impl.AddMatrices(filled(3, 3, bottom), a) },
		"MultiplyMatrices":  func(a [][]int64) ([][]int64, int64) { return impl.MultiplyMatrices(a, a) },
		"PowerMatrix 0":     func(a [][]int64) ([][]int64, int64) { return impl.PowerMatrix(a, 0) },
		"PowerMatrix 1":     func(a [][]int64) ([][]int64, int64) { return impl.PowerMatrix(a, 1) },
		"PowerMatrix 7":     func(a [][]int64) ([][]int64, int64) { return impl.PowerMatrix(a, 7) },
		"TransposeMatrix":   impl.TransposeMatrix,
		"UnitMatrix":        func(a [][]int64) ([][]int64, int64) { return impl.UnitMatrix(10) },
		"BottomMatrix":      func(a [][]int64) ([][]int64, int64) { return impl.BottomMatrix(10, 10) },
		"ReadMatrix": func(a [][]int64) ([][]int64, int64) {
			b, _ := impl.ReadMatrix(impl.MatrixText(a))
			return b, impl.ErrNone
		},
		"TimesVector": func(a [][]int64) ([][]int64, int64) {
			y, code := impl.TimesVector(a, a[0])
			return [][]int64{y}, code
		},
		"TimesVector of one row": func(a [][]int64) ([][]int64, int64) {
			y, code := impl.TimesVector([][]int64{{0}}, a[0][:1])
			return [][]int64{y}, code
		},
	}
	checkCalls(t, calls, before)
}

// checkCalls looks at the memory of results: each call is made twice with a copy of the rows that
// has to stay as it is, whatever is written into the first result.
func checkCalls(t *testing.T, calls map[string]func(a [][]int64) ([][]int64, int64), before [][]int64) {
	t.Helper()
	for name, call := range calls {
		a := withSpare(before)
		result, code := call(a)
		if code != impl.ErrNone || len(result) == 0 {
			t.Fatalf("%s = %v, %d", name, result, code)
		}
		again := cloneRows(result)
		if !isUnchanged(a, before) {
			t.Errorf("%s changed its argument", name)
		}
		checkRowsApart(t, name, result)
		if !isUnchanged(a, before) {
			t.Errorf("%s: the result shares memory with the argument", name)
		}
		if second, code := call(a); code != impl.ErrNone || !equalRows(second, again) {
			t.Errorf("%s: a second call returns %v, %d instead of %v", name, second, code, again)
		}
	}
}
