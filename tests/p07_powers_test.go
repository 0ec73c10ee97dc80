package tests

import (
	"iter"
	"math"
	"math/big"
	"math/rand/v2"
	"slices"
	"testing"

	"loop.example/g00941/impl"
)

const (
	maxPower    = 100
	maxExponent = 100000
)

// repeated is what is told of a first repeat. It is zero beside an error.
type repeated struct{ k, period, growth int64 }

func columnOf(x []int64) [][]int64 {
	column := make([][]int64, len(x))
	for i := range x {
		column[i] = []int64{x[i]}
	}
	return column
}

func rowOf(column [][]int64) []int64 { return slices.Concat(column...) }

func bottoms(n int) []int64 { return slices.Repeat([]int64{bottom}, n) }

// plainElements are the elements 0 to MaxPower of the powers (from the unit) or of an orbit (from a
// column). They end before the first one of which an entry is no value.
func plainElements(a, first [][]int64) [][][]int64 {
	list := [][][]int64{first}
	for len(list) <= maxPower {
		next, ok := plainProduct(a, list[len(list)-1])
		if !ok {
			break
		}
		list = append(list, next)
	}
	return list
}

// plainGrowth is the number by which one matrix has to be shifted to be another one, 0 if both are
// Bottom, and whether there is one.
func plainGrowth(from, to [][]int64) (int64, bool) {
	growth, known := int64(0), false
	for i := range from {
		for j := range from[i] {
			switch old, new := from[i][j], to[i][j]; {
			case (old == bottom) != (new == bottom):
				return 0, false
			case old == bottom:
			case known && new-old != growth:
				return 0, false
			default:
				growth, known = new-old, true
			}
		}
	}
	return growth, true
}

// plainRepeat looks at the elements as the document says: for one k after the other, at those up to
// the one with which a repeat at this k is found.
func plainRepeat(elements [][][]int64) (repeated, int64) {
	for k := 0; k <= maxPower; k++ {
		for c := 1; k+c <= maxPower; c++ {
			if k+c >= len(elements) {
				return repeated{}, impl.ErrLimit
			}
			if growth, ok := plainGrowth(elements[k], elements[k+c]); ok {
				return repeated{int64(k), int64(c), growth}, impl.ErrNone
			}
		}
	}
	return repeated{}, impl.ErrNotFound
}

// plainGreat is a power by squares, of which no entry is checked.
func plainGreat(a [][]int64, n int64) [][]int64 {
	power, square := unitOf(len(a)), a
	for ; n > 0; n /= 2 {
		if n%2 == 1 {
			power, _ = plainProduct(power, square)
		}
		square, _ = plainProduct(square, square)
	}
	return power
}

func checkRepeat(t *testing.T, what string, k, period, growth, code int64, want repeated, wantCode int64) {
	t.Helper()
	if (repeated{k, period, growth}) != want || code != wantCode {
		t.Errorf("%s = %d, %d, %d, %d, want %v, %d", what, k, period, growth, code, want, wantCode)
	}
}

func checkPowers(t *testing.T, a [][]int64, want repeated, wantCode int64) {
	t.Helper()
	k, period, growth, code := impl.PowersRepeat(a)
	checkRepeat(t, "PowersRepeat of "+impl.MatrixText(a), k, period, growth, code, want, wantCode)
}

// wantRate is the rate that follows from a first repeat.
func wantRate(want repeated, wantCode int64) (impl.Ratio, int64) {
	if wantCode != impl.ErrNone {
		return impl.Ratio{}, wantCode
	}
	return wantRatio(big.NewRat(want.growth, want.period))
}

// checkOrbit compares the first repeat and the rate that follows from it.
func checkOrbit(t *testing.T, a [][]int64, x []int64, want repeated, wantCode int64) {
	t.Helper()
	what := " of " + impl.MatrixText(a) + " from " + impl.MatrixText([][]int64{x})
	k, period, growth, code := impl.OrbitRepeats(a, x)
	checkRepeat(t, "OrbitRepeats"+what, k, period, growth, code, want, wantCode)
	rate, rateCode := wantRate(want, wantCode)
	r, code := impl.OrbitRate(a, x)
	checkRatio(t, "OrbitRate"+what, r, code, rate, rateCode)
}

type repeatCase struct {
	a    [][]int64
	want repeated
	code int64
}

// slow has two loops, and a way from the second node to the first one and back that takes off as
// much as told: its powers repeat only when staying at the second node has become worse.
func slow(loss int64) [][]int64 { return [][]int64{{0, 0}, {-loss, -1}} }

// steps has a cycle around some nodes that grows by its last arc only.
func steps(n int, growth int64) [][]int64 { return with(ring(n, 0), 0, n-1, growth) }

// blocks has some square matrices in its diagonal, and Bottom elsewhere.
func blocks(list ...[][]int64) [][]int64 {
	n := 0
	for _, a := range list {
		n += len(a)
	}
	b := filled(n, n, bottom)
	first := 0
	for _, a := range list {
		for i, row := range a {
			copy(b[first+i][first:], row)
		}
		first += len(a)
	}
	return b
}

func TestP07Constants(t *testing.T) {
	if impl.MaxExponent != maxExponent {
		t.Errorf("MaxExponent is %d", impl.MaxExponent)
	}
}

func TestP07PowersRepeat(t *testing.T) {
	pair := [][]int64{{bottom, 2}, {3, bottom}}
	cases := []repeatCase{
		// One node: growths that are negative, 0 and positive, and Bottom.
		{[][]int64{{0}}, repeated{0, 1, 0}, impl.ErrNone},
		{[][]int64{{5}}, repeated{0, 1, 5}, impl.ErrNone},
		{[][]int64{{-5}}, repeated{0, 1, -5}, impl.ErrNone},
		{[][]int64{{maxFinite}}, repeated{0, 1, maxFinite}, impl.ErrNone}, // the power 2 is not looked at
		{[][]int64{{-maxFinite}}, repeated{0, 1, -maxFinite}, impl.ErrNone},
		{[][]int64{{bottom}}, repeated{1, 1, 0}, impl.ErrNone},
		// Repeats at 0, with periods up to 30 of at most ten nodes.
		{unitOf(maxSize), repeated{0, 1, 0}, impl.ErrNone},
		{plainShift(unitOf(4), -7, 1), repeated{0, 1, 7}, impl.ErrNone},
		{ring(7, 3), repeated{0, 7, 21}, impl.ErrNone},
		{ring(maxSize, -100), repeated{0, 10, -1000}, impl.ErrNone},
		{steps(5, 1), repeated{0, 5, 1}, impl.ErrNone},
		{pair, repeated{0, 2, 5}, impl.ErrNone},
		{blocks(ring(2, 0), ring(3, 0)), repeated{0, 6, 0}, impl.ErrNone},
		{blocks(ring(2, -1), ring(3, -1), ring(5, -1)), repeated{0, 30, -30}, impl.ErrNone},
		{blocks(steps(2, 2), steps(3, 3), steps(5, 5)), repeated{0, 30, 30}, impl.ErrNone},
		{blocks(steps(2, 60000), ring(3, 30000)), repeated{0, 6, 180000}, impl.ErrNone},
		// First repeats at later k.
		{[][]int64{{bottom, 2}, {3, 0}}, repeated{2, 2, 5}, impl.ErrNone},
		{[][]int64{{bottom, -2}, {-3, -5}}, repeated{2, 2, -5}, impl.ErrNone},
		{[][]int64{{2, 1}, {3, 2}}, repeated{1, 1, 2}, impl.ErrNone},
		{[][]int64{{0, bottom}, {0, 0}}, repeated{1, 1, 0}, impl.ErrNone},
		{[][]int64{{bottom, 0}, {bottom, 0}}, repeated{1, 1, 0}, impl.ErrNone},
		{[][]int64{{bottom, 0}, {bottom, -8}}, repeated{1, 1, -8}, impl.ErrNone},
		{filled(maxSize, maxSize, 9), repeated{1, 1, 9}, impl.ErrNone},
		{filled(maxSize, maxSize, -9), repeated{1, 1, -9}, impl.ErrNone},
		{slow(1), repeated{1, 1, 0}, impl.ErrNone},
		{slow(2), repeated{2, 1, 0}, impl.ErrNone},
		{slow(40), repeated{40, 1, 0}, impl.ErrNone},
		{plainShift(slow(40), -9000, 1), repeated{40, 1, 9000}, impl.ErrNone},
		{blocks(slow(17), ring(3, 0), ring(4, 0)), repeated{17, 12, 0}, impl.ErrNone},
		// k + c is MaxPower, and above it.
		{slow(99), repeated{99, 1, 0}, impl.ErrNone},
		{slow(100), repeated{}, impl.ErrNotFound},
		{blocks(slow(98), ring(2, 0)), repeated{98, 2, 0}, impl.ErrNone},
		{blocks(slow(99), ring(2, 0)), repeated{}, impl.ErrNotFound},
		{blocks(slow(70), ring(3, 0), ring(5, 0)), repeated{70, 15, 0}, impl.ErrNone},
		{blocks(slow(85), ring(3, 0), ring(5, 0)), repeated{85, 15, 0}, impl.ErrNone},
		{blocks(slow(86), ring(3, 0), ring(5, 0)), repeated{}, impl.ErrNotFound},
		// All entries become Bottom.
		{filled(maxSize, maxSize, bottom), repeated{1, 1, 0}, impl.ErrNone},
		{forward(2, 6), repeated{2, 1, 0}, impl.ErrNone},
		{forward(maxSize, 6), repeated{10, 1, 0}, impl.ErrNone},
		{forward(maxSize, -6), repeated{10, 1, 0}, impl.ErrNone},
		{forward(maxSize, maxFinite/9), repeated{10, 1, 0}, impl.ErrNone},
		{blocks(ring(1, bottom), ring(2, 0)), repeated{1, 2, 0}, impl.ErrNone},
	}
	for _, c := range cases {
		checkPowers(t, c.a, c.want, c.code)
	}
}

func TestP07PowersUpToTheLimit(t *testing.T) {
	cases := []repeatCase{
		// There is no repeat.
		{[][]int64{{1, bottom}, {bottom, 2}}, repeated{}, impl.ErrNotFound},
		{[][]int64{{1, bottom}, {bottom, -1}}, repeated{}, impl.ErrNotFound},
		{[][]int64{{0, bottom}, {0, 1}}, repeated{}, impl.ErrNotFound},
		{[][]int64{{10000, bottom}, {bottom, 0}}, repeated{}, impl.ErrNotFound}, // the power 100 is just a value
		{[][]int64{{-10000, bottom}, {bottom, 0}}, repeated{}, impl.ErrNotFound},
		// There is none, and an entry of a power up to MaxPower is no value.
		{[][]int64{{10001, bottom}, {bottom, 0}}, repeated{}, impl.ErrLimit},
		{[][]int64{{-10001, bottom}, {bottom, 0}}, repeated{}, impl.ErrLimit},
		{[][]int64{{maxFinite, bottom}, {bottom, maxFinite - 1}}, repeated{}, impl.ErrLimit},
		{[][]int64{{20000, bottom}, {0, 0}}, repeated{}, impl.ErrLimit},
		{forward(maxSize, maxFinite/9+1), repeated{}, impl.ErrLimit},
		{forward(maxSize, -maxFinite), repeated{}, impl.ErrLimit},
		{filled(3, 3, maxFinite), repeated{}, impl.ErrLimit},
		// Repeats at 0 in time, and just too late.
		{ring(maxSize, maxFinite/10), repeated{0, 10, maxFinite}, impl.ErrNone},
		{ring(maxSize, -maxFinite/10), repeated{0, 10, -maxFinite}, impl.ErrNone},
		{ring(maxSize, maxFinite/10+1), repeated{}, impl.ErrLimit},
		{steps(2, maxFinite), repeated{0, 2, maxFinite}, impl.ErrNone},
		{with(steps(2, maxFinite), 1, 0, 1), repeated{}, impl.ErrLimit},
		{with(steps(2, maxFinite), 1, 0, -maxFinite), repeated{0, 2, 0}, impl.ErrNone},
		// Without a repeat at 0, all powers are looked at before one at 1.
		{filled(3, 3, 10000), repeated{1, 1, 10000}, impl.ErrNone},
		{filled(3, 3, 10001), repeated{}, impl.ErrLimit},
		{filled(3, 3, -10000), repeated{1, 1, -10000}, impl.ErrNone},
		{filled(3, 3, -10001), repeated{}, impl.ErrLimit},
		{[][]int64{{bottom, 8000}, {12000, 0}}, repeated{2, 2, 20000}, impl.ErrNone},
		{[][]int64{{bottom, 8000}, {12001, 0}}, repeated{}, impl.ErrLimit},
	}
	for _, c := range cases {
		checkPowers(t, c.a, c.want, c.code)
	}
}

// The powers of a ring and some of its orbits have as many different elements as there are nodes.
func TestP07Periods(t *testing.T) {
	for n := 1; n <= maxSize; n++ {
		for _, weight := range []int64{-10000, -1, 0, 1, 10000} {
			a := ring(n, weight)
			want := repeated{0, int64(n), int64(n) * weight}
			checkPowers(t, a, want, impl.ErrNone)
			checkOrbit(t, a, unitOf(n)[0], want, impl.ErrNone)
			checkOrbit(t, a, make([]int64, n), repeated{0, 1, weight}, impl.ErrNone)
			checkOrbit(t, a, bottoms(n), repeated{0, 1, 0}, impl.ErrNone)
		}
	}
}

func TestP07OrbitRepeats(t *testing.T) {
	a := [][]int64{{bottom, 2}, {3, 0}}
	great := [][]int64{{bottom, maxFinite}, {maxFinite, bottom}}
	cases := []struct {
		a    [][]int64
		x    []int64
		want repeated
		code int64
	}{
		{[][]int64{{4}}, []int64{7}, repeated{0, 1, 4}, impl.ErrNone},
		{[][]int64{{-4}}, []int64{7}, repeated{0, 1, -4}, impl.ErrNone},
		{[][]int64{{4}}, []int64{bottom}, repeated{0, 1, 0}, impl.ErrNone},
		{[][]int64{{bottom}}, []int64{7}, repeated{1, 1, 0}, impl.ErrNone},
		{[][]int64{{bottom}}, []int64{bottom}, repeated{0, 1, 0}, impl.ErrNone},
		{[][]int64{{maxFinite}}, []int64{0}, repeated{0, 1, maxFinite}, impl.ErrNone},
		{[][]int64{{maxFinite}}, []int64{-maxFinite}, repeated{0, 1, maxFinite}, impl.ErrNone},
		{[][]int64{{maxFinite}}, []int64{1}, repeated{}, impl.ErrLimit},
		{[][]int64{{-maxFinite}}, []int64{-1}, repeated{}, impl.ErrLimit},
		{a, []int64{0, 0}, repeated{0, 2, 5}, impl.ErrNone},
		{a, []int64{4, 4}, repeated{0, 2, 5}, impl.ErrNone},
		{a, []int64{0, bottom}, repeated{2, 2, 5}, impl.ErrNone},
		{a, []int64{bottom, 0}, repeated{1, 2, 5}, impl.ErrNone},
		{a, []int64{-9, 0}, repeated{1, 2, 5}, impl.ErrNone},
		// The orbit repeats at once, or later, where the powers do not.
		{[][]int64{{1, bottom}, {bottom, 2}}, []int64{0, bottom}, repeated{0, 1, 1}, impl.ErrNone},
		{[][]int64{{1, bottom}, {bottom, 2}}, []int64{bottom, 0}, repeated{0, 1, 2}, impl.ErrNone},
		{[][]int64{{1, bottom}, {bottom, 2}}, []int64{0, 0}, repeated{}, impl.ErrNotFound},
		{[][]int64{{1, bottom}, {0, 2}}, []int64{0, bottom}, repeated{}, impl.ErrNotFound},
		{[][]int64{{1, bottom}, {0, 2}}, []int64{bottom, 0}, repeated{0, 1, 2}, impl.ErrNone},
		{[][]int64{{2, bottom}, {0, 1}}, []int64{0, 0}, repeated{2, 1, 2}, impl.ErrNone},
		{[][]int64{{2, bottom}, {0, 1}}, []int64{0, 20}, repeated{22, 1, 2}, impl.ErrNone},
		{[][]int64{{2, bottom}, {0, 1}}, []int64{0, 97}, repeated{99, 1, 2}, impl.ErrNone},
		{[][]int64{{2, bottom}, {0, 1}}, []int64{0, 98}, repeated{}, impl.ErrNotFound},
		{slow(99), []int64{bottom, 0}, repeated{99, 1, 0}, impl.ErrNone},
		{slow(99), []int64{0, bottom}, repeated{1, 1, 0}, impl.ErrNone},
		{slow(100), []int64{bottom, 0}, repeated{}, impl.ErrNotFound},
		{slow(100), []int64{0, bottom}, repeated{1, 1, 0}, impl.ErrNone},
		{slow(100), []int64{0, -100}, repeated{0, 1, 0}, impl.ErrNone},
		{blocks(steps(3, 0), ring(4, 0)), []int64{0, bottom, bottom, 0, bottom, 0, bottom}, repeated{0, 6, 0}, impl.ErrNone},
		{blocks(ring(2, 0), ring(3, 0), ring(5, 0)), []int64{0, 1, 0, 1, 0, 0, 1, 0, 0, 0}, repeated{0, 30, 0}, impl.ErrNone},
		// The elements become Bottom as a whole.
		{forward(maxSize, 3), append([]int64{0}, bottoms(9)...), repeated{10, 1, 0}, impl.ErrNone},
		{forward(maxSize, 3), append(bottoms(9), 0), repeated{1, 1, 0}, impl.ErrNone},
		{forward(maxSize, 3), make([]int64, maxSize), repeated{10, 1, 0}, impl.ErrNone},
		{filled(maxSize, maxSize, bottom), make([]int64, maxSize), repeated{1, 1, 0}, impl.ErrNone},
		{filled(maxSize, maxSize, maxFinite), bottoms(maxSize), repeated{0, 1, 0}, impl.ErrNone},
		{filled(maxSize, maxSize, 10000), make([]int64, maxSize), repeated{0, 1, 10000}, impl.ErrNone},
		// A growth of twice MaxFinite, and a rate that is no valid ratio.
		{great, []int64{-maxFinite, bottom}, repeated{0, 2, 2 * maxFinite}, impl.ErrNone},
		{with(great, 1, 0, maxFinite-1), []int64{-maxFinite, bottom}, repeated{0, 2, 2*maxFinite - 1}, impl.ErrNone},
		{[][]int64{{bottom, -maxFinite}, {-maxFinite + 1, bottom}}, []int64{maxFinite, bottom}, repeated{0, 2, -2*maxFinite + 1}, impl.ErrNone},
		{great, []int64{-maxFinite + 1, bottom}, repeated{}, impl.ErrLimit},
		{great, []int64{-maxFinite, -maxFinite}, repeated{0, 1, maxFinite}, impl.ErrNone},
		// All elements are looked at if there is no repeat at 0.
		{filled(2, 2, 10000), []int64{0, 1}, repeated{}, impl.ErrLimit},
		{filled(2, 2, 10000), []int64{0, -1}, repeated{1, 1, 10000}, impl.ErrNone},
		{filled(2, 2, 10000), []int64{-1, bottom}, repeated{1, 1, 10000}, impl.ErrNone},
		{filled(2, 2, -10000), []int64{-1, -2}, repeated{}, impl.ErrLimit},
		{filled(2, 2, -10000), []int64{0, -2}, repeated{1, 1, -10000}, impl.ErrNone},
		{[][]int64{{10000, bottom}, {bottom, 0}}, []int64{0, 0}, repeated{}, impl.ErrNotFound},
		{[][]int64{{10000, bottom}, {bottom, 0}}, []int64{1, 0}, repeated{}, impl.ErrLimit},
		{[][]int64{{bottom, bottom}, {1, bottom}}, []int64{maxFinite, 0}, repeated{}, impl.ErrLimit},
		{[][]int64{{bottom, bottom}, {1, bottom}}, []int64{maxFinite - 1, 0}, repeated{2, 1, 0}, impl.ErrNone},
		{[][]int64{{bottom, bottom}, {-1, bottom}}, []int64{-maxFinite, 0}, repeated{}, impl.ErrLimit},
	}
	for _, c := range cases {
		checkOrbit(t, c.a, c.x, c.want, c.code)
	}
}

func TestP07OrbitRate(t *testing.T) {
	great := [][]int64{{bottom, maxFinite}, {maxFinite, bottom}}
	cases := []struct {
		a    [][]int64
		x    []int64
		want impl.Ratio
		code int64
	}{
		{[][]int64{{4}}, []int64{7}, ratio(4, 1), impl.ErrNone},
		{[][]int64{{-4}}, []int64{7}, ratio(-4, 1), impl.ErrNone},
		{[][]int64{{0}}, []int64{7}, ratio(0, 1), impl.ErrNone},
		{[][]int64{{bottom}}, []int64{7}, ratio(0, 1), impl.ErrNone},
		{[][]int64{{bottom, 2}, {3, 0}}, []int64{0, 0}, ratio(5, 2), impl.ErrNone},
		{[][]int64{{bottom, -2}, {-3, -9}}, []int64{0, 0}, ratio(-5, 2), impl.ErrNone},
		{steps(6, 4), []int64{0, bottom, bottom, bottom, bottom, bottom}, ratio(2, 3), impl.ErrNone}, // in lowest terms
		{steps(6, 0), []int64{0, 1, 2, 0, 1, 2}, ratio(0, 1), impl.ErrNone},
		{steps(maxSize, -1), unitOf(maxSize)[3], ratio(-1, 10), impl.ErrNone},
		{great, []int64{-maxFinite, bottom}, ratio(maxFinite, 1), impl.ErrNone},
		{with(great, 1, 0, maxFinite-1), []int64{-maxFinite, bottom}, impl.Ratio{}, impl.ErrLimit},
		{with(great, 1, 0, maxFinite-2), []int64{-maxFinite, bottom}, ratio(maxFinite-1, 1), impl.ErrNone},
		{with(great, 1, 0, -1), []int64{0, bottom}, ratio(999999, 2), impl.ErrNone},
		{[][]int64{{bottom, -maxFinite}, {-maxFinite + 1, bottom}}, []int64{maxFinite, bottom}, impl.Ratio{}, impl.ErrLimit},
		{[][]int64{{1, bottom}, {bottom, 2}}, []int64{0, 0}, impl.Ratio{}, impl.ErrNotFound},
		{[][]int64{{1, bottom}, {bottom, 2}}, []int64{0, maxFinite}, impl.Ratio{}, impl.ErrLimit},
	}
	for _, c := range cases {
		r, code := impl.OrbitRate(c.a, c.x)
		checkRatio(t, "OrbitRate of "+impl.MatrixText(c.a), r, code, c.want, c.code)
	}
}

// sequences are matrices of all kinds, most of which have powers that repeat.
func sequences(random *rand.Rand, n int) [][][]int64 {
	list := richGraphs(random, n)
	for _, limit := range []int64{0, 1, 5, 40, 10000} {
		full := filled(n, n, 0)
		for i := range full {
			for j := range full[i] {
				full[i][j] = random.Int64N(2*limit+1) - limit
			}
		}
		list = append(list, full, slopes(random, n, limit))
	}
	order := random.Perm(n)
	turned := filled(n, n, bottom)
	for i, j := range order {
		turned[i][j] = random.Int64N(7) - 3
	}
	list = append(list, turned, forward(n, random.Int64N(300000)-150000))
	if n > 2 {
		list = append(list, blocks(plainShift(slow(random.Int64N(105)+1), -random.Int64N(3), 1), shuffled(random, n-2, random.Int64N(3))))
	}
	return list
}

func someVectors(random *rand.Rand, n int) [][]int64 {
	list := [][]int64{make([]int64, n), unitOf(n)[random.IntN(n)]}
	for _, limit := range []int64{2, 100, maxFinite} {
		list = append(list, randomMatrix(random, 1, n, limit)[0])
	}
	return append(list, edgeMatrix(random, 1, n)[0])
}

func TestP07PowersFollowTheDefinition(t *testing.T) {
	random := newRandom(71)
	codes, kinds := map[int64]int{}, map[int64]int{}
	for a := range manyGraphs(random, 1, maxSize, 3, sequences) {
		want, wantCode := plainRepeat(plainElements(a, unitOf(len(a))))
		checkPowers(t, a, want, wantCode)
		codes[wantCode]++
		if wantCode == impl.ErrNone {
			kinds[min(want.k, 20)]++
			kinds[100+min(want.period, 20)]++
			kinds[200+int64(big.NewInt(want.growth).Sign())]++
		}
	}
	checkVaried(t, codes, map[int64]int{impl.ErrNone: 500, impl.ErrNotFound: 50, impl.ErrLimit: 100})
	checkVaried(t, kinds, map[int64]int{0: 50, 1: 20, 3: 20, 10: 5, 20: 20, 101: 100, 102: 50, 103: 20, 104: 10, 106: 10, 112: 3, 199: 100, 200: 50, 201: 100})
}

func TestP07OrbitsFollowTheDefinition(t *testing.T) {
	random := newRandom(72)
	codes, rates := map[int64]int{}, map[int64]int{}
	for a := range manyGraphs(random, 1, maxSize, 1, sequences) {
		for _, x := range someVectors(random, len(a)) {
			elements := plainElements(a, columnOf(x))
			want, wantCode := plainRepeat(elements)
			checkOrbit(t, a, x, want, wantCode)
			checkSteady(t, a, x, elements, want, wantCode)
			checkElements(t, a, x, elements)
			codes[wantCode]++
			if rate, code := wantRate(want, wantCode); code == impl.ErrNone {
				rates[min(rate.Den, 5)]++
			}
		}
	}
	checkVaried(t, codes, map[int64]int{impl.ErrNone: 1000, impl.ErrNotFound: 100, impl.ErrLimit: 200})
	checkVaried(t, rates, map[int64]int{1: 500, 2: 100, 3: 50, 4: 20, 5: 20})
}

// checkElements compares the orbits that end before, with and behind the last element of which all
// entries are values.
func checkElements(t *testing.T, a [][]int64, x []int64, elements [][][]int64) {
	t.Helper()
	what := "OrbitOf " + impl.MatrixText(a) + " from " + impl.MatrixText([][]int64{x})
	last := len(elements) - 1
	for _, n := range []int{0, 1, last / 2, last - 1, last, last + 1, maxPower} {
		if n < 0 || n > maxPower {
			continue
		}
		var want [][]int64
		wantCode := int64(impl.ErrLimit)
		if n <= last {
			wantCode = impl.ErrNone
			for _, column := range elements[:n+1] {
				want = append(want, rowOf(column))
			}
		}
		list, code := impl.OrbitOf(a, x, int64(n))
		checkMatrix(t, what, list, code, want, wantCode)
	}
}

// checkSteady takes the greatest element off.
func checkSteady(t *testing.T, a [][]int64, x []int64, elements [][][]int64, first repeated, wantCode int64) {
	t.Helper()
	var want []int64
	if wantCode == impl.ErrNone {
		want = rowOf(elements[first.k])
		if greatest := slices.Max(want); greatest != bottom {
			want = plainShift([][]int64{want}, greatest, 1)[0]
		}
		if !allValues([][]int64{want}) {
			want, wantCode = nil, impl.ErrLimit
		}
	}
	state, code := impl.SteadyState(a, x)
	checkList(t, "SteadyState of "+impl.MatrixText(a)+" from "+impl.MatrixText([][]int64{x}), state, code, want, wantCode)
}

func TestP07OrbitOf(t *testing.T) {
	a := [][]int64{{bottom, 2}, {3, 0}}
	cases := []struct {
		a    [][]int64
		x    []int64
		n    int64
		want [][]int64
		code int64
	}{
		{a, []int64{0, 0}, 0, [][]int64{{0, 0}}, impl.ErrNone},
		{a, []int64{0, 0}, 1, [][]int64{{0, 0}, {2, 3}}, impl.ErrNone},
		{a, []int64{0, 0}, 3, [][]int64{{0, 0}, {2, 3}, {5, 5}, {7, 8}}, impl.ErrNone},
		{a, []int64{0, bottom}, 2, [][]int64{{0, bottom}, {bottom, 3}, {5, 3}}, impl.ErrNone},
		{a, bottoms(2), 2, [][]int64{bottoms(2), bottoms(2), bottoms(2)}, impl.ErrNone},
		{a, []int64{0, 0}, -1, nil, impl.ErrRange},
		{a, []int64{0, 0}, maxPower + 1, nil, impl.ErrRange},
		{a, []int64{0, 0}, math.MinInt64, nil, impl.ErrRange},
		{a, []int64{0, 0}, math.MaxInt64, nil, impl.ErrRange},
		{a, []int64{maxFinite, maxFinite}, maxPower + 1, nil, impl.ErrRange}, // before ErrLimit
		{a, []int64{maxFinite - 3, 0}, 1, [][]int64{{maxFinite - 3, 0}, {2, maxFinite}}, impl.ErrNone},
		{a, []int64{maxFinite - 3, 0}, 2, nil, impl.ErrLimit},
		{a, []int64{maxFinite, maxFinite}, 0, [][]int64{{maxFinite, maxFinite}}, impl.ErrNone},
		{[][]int64{{bottom, bottom}, {-1, bottom}}, []int64{-maxFinite, 3}, 1, nil, impl.ErrLimit},
		// An element that is no value is told even if the ones after it are Bottom.
		{[][]int64{{bottom, bottom}, {1, bottom}}, []int64{maxFinite, 3}, 50, nil, impl.ErrLimit},
		{[][]int64{{bottom, bottom}, {1, bottom}}, []int64{4, 3}, 3, [][]int64{{4, 3}, {bottom, 5}, bottoms(2), bottoms(2)}, impl.ErrNone},
		{[][]int64{{10000}}, []int64{1}, 99, arithmetic(1, 10000, 99), impl.ErrNone},
		{[][]int64{{10000}}, []int64{1}, 100, nil, impl.ErrLimit},
		{[][]int64{{10000}}, []int64{0}, 100, arithmetic(0, 10000, 100), impl.ErrNone},
		{[][]int64{{-10000}}, []int64{0}, 100, arithmetic(0, -10000, 100), impl.ErrNone},
		{[][]int64{{-20000}}, []int64{maxFinite}, 100, arithmetic(maxFinite, -20000, 100), impl.ErrNone},
		{[][]int64{{-20001}}, []int64{maxFinite}, 100, nil, impl.ErrLimit},
		{unitOf(maxSize), []int64{0, 1, 2, 3, 4, bottom, 6, 7, 8, 9}, maxPower, slices.Repeat([][]int64{{0, 1, 2, 3, 4, bottom, 6, 7, 8, 9}}, 101), impl.ErrNone},
		{ring(maxSize, 0), []int64{0, 1, 2, 3, 4, 5, 6, 7, 8, 9}, 1, [][]int64{{0, 1, 2, 3, 4, 5, 6, 7, 8, 9}, {9, 0, 1, 2, 3, 4, 5, 6, 7, 8}}, impl.ErrNone},
	}
	for _, c := range cases {
		list, code := impl.OrbitOf(c.a, c.x, c.n)
		checkMatrix(t, "OrbitOf "+impl.MatrixText(c.a), list, code, c.want, c.code)
	}
}

// arithmetic has the numbers from first on with equal differences as rows.
func arithmetic(first, difference, n int64) [][]int64 {
	var rows [][]int64
	for k := range n + 1 {
		rows = append(rows, []int64{first + k*difference})
	}
	return rows
}

func TestP07IsRepeat(t *testing.T) {
	a := [][]int64{{bottom, 2}, {3, 0}}
	great := [][]int64{{bottom, 8000}, {12001, 0}}
	cases := []struct {
		a       [][]int64
		k, c, g int64
		want    bool
		code    int64
	}{
		{a, 2, 2, 5, true, impl.ErrNone},
		{a, 3, 2, 5, true, impl.ErrNone},
		{a, 98, 2, 5, true, impl.ErrNone},
		{a, 2, 98, 245, true, impl.ErrNone},
		{a, 2, 4, 10, true, impl.ErrNone}, // a multiple of the least period
		{a, 0, 2, 5, false, impl.ErrNone},
		{a, 1, 2, 5, false, impl.ErrNone},
		{a, 2, 1, 5, false, impl.ErrNone},
		{a, 2, 3, 5, false, impl.ErrNone},
		{a, 2, 2, 4, false, impl.ErrNone},
		{a, 2, 2, -5, false, impl.ErrNone},
		{a, 2, 2, 0, false, impl.ErrNone},
		{a, 2, 4, 5, false, impl.ErrNone},
		{a, 2, 2, maxFinite, false, impl.ErrNone},
		{a, 2, 2, -maxFinite, false, impl.ErrNone},
		{a, 99, 1, 5, false, impl.ErrNone},
		{slow(5), 5, 1, 0, true, impl.ErrNone},
		{slow(5), 4, 1, 0, false, impl.ErrNone},
		{slow(5), 99, 1, 0, true, impl.ErrNone},
		{slow(5), 5, 95, 0, true, impl.ErrNone},
		{slow(100), 99, 1, 0, false, impl.ErrNone},
		{unitOf(3), 0, 1, 0, true, impl.ErrNone},
		{unitOf(3), 0, 100, 0, true, impl.ErrNone},
		{unitOf(3), 0, 1, 1, false, impl.ErrNone},
		{[][]int64{{-3}}, 7, 5, -15, true, impl.ErrNone},
		{[][]int64{{-3}}, 7, 5, 15, false, impl.ErrNone},
		// One of the greatest entries grows as told, but another entry does not.
		{[][]int64{{0, bottom}, {bottom, -1}}, 3, 4, 0, false, impl.ErrNone},
		{[][]int64{{0, bottom}, {bottom, -1}}, 3, 4, -4, false, impl.ErrNone},
		{ring(2, 0), 0, 1, 0, false, impl.ErrNone},
		{ring(2, 0), 5, 3, 0, false, impl.ErrNone},
		{ring(2, 0), 5, 4, 0, true, impl.ErrNone},
		// Powers that are Bottom as a whole repeat with every growth.
		{[][]int64{{bottom}}, 1, 1, 0, true, impl.ErrNone},
		{[][]int64{{bottom}}, 1, 1, 7, true, impl.ErrNone},
		{[][]int64{{bottom}}, 5, 60, -maxFinite, true, impl.ErrNone},
		{[][]int64{{bottom}}, 5, 95, maxFinite, true, impl.ErrNone},
		{[][]int64{{bottom}}, 0, 1, 0, false, impl.ErrNone},
		{forward(4, 1), 4, 1, 3, true, impl.ErrNone},
		{forward(4, 1), 3, 1, 1, false, impl.ErrNone},
		{forward(4, 1), 2, 2, 0, false, impl.ErrNone},
		// Powers up to k + c are looked at, and no others.
		{[][]int64{{maxFinite}}, 0, 1, maxFinite, true, impl.ErrNone},
		{[][]int64{{maxFinite}}, 1, 1, maxFinite, false, impl.ErrLimit},
		{[][]int64{{maxFinite}}, 0, 2, 0, false, impl.ErrLimit},
		{[][]int64{{-maxFinite}}, 0, 1, -maxFinite, true, impl.ErrNone},
		{[][]int64{{-maxFinite}}, 0, 2, 0, false, impl.ErrLimit},
		{great, 2, 2, 20001, true, impl.ErrNone},
		{great, 2, 1, 20001, false, impl.ErrNone},
		{great, 97, 2, 20001, true, impl.ErrNone},
		{great, 98, 2, 20001, false, impl.ErrLimit},
		{great, 0, 100, 20001, false, impl.ErrLimit},
		// An entry of a power between 0 and k is no value, but all entries of the powers k and k + c
		// are Bottom.
		{forward(3, maxFinite), 3, 1, 0, false, impl.ErrLimit},
		{forward(3, -maxFinite), 50, 1, 0, false, impl.ErrLimit},
		{forward(3, maxFinite/2), 3, 1, 0, true, impl.ErrNone},
	}
	for _, c := range cases {
		is, code := impl.IsRepeat(c.a, c.k, c.c, c.g)
		checkAnswer(t, "IsRepeat of "+impl.MatrixText(c.a), is, code, c.want, c.code)
	}
}

// Numbers that are not in their ranges are told before an entry that is no value.
func TestP07IsRepeatOfWrongNumbers(t *testing.T) {
	a := [][]int64{{bottom, 2}, {3, 0}}
	cases := []struct {
		a       [][]int64
		k, c, g int64
	}{
		{a, 99, 2, 5},
		{a, 100, 1, 0},
		{a, 100, 0, 0},
		{a, 101, -1, 0},
		{a, 101, 1, 0},
		{a, -1, 1, 0},
		{a, -1, 101, 0},
		{a, 2, 0, 0}, // it would be true
		{a, 2, -2, -5},
		{a, 4, -2, -5},
		{a, 0, 101, 5},
		{a, 1, 100, 5},
		{a, 1, math.MaxInt64, 5},
		{a, math.MaxInt64, 1, 5},
		{a, math.MaxInt64, math.MaxInt64, 5},
		{a, math.MinInt64, math.MinInt64, 5},
		{a, math.MinInt64, 1, 5},
		{a, math.MinInt64, math.MaxInt64, 5},
		{a, 2, math.MinInt64, 5},
		{a, 2, 2, maxFinite + 1},
		{a, 2, 2, -maxFinite - 1},
		{a, 2, 2, bottom},
		{a, 2, 2, math.MinInt64},
		{a, 2, 2, math.MaxInt64},
		{[][]int64{{bottom}}, 5, 95, maxFinite + 1},
		{[][]int64{{maxFinite}}, 0, 101, 0},
		{[][]int64{{maxFinite}}, 1, 1, maxFinite + 1},
	}
	for _, c := range cases {
		is, code := impl.IsRepeat(c.a, c.k, c.c, c.g)
		checkAnswer(t, "IsRepeat of wrong numbers", is, code, false, impl.ErrRange)
	}
}

func TestP07IsRepeatFollowsTheDefinition(t *testing.T) {
	random := newRandom(73)
	answers := map[int64]int{}
	for a := range manyGraphs(random, 1, 6, 1, sequences) {
		powers := plainElements(a, unitOf(len(a)))
		for range 20 {
			k := random.Int64N(maxPower)
			if random.IntN(2) == 0 {
				k = random.Int64N(6)
			}
			c := random.Int64N(min(maxPower-k, 12)) + 1
			growth, same, wantCode := int64(0), false, int64(impl.ErrLimit)
			if k+c < int64(len(powers)) {
				growth, same = plainGrowth(powers[k], powers[k+c])
				wantCode = impl.ErrNone
			}
			isBottom := same && slices.Max(slices.Concat(powers[k]...)) == bottom
			for _, g := range []int64{growth, min(growth+1, maxFinite), -growth, 0} {
				is, code := impl.IsRepeat(a, k, c, g)
				checkAnswer(t, "IsRepeat of "+impl.MatrixText(a), is, code, same && (g == growth || isBottom), wantCode)
			}
			answers[wantCode]++
			if same {
				answers[100]++
			}
		}
	}
	checkVaried(t, answers, map[int64]int{impl.ErrNone: 1000, impl.ErrLimit: 500, 100: 500})
}

func TestP07PowerEntry(t *testing.T) {
	a := [][]int64{{bottom, 2}, {3, 0}}
	great := [][]int64{{bottom, 8000}, {12001, 0}}
	cases := []struct {
		a             [][]int64
		n, i, j, want int64
		code          int64
	}{
		// Before the first repeat, at it and behind it.
		{a, 0, 0, 0, 0, impl.ErrNone},
		{a, 0, 0, 1, bottom, impl.ErrNone},
		{a, 1, 0, 0, bottom, impl.ErrNone},
		{a, 1, 0, 1, 2, impl.ErrNone},
		{a, 1, 1, 0, 3, impl.ErrNone},
		{a, 1, 1, 1, 0, impl.ErrNone},
		{a, 2, 0, 0, 5, impl.ErrNone},
		{a, 2, 1, 0, 3, impl.ErrNone},
		{a, 2, 0, 1, 2, impl.ErrNone},
		{a, 3, 0, 0, 5, impl.ErrNone},
		{a, 3, 1, 0, 8, impl.ErrNone},
		{a, 4, 0, 0, 10, impl.ErrNone},
		{a, 100, 0, 0, 250, impl.ErrNone},
		{a, 101, 0, 0, 250, impl.ErrNone},
		{a, 101, 1, 0, 253, impl.ErrNone},
		{a, 99999, 0, 1, 249997, impl.ErrNone},
		{a, 100000, 0, 1, 249997, impl.ErrNone},
		{a, 100000, 1, 1, 250000, impl.ErrNone},
		// The entry is a value just so, and beyond.
		{[][]int64{{10}}, 100000, 0, 0, maxFinite, impl.ErrNone},
		{[][]int64{{11}}, 90909, 0, 0, 999999, impl.ErrNone},
		{[][]int64{{11}}, 90910, 0, 0, 0, impl.ErrLimit},
		{[][]int64{{-10}}, 100000, 0, 0, -maxFinite, impl.ErrNone},
		{[][]int64{{-11}}, 100000, 0, 0, 0, impl.ErrLimit},
		{[][]int64{{maxFinite}}, 0, 0, 0, 0, impl.ErrNone},
		{[][]int64{{maxFinite}}, 1, 0, 0, maxFinite, impl.ErrNone},
		{[][]int64{{maxFinite}}, 2, 0, 0, 0, impl.ErrLimit},
		{[][]int64{{maxFinite}}, 100000, 0, 0, 0, impl.ErrLimit},
		{[][]int64{{-maxFinite}}, 100000, 0, 0, 0, impl.ErrLimit},
		{plainShift(unitOf(2), -maxFinite, 1), 100000, 0, 1, bottom, impl.ErrNone}, // other entries are no values
		{plainShift(unitOf(2), -maxFinite, 1), 100000, 0, 0, 0, impl.ErrLimit},
		{plainShift(unitOf(2), maxFinite, 1), 100000, 1, 0, bottom, impl.ErrNone},
		{[][]int64{{0, maxFinite}, {bottom, 0}}, 100000, 0, 1, maxFinite, impl.ErrNone},
		{plainShift(slow(50), -11, 1), 90909, 0, 0, 999999, impl.ErrNone},
		{plainShift(slow(50), -11, 1), 90910, 0, 0, 0, impl.ErrLimit},
		{plainShift(slow(50), -11, 1), 90910, 1, 0, 999960, impl.ErrNone},
		// Powers that are Bottom as a whole.
		{[][]int64{{bottom}}, 0, 0, 0, 0, impl.ErrNone},
		{[][]int64{{bottom}}, 1, 0, 0, bottom, impl.ErrNone},
		{[][]int64{{bottom}}, 100000, 0, 0, bottom, impl.ErrNone},
		{forward(maxSize, 5), 9, 9, 0, 45, impl.ErrNone},
		{forward(maxSize, 5), 10, 9, 0, bottom, impl.ErrNone},
		{forward(maxSize, 5), 100000, 9, 0, bottom, impl.ErrNone},
		// A first repeat at MaxPower, and none.
		{slow(99), 99, 1, 1, -99, impl.ErrNone},
		{slow(99), 98, 1, 1, -98, impl.ErrNone},
		{slow(99), 100, 1, 1, -99, impl.ErrNone},
		{slow(99), 100000, 1, 1, -99, impl.ErrNone},
		{slow(100), 0, 0, 0, 0, impl.ErrNotFound},
		{slow(100), 99, 1, 1, 0, impl.ErrNotFound},
		{slow(100), 100000, 1, 1, 0, impl.ErrNotFound},
		// The first repeat is always looked for.
		{[][]int64{{1, bottom}, {bottom, 2}}, 0, 0, 1, 0, impl.ErrNotFound},
		{[][]int64{{1, bottom}, {bottom, 2}}, 1, 0, 0, 0, impl.ErrNotFound},
		{great, 0, 0, 0, 0, impl.ErrLimit},
		{great, 1, 0, 0, 0, impl.ErrLimit},
		{great, 100000, 0, 0, 0, impl.ErrLimit},
		{ring(maxSize, 7), 100000, 3, 3, 700000, impl.ErrNone},
		{ring(maxSize, 7), 99999, 2, 3, 699993, impl.ErrNone},
		{ring(maxSize, 7), 99999, 3, 3, bottom, impl.ErrNone},
		{ring(maxSize, 7), 100000, 9, 9, 700000, impl.ErrNone},
	}
	for _, c := range cases {
		entry, code := impl.PowerEntry(c.a, c.n, c.i, c.j)
		checkNumber(t, "PowerEntry of "+impl.MatrixText(c.a), entry, code, c.want, c.code)
	}
}

// Exponents and indices are looked at before the first repeat is looked for.
func TestP07PowerEntryOfWrongNumbers(t *testing.T) {
	a := [][]int64{{bottom, 2}, {3, 0}}
	great := [][]int64{{bottom, 8000}, {12001, 0}}
	cases := []struct {
		a       [][]int64
		n, i, j int64
	}{
		{a, 100001, 1, 1},
		{a, -1, 1, 1},
		{a, math.MinInt64, 1, 1},
		{a, math.MaxInt64, 1, 1},
		{great, 1, 2, 0},
		{great, 1, 0, 2},
		{great, 100001, 0, 0},
		{slow(100), 1, 0, -1},
		{slow(100), 1, -1, 0},
		{slow(100), -1, 0, 0},
		{ring(maxSize, 7), 100000, 9, 10},
		{ring(maxSize, 7), 100000, 10, 9},
		{ring(maxSize, 7), 100000, math.MinInt64, 9},
		{ring(maxSize, 7), 100000, 9, math.MaxInt64},
	}
	for _, c := range cases {
		entry, code := impl.PowerEntry(c.a, c.n, c.i, c.j)
		checkNumber(t, "PowerEntry of wrong numbers", entry, code, 0, impl.ErrRange)
	}
}

// repeating leaves out the matrices without a first repeat.
func repeating(many iter.Seq[[][]int64]) iter.Seq2[[][]int64, repeated] {
	return func(yield func([][]int64, repeated) bool) {
		for a := range many {
			k, period, growth, code := impl.PowersRepeat(a)
			if code == impl.ErrNone && !yield(a, repeated{k, period, growth}) {
				return
			}
		}
	}
}

// TestP07Guarantee is the promise: from the first repeat on the powers go on repeating.
func TestP07Guarantee(t *testing.T) {
	random := newRandom(74)
	count := 0
	for a, first := range repeating(manyGraphs(random, 1, maxSize, 1, sequences)) {
		powers := plainElements(a, unitOf(len(a)))
		last := maxPower - first.period
		for _, k := range []int64{0, first.k / 2, first.k - 1, first.k, first.k + 1, first.k + first.period, last - 1, last, random.Int64N(last + 1)} {
			end := k + first.period
			if k < 0 || end > maxPower {
				continue
			}
			want, wantCode := k >= first.k, int64(impl.ErrNone)
			if end >= int64(len(powers)) {
				want, wantCode = false, impl.ErrLimit
			}
			is, code := impl.IsRepeat(a, k, first.period, first.growth)
			checkAnswer(t, "IsRepeat of "+impl.MatrixText(a), is, code, want, wantCode)
		}
		// There is no smaller period at the same k.
		for c := int64(1); c < first.period; c++ {
			if _, same := plainGrowth(powers[first.k], powers[first.k+c]); same {
				t.Errorf("the powers of %v repeat at %d with the period %d, not only with %d", a, first.k, c, first.period)
			}
		}
		count++
	}
	if count < 200 {
		t.Errorf("only %d matrices have powers that repeat", count)
	}
}

// TestP07GreatPowers is the other half of the guarantee: great powers are told as small ones are.
func TestP07GreatPowers(t *testing.T) {
	random := newRandom(75)
	codes, count := map[int64]int{}, 0
	for a, first := range repeating(manyGraphs(random, 1, maxSize, 1, sequences)) {
		exponents := []int64{0, 1, maxPower, maxPower + 1, maxExponent}
		for near := max(first.k-1, 0); near <= first.k+1; near++ {
			exponents = append(exponents, near, near+first.period)
		}
		exponents = append(exponents, random.Int64N(300), random.Int64N(maxExponent))
		for _, n := range exponents {
			codes[checkEntries(t, random, a, n)]++
		}
		count++
	}
	if count < 200 {
		t.Errorf("only %d matrices have powers that repeat", count)
	}
	checkVaried(t, codes, map[int64]int{impl.ErrNone: 1000, impl.ErrLimit: 50})
}

// checkEntries compares a few entries, and returns ErrLimit if one of them is no value.
func checkEntries(t *testing.T, random *rand.Rand, a [][]int64, n int64) int64 {
	t.Helper()
	power := plainGreat(a, n)
	worst := int64(impl.ErrNone)
	for range 2 {
		i, j := random.IntN(len(a)), random.IntN(len(a))
		want, wantCode := power[i][j], int64(impl.ErrNone)
		if want != bottom && !isFiniteNumber(want) {
			want, wantCode, worst = 0, impl.ErrLimit, impl.ErrLimit
		}
		entry, code := impl.PowerEntry(a, n, int64(i), int64(j))
		checkNumber(t, "PowerEntry of "+impl.MatrixText(a), entry, code, want, wantCode)
	}
	return worst
}

func TestP07ShiftVector(t *testing.T) {
	cases := []struct {
		x    []int64
		g    int64
		want []int64
		code int64
	}{
		{[]int64{1, bottom}, -3, []int64{-2, bottom}, impl.ErrNone},
		{[]int64{1, bottom, -7, 0}, 0, []int64{1, bottom, -7, 0}, impl.ErrNone},
		{[]int64{0}, maxFinite, []int64{maxFinite}, impl.ErrNone},
		{[]int64{0}, -maxFinite, []int64{-maxFinite}, impl.ErrNone},
		{[]int64{-maxFinite}, maxFinite, []int64{0}, impl.ErrNone},
		{[]int64{maxFinite}, -maxFinite, []int64{0}, impl.ErrNone},
		{[]int64{1}, maxFinite, nil, impl.ErrLimit},
		{[]int64{-1}, -maxFinite, nil, impl.ErrLimit},
		{[]int64{0, 1}, maxFinite, nil, impl.ErrLimit},
		{[]int64{1, 0}, maxFinite, nil, impl.ErrLimit},
		{[]int64{maxFinite}, 1, nil, impl.ErrLimit},
		{[]int64{maxFinite}, maxFinite, nil, impl.ErrLimit},
		{[]int64{-maxFinite}, -1, nil, impl.ErrLimit},
		{[]int64{bottom}, maxFinite, []int64{bottom}, impl.ErrNone},
		{[]int64{bottom, bottom}, -maxFinite, []int64{bottom, bottom}, impl.ErrNone},
		{[]int64{bottom, 1}, maxFinite, nil, impl.ErrLimit},
		{[]int64{0, 1, 2, 3, 4, 5, 6, 7, 8, 9}, 10, []int64{10, 11, 12, 13, 14, 15, 16, 17, 18, 19}, impl.ErrNone},
		// A number that is not finite is told before an element that would be no value.
		{[]int64{1}, maxFinite + 1, nil, impl.ErrRange},
		{[]int64{0}, -maxFinite - 1, nil, impl.ErrRange},
		{[]int64{maxFinite}, maxFinite + 1, nil, impl.ErrRange},
		{[]int64{-maxFinite}, maxFinite + 1, nil, impl.ErrRange}, // the sum is a value
		{[]int64{bottom}, maxFinite + 1, nil, impl.ErrRange},
		{[]int64{0}, bottom, nil, impl.ErrRange},
		{[]int64{bottom}, bottom, nil, impl.ErrRange},
		{[]int64{bottom}, -bottom, nil, impl.ErrRange},
		{[]int64{1}, math.MinInt64, nil, impl.ErrRange},
		{[]int64{1}, math.MaxInt64, nil, impl.ErrRange},
	}
	for _, c := range cases {
		x, code := impl.ShiftVector(c.x, c.g)
		checkList(t, "ShiftVector", x, code, c.want, c.code)
	}
	for n := 1; n <= maxSize; n++ {
		x, code := impl.ShiftVector(make([]int64, n), -8)
		checkList(t, "ShiftVector", x, code, slices.Repeat([]int64{-8}, n), impl.ErrNone)
	}
	for _, bad := range notVectors() {
		for _, g := range []int64{0, 1, maxFinite, maxFinite + 1, bottom, math.MinInt64, math.MaxInt64} {
			x, code := impl.ShiftVector(bad, g)
			checkList(t, "ShiftVector of no vector", x, code, nil, impl.ErrInvalid)
		}
	}
}

func TestP07ShiftsFollowTheDefinition(t *testing.T) {
	random := newRandom(76)
	for range 2000 {
		x := someVectors(random, random.IntN(maxSize)+1)[random.IntN(6)]
		for _, g := range []int64{0, random.Int64N(200) - 100, random.Int64N(2*maxFinite+1) - maxFinite} {
			want, wantCode := plainShift([][]int64{x}, -g, 1)[0], int64(impl.ErrNone)
			if !allValues([][]int64{want}) {
				want, wantCode = nil, impl.ErrLimit
			}
			y, code := impl.ShiftVector(x, g)
			checkList(t, "ShiftVector", y, code, want, wantCode)
		}
	}
}

func TestP07SteadyState(t *testing.T) {
	a := [][]int64{{bottom, 2}, {3, 0}}
	loops := [][]int64{{0, bottom}, {bottom, 0}}
	cases := []struct {
		a    [][]int64
		x    []int64
		want []int64
		code int64
	}{
		{a, []int64{0, 0}, []int64{0, 0}, impl.ErrNone},
		{a, []int64{4, 4}, []int64{0, 0}, impl.ErrNone},
		{a, []int64{-4, -4}, []int64{0, 0}, impl.ErrNone},
		{a, []int64{-4, -3}, []int64{-1, 0}, impl.ErrNone},
		{a, []int64{0, bottom}, []int64{0, -2}, impl.ErrNone}, // x(2) is 5, 3
		{a, []int64{bottom, 0}, []int64{0, -2}, impl.ErrNone}, // x(1) is 2, 0
		{a, []int64{0, -4}, []int64{0, -2}, impl.ErrNone},     // x(2) is 5, 3
		{[][]int64{{4}}, []int64{maxFinite - 4}, []int64{0}, impl.ErrNone},
		{[][]int64{{4}}, []int64{maxFinite - 3}, nil, impl.ErrLimit},
		{[][]int64{{-4}}, []int64{-maxFinite + 4}, []int64{0}, impl.ErrNone},
		{[][]int64{{2, bottom}, {0, 1}}, []int64{0, 20}, []int64{0, -2}, impl.ErrNone},
		{[][]int64{{2, bottom}, {0, 1}}, []int64{0, 98}, nil, impl.ErrNotFound},
		{[][]int64{{1, bottom}, {bottom, 2}}, []int64{7, bottom}, []int64{0, bottom}, impl.ErrNone},
		{[][]int64{{1, bottom}, {bottom, 2}}, []int64{0, 0}, nil, impl.ErrNotFound},
		{[][]int64{{10001, bottom}, {bottom, 2}}, []int64{0, 0}, nil, impl.ErrLimit},
		// The greatest element is not finite.
		{a, bottoms(2), bottoms(2), impl.ErrNone},
		{[][]int64{{bottom}}, []int64{7}, []int64{bottom}, impl.ErrNone},
		{forward(maxSize, 4), make([]int64, maxSize), bottoms(maxSize), impl.ErrNone},
		{filled(maxSize, maxSize, bottom), bottoms(maxSize), bottoms(maxSize), impl.ErrNone},
		// A shifted element is a value just so, and none.
		{loops, []int64{maxFinite, 0}, []int64{0, -maxFinite}, impl.ErrNone},
		{loops, []int64{0, -maxFinite}, []int64{0, -maxFinite}, impl.ErrNone},
		{loops, []int64{1, -maxFinite}, nil, impl.ErrLimit},
		{loops, []int64{-maxFinite, maxFinite}, nil, impl.ErrLimit},
		{loops, []int64{-maxFinite, -maxFinite}, []int64{0, 0}, impl.ErrNone},
		{loops, []int64{bottom, maxFinite}, []int64{bottom, 0}, impl.ErrNone},
		{unitOf(maxSize), []int64{1, 2, 3, 4, 5, 6, 7, 8, 9, 10}, []int64{-9, -8, -7, -6, -5, -4, -3, -2, -1, 0}, impl.ErrNone},
	}
	for _, c := range cases {
		x, code := impl.SteadyState(c.a, c.x)
		checkList(t, "SteadyState of "+impl.MatrixText(c.a), x, code, c.want, c.code)
	}
}

// checkNoOrbit gives a matrix and a vector for which all functions of orbits return the same error,
// whatever number comes after them.
func checkNoOrbit(t *testing.T, a [][]int64, x []int64, want int64) {
	t.Helper()
	for _, n := range []int64{0, 1, maxPower, maxPower + 1, -1, math.MinInt64, math.MaxInt64} {
		list, code := impl.OrbitOf(a, x, n)
		checkMatrix(t, "OrbitOf wrong arguments", list, code, nil, want)
	}
	k, period, growth, code := impl.OrbitRepeats(a, x)
	checkRepeat(t, "OrbitRepeats of wrong arguments", k, period, growth, code, repeated{}, want)
	r, code := impl.OrbitRate(a, x)
	checkRatio(t, "OrbitRate of wrong arguments", r, code, impl.Ratio{}, want)
	state, code := impl.SteadyState(a, x)
	checkList(t, "SteadyState of wrong arguments", state, code, nil, want)
}

func TestP07Fits(t *testing.T) {
	for n := 1; n <= maxSize; n++ {
		for m := 1; m <= maxSize; m++ {
			if m != n {
				checkNoOrbit(t, unitOf(n), make([]int64, m), impl.ErrState)
				checkNoOrbit(t, filled(n, n, maxFinite), slices.Repeat([]int64{maxFinite}, m), impl.ErrState)
				checkNoOrbit(t, filled(n, n, bottom), bottoms(m), impl.ErrState)
			}
		}
		checkOrbit(t, unitOf(n), make([]int64, n), repeated{0, 1, 0}, impl.ErrNone)
	}
}

// TestP07InvalidArguments gives invalid matrices and vectors together with all that is checked
// after them.
func TestP07InvalidArguments(t *testing.T) {
	numbers := []int64{0, 1, -1, maxSize, maxPower, maxPower + 1, maxExponent + 1, maxFinite + 1, math.MinInt64, math.MaxInt64}
	for _, bad := range notSquares() {
		for _, x := range append(notVectors(), []int64{0}, []int64{0, 0}, []int64{0, 0, 0}, make([]int64, maxSize)) {
			checkNoOrbit(t, bad, x, impl.ErrInvalid)
		}
		checkPowers(t, bad, repeated{}, impl.ErrInvalid)
		for _, n := range numbers {
			for _, m := range numbers {
				is, code := impl.IsRepeat(bad, n, m, 0)
				checkAnswer(t, "IsRepeat of no graph", is, code, false, impl.ErrInvalid)
				is, code = impl.IsRepeat(bad, 0, n, m)
				checkAnswer(t, "IsRepeat of no graph", is, code, false, impl.ErrInvalid)
				entry, code := impl.PowerEntry(bad, n, m, 0)
				checkNumber(t, "PowerEntry of no graph", entry, code, 0, impl.ErrInvalid)
				entry, code = impl.PowerEntry(bad, 0, n, m)
				checkNumber(t, "PowerEntry of no graph", entry, code, 0, impl.ErrInvalid)
			}
		}
	}
	for _, bad := range notVectors() {
		for _, a := range [][][]int64{{{0}}, {{maxFinite}}, unitOf(2), unitOf(3), filled(3, 3, maxFinite), filled(maxSize, maxSize, bottom)} {
			checkNoOrbit(t, a, bad, impl.ErrInvalid)
		}
	}
}

func TestP07ResultsShareNoMemory(t *testing.T) {
	before := [][]int64{{bottom, 2, bottom}, {3, 0, bottom}, {-1, bottom, bottom}}
	x := []int64{0, bottom, 4}
	repeats := func(k, period, growth, code int64) ([][]int64, int64) {
		return [][]int64{{k, period, growth}}, code
	}
	ofVector := func(a, rows [][]int64) map[string]func(rows [][]int64) ([][]int64, int64) {
		return map[string]func(rows [][]int64) ([][]int64, int64){
			"OrbitOf 0":    func(rows [][]int64) ([][]int64, int64) { return impl.OrbitOf(a, rows[0], 0) },
			"OrbitOf 9":    func(rows [][]int64) ([][]int64, int64) { return impl.OrbitOf(a, rows[0], 9) },
			"OrbitRepeats": func(rows [][]int64) ([][]int64, int64) { return repeats(impl.OrbitRepeats(a, rows[0])) },
			"OrbitRate":    means(func(rows [][]int64) (impl.Ratio, int64) { return impl.OrbitRate(a, rows[0]) }),
			"SteadyState":  oneRow(func(rows [][]int64) ([]int64, int64) { return impl.SteadyState(a, rows[0]) }),
			"ShiftVector":  oneRow(func(rows [][]int64) ([]int64, int64) { return impl.ShiftVector(rows[0], 5) }),
			"no shift":     oneRow(func(rows [][]int64) ([]int64, int64) { return impl.ShiftVector(rows[0], 0) }),
		}
	}
	for _, a := range [][][]int64{before, unitOf(3)} {
		checkCalls(t, map[string]func(a [][]int64) ([][]int64, int64){
			"OrbitOf":      func(a [][]int64) ([][]int64, int64) { return impl.OrbitOf(a, x, 9) },
			"OrbitRepeats": func(a [][]int64) ([][]int64, int64) { return repeats(impl.OrbitRepeats(a, x)) },
			"OrbitRate":    means(func(a [][]int64) (impl.Ratio, int64) { return impl.OrbitRate(a, x) }),
			"SteadyState":  oneRow(func(a [][]int64) ([]int64, int64) { return impl.SteadyState(a, x) }),
			"PowersRepeat": func(a [][]int64) ([][]int64, int64) { return repeats(impl.PowersRepeat(a)) },
			"PowerEntry":   numbers(func(a [][]int64) (int64, int64) { return impl.PowerEntry(a, 5000, 0, 0) }),
			"IsRepeat": answers(func(a [][]int64) bool {
				_, code := impl.IsRepeat(a, 3, 2, 5)
				return code == impl.ErrNone
			}),
		}, a)
		checkCalls(t, ofVector(a, [][]int64{x}), [][]int64{x})
	}
	checkCalls(t, ofVector(unitOf(1), [][]int64{{8}}), [][]int64{{8}})
}
