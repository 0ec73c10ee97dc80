package tests

import (
	"math"
	"math/rand/v2"
	"slices"
	"sync"
	"testing"

	"loop.example/g00941/impl"
)

// systemParts is all that the functions of systems tell of a matrix and a vector.
type systemParts struct {
	sub, best, solution, missed, cover                  []int64
	gap                                                 int64
	subCode, bestCode, solutionCode, coverCode, gapCode int64
}

func checkSystem(t *testing.T, a [][]int64, b []int64, want systemParts) {
	t.Helper()
	what := " of " + impl.MatrixText(a) + " and " + impl.MatrixText([][]int64{b})
	list, code := impl.GreatestSub(a, b)
	checkList(t, "GreatestSub"+what, list, code, want.sub, want.subCode)
	list, code = impl.BestBelow(a, b)
	checkList(t, "BestBelow"+what, list, code, want.best, want.bestCode)
	list, code = impl.SolveSystem(a, b)
	checkList(t, "SolveSystem"+what, list, code, want.solution, want.solutionCode)
	list, code = impl.MissedRows(a, b)
	checkList(t, "MissedRows"+what, list, code, want.missed, impl.ErrNone)
	list, code = impl.LeastCover(a, b)
	checkList(t, "LeastCover"+what, list, code, want.cover, want.coverCode)
	gap, code := impl.LargestGap(a, b)
	checkNumber(t, "LargestGap"+what, gap, code, want.gap, want.gapCode)
}

// checkSolved gives a system that has a solution.
func checkSolved(t *testing.T, a [][]int64, b, sub, cover []int64) {
	t.Helper()
	checkSystem(t, a, b, systemParts{sub: sub, best: b, solution: sub, cover: cover})
}

// noGap stands for a product that is Bottom where b is not.
const noGap = -1

// checkMissed gives a system that has no solution.
func checkMissed(t *testing.T, a [][]int64, b, sub, best, missed []int64, gap int64) {
	t.Helper()
	want := systemParts{sub: sub, best: best, missed: missed, gap: gap, solutionCode: impl.ErrNotFound, coverCode: impl.ErrNotFound}
	if gap == noGap {
		want.gap, want.gapCode = 0, impl.ErrNotFound
	}
	checkSystem(t, a, b, want)
}

// checkNoSystem gives arguments for which all functions of systems return the same error.
func checkNoSystem(t *testing.T, a [][]int64, b []int64, want int64) {
	t.Helper()
	for name, call := range map[string]func(a [][]int64, b []int64) ([]int64, int64){
		"GreatestSub": impl.GreatestSub, "BestBelow": impl.BestBelow, "SolveSystem": impl.SolveSystem, "MissedRows": impl.MissedRows, "LeastCover": impl.LeastCover,
	} {
		list, code := call(a, b)
		checkList(t, name+" of wrong arguments", list, code, nil, want)
	}
	gap, code := impl.LargestGap(a, b)
	checkNumber(t, "LargestGap of wrong arguments", gap, code, 0, want)
}

func checkNoQuotients(t *testing.T, a, b [][]int64, want int64) {
	t.Helper()
	x, code := impl.LeftQuotient(a, b)
	checkMatrix(t, "LeftQuotient of wrong arguments", x, code, nil, want)
	x, code = impl.RightQuotient(a, b)
	checkMatrix(t, "RightQuotient of wrong arguments", x, code, nil, want)
}

// flipped exchanges the rows and the columns.
func flipped(a [][]int64) [][]int64 {
	b := filled(len(a[0]), len(a), 0)
	for i := range b {
		for j := range a {
			b[i][j] = a[j][i]
		}
	}
	return b
}

func isBottomRow(row []int64) bool { return slices.Max(row) == bottom }

// plainQuotient takes the least quotients as the document says, whether they are values or not. Its
// second result is false if a column of a is Bottom as a whole.
func plainQuotient(a, b [][]int64) ([][]int64, bool) {
	x := filled(len(a[0]), len(b[0]), math.MaxInt64)
	for i := range a {
		for j, divisor := range a[i] {
			for k, dividend := range b[i] {
				switch {
				case divisor == bottom:
				case dividend == bottom:
					x[j][k] = bottom
				default:
					x[j][k] = min(x[j][k], dividend-divisor)
				}
			}
		}
	}
	return x, !slices.ContainsFunc(flipped(a), isBottomRow)
}

// plainCover tries all sets of columns.
func plainCover(a [][]int64, b, x []int64) []int64 {
	var least []int64
	found := false
	for set := range 1 << len(x) {
		var columns []int64
		for j := range x {
			if set>>j&1 == 1 {
				columns = append(columns, int64(j))
			}
		}
		smaller := !found || len(columns) < len(least) || len(columns) == len(least) && slices.Compare(columns, least) < 0
		if smaller && covers(a, b, x, columns) {
			least, found = columns, true
		}
	}
	return least
}

func covers(a [][]int64, b, x, columns []int64) bool {
	for i := range b {
		reached := b[i] == bottom
		for _, j := range columns {
			reached = reached || a[i][j] != bottom && x[j] != bottom && a[i][j]+x[j] == b[i]
		}
		if !reached {
			return false
		}
	}
	return true
}

// valuesOf is a list as a result, or an error if it does not consist of values.
func valuesOf(list []int64) ([]int64, int64) {
	if !allValues([][]int64{list}) {
		return nil, impl.ErrLimit
	}
	return list, impl.ErrNone
}

// plainGap is the greatest difference, whether it is a value or not, and false if there is none.
func plainGap(b, best []int64) (int64, bool) {
	gap := int64(0)
	for i := range b {
		switch {
		case b[i] == bottom:
		case best[i] == bottom:
			return 0, false
		default:
			gap = max(gap, b[i]-best[i])
		}
	}
	return gap, true
}

// plainSystem follows the definitions for arguments that fit.
func plainSystem(a [][]int64, b []int64) systemParts {
	quotient, _ := plainQuotient(a, columnOf(b))
	x := rowOf(quotient)
	y := plainTimes(a, x)
	var want systemParts
	want.sub, want.subCode = valuesOf(x)
	want.best, want.bestCode = valuesOf(y)
	for i := range b {
		if y[i] != b[i] {
			want.missed = append(want.missed, int64(i))
		}
	}
	if len(want.missed) > 0 {
		want.solutionCode, want.coverCode = impl.ErrNotFound, impl.ErrNotFound
	} else {
		want.solution, want.solutionCode = want.sub, want.subCode
		want.cover = plainCover(a, b, x)
	}
	gap, ok := plainGap(b, y)
	switch {
	case !ok:
		want.gapCode = impl.ErrNotFound
	case gap > maxFinite:
		want.gapCode = impl.ErrLimit
	default:
		want.gap = gap
	}
	return want
}

// patched puts an entry into each column that is Bottom as a whole.
func patched(random *rand.Rand, a [][]int64, entry int64) [][]int64 {
	b := cloneRows(a)
	for j, column := range flipped(a) {
		if isBottomRow(column) {
			b[random.IntN(len(b))][j] = entry
		}
	}
	return b
}

// divisors are matrices of all kinds without a column that is Bottom as a whole.
func divisors(random *rand.Rand, m, n int) [][][]int64 {
	var list [][][]int64
	for _, limit := range []int64{0, 1, 3, 50, 500000, maxFinite} {
		list = append(list, patched(random, randomMatrix(random, m, n, limit), limit))
	}
	list = append(list, patched(random, edgeMatrix(random, m, n), 0))
	// Each column reaches few rows, so that a cover needs many of them.
	narrow := filled(m, n, -9)
	for j := range n {
		narrow[random.IntN(m)][j] = random.Int64N(3)
	}
	return append(list, narrow)
}

// dividends are vectors that a product reaches as a whole, in most elements, or in few.
func dividends(random *rand.Rand, a [][]int64) [][]int64 {
	var list [][]int64
	for _, x := range someVectors(random, len(a[0])) {
		y, _ := valuesOf(plainTimes(a, x))
		if y == nil {
			continue
		}
		near := slices.Clone(y)
		near[random.IntN(len(near))] = random.Int64N(9) - 4
		partly := slices.Clone(y)
		partly[random.IntN(len(partly))] = bottom
		list = append(list, y, near, partly)
	}
	return append(list, someVectors(random, len(a))...)
}

// eachSystem makes systems of all sizes.
func eachSystem(random *rand.Rand, check func(a [][]int64, b []int64)) {
	for m := 1; m <= maxSize; m++ {
		for n := 1; n <= maxSize; n++ {
			for _, a := range divisors(random, m, n) {
				for _, b := range dividends(random, a) {
					check(a, b)
				}
			}
		}
	}
}

func TestP08SolvedSystems(t *testing.T) {
	a := [][]int64{{1, 2}, {bottom, 3}, {0, bottom}}
	falling := [][]int64{{9, 8, 7, 6, 5, 4, 3, 2, 1, 0}}
	even := []int64{0, bottom, 2, bottom, 4, bottom, 6, bottom, 8, bottom}
	cases := []struct {
		a             [][]int64
		b, sub, cover []int64
	}{
		{a, []int64{5, 6, 4}, []int64{4, 3}, []int64{0, 1}},
		{a, []int64{5, 6, 3}, []int64{3, 3}, []int64{0, 1}},
		// One entry.
		{[][]int64{{7}}, []int64{5}, []int64{-2}, []int64{0}},
		{[][]int64{{-7}}, []int64{5}, []int64{12}, []int64{0}},
		{[][]int64{{0}}, []int64{0}, []int64{0}, []int64{0}},
		{[][]int64{{0}}, []int64{bottom}, []int64{bottom}, nil},
		// One row: each column alone is enough.
		{[][]int64{{0, 5, 4, -2}}, []int64{3}, []int64{3, -2, -1, 5}, []int64{0}},
		{[][]int64{{0, 5, 4, -2}}, []int64{bottom}, bottoms(4), nil},
		{falling, []int64{10}, []int64{1, 2, 3, 4, 5, 6, 7, 8, 9, 10}, []int64{0}},
		// One column.
		{[][]int64{{3}, {-1}, {0}}, []int64{5, 1, 2}, []int64{2}, []int64{0}},
		{[][]int64{{3}, {bottom}, {0}}, []int64{5, bottom, 2}, []int64{2}, []int64{0}},
		{flipped(falling), []int64{4, 3, 2, 1, 0, -1, -2, -3, -4, -5}, []int64{-5}, []int64{0}},
		{filled(maxSize, 1, 6), bottoms(maxSize), []int64{bottom}, nil},
		// b is Bottom as a whole or in part.
		{a, bottoms(3), bottoms(2), nil},
		{unitOf(2), []int64{bottom, 4}, []int64{bottom, 4}, []int64{1}},
		{unitOf(2), []int64{4, bottom}, []int64{4, bottom}, []int64{0}},
		{[][]int64{{0, 0, bottom}, {bottom, 3, 0}}, []int64{4, bottom}, []int64{4, bottom, bottom}, []int64{0}},
		{[][]int64{{0, 0, bottom}, {3, bottom, 0}}, []int64{4, bottom}, []int64{bottom, 4, bottom}, []int64{1}},
		// A row that is Bottom as a whole, and b as well.
		{[][]int64{{bottom, bottom}, {2, 1}}, []int64{bottom, 3}, []int64{1, 2}, []int64{0}},
		// As many columns as there are.
		{unitOf(maxSize), falling[0], falling[0], []int64{0, 1, 2, 3, 4, 5, 6, 7, 8, 9}},
		{unitOf(maxSize), even, even, []int64{0, 2, 4, 6, 8}},
		{unitOf(maxSize), bottoms(maxSize), bottoms(maxSize), nil},
		{filled(maxSize, maxSize, 3), slices.Repeat([]int64{1}, maxSize), slices.Repeat([]int64{-2}, maxSize), []int64{0}},
		// The least and the greatest values.
		{[][]int64{{-maxFinite}}, []int64{0}, []int64{maxFinite}, []int64{0}},
		{[][]int64{{maxFinite}}, []int64{0}, []int64{-maxFinite}, []int64{0}},
		{[][]int64{{-maxFinite}}, []int64{-maxFinite}, []int64{0}, []int64{0}},
		{[][]int64{{maxFinite}}, []int64{maxFinite}, []int64{0}, []int64{0}},
		{[][]int64{{-1}}, []int64{maxFinite - 1}, []int64{maxFinite}, []int64{0}},
		{[][]int64{{1}}, []int64{-maxFinite + 1}, []int64{-maxFinite}, []int64{0}},
	}
	for _, c := range cases {
		checkSolved(t, c.a, c.b, c.sub, c.cover)
	}
}

func TestP08MissedSystems(t *testing.T) {
	a := [][]int64{{1, 2}, {bottom, 3}, {0, bottom}}
	pairs := [][]int64{{0, bottom}, {0, bottom}, {bottom, 0}, {bottom, 0}}
	rising := []int64{0, 1, 2, 3, 4, 5, 6, 7, 8, 9}
	cases := []struct {
		a                    [][]int64
		b, sub, best, missed []int64
		gap                  int64
	}{
		{a, []int64{5, 7, 4}, []int64{4, 3}, []int64{5, 6, 4}, []int64{1}, 1},
		{a, []int64{5, 9, 4}, []int64{4, 3}, []int64{5, 6, 4}, []int64{1}, 3},
		{a, []int64{5, 6, 5}, []int64{4, 3}, []int64{5, 6, 4}, []int64{2}, 1},
		{a, []int64{9, 6, 5}, []int64{5, 3}, []int64{6, 6, 5}, []int64{0}, 3},
		// All rows but one, which is the most: the least quotient of a column is reached.
		{filled(3, 1, 0), []int64{5, 3, 9}, []int64{3}, []int64{3, 3, 3}, []int64{0, 2}, 6},
		{filled(3, 1, 0), []int64{9, 5, 3}, []int64{3}, []int64{3, 3, 3}, []int64{0, 1}, 6},
		{filled(3, 1, 0), []int64{3, 8, 5}, []int64{3}, []int64{3, 3, 3}, []int64{1, 2}, 5},
		{filled(maxSize, 1, 0), rising, []int64{0}, make([]int64, maxSize), rising[1:], 9},
		{filled(maxSize, maxSize, 0), rising, make([]int64, maxSize), make([]int64, maxSize), rising[1:], 9},
		{filled(3, 1, -4), []int64{-5, -3, -9}, []int64{-5}, []int64{-9, -9, -9}, []int64{0, 1}, 6},
		{filled(2, 3, 0), []int64{7, 2}, []int64{2, 2, 2}, []int64{2, 2}, []int64{0}, 5},
		// The product is Bottom where b is not, in all these rows or in one of them.
		{[][]int64{{0}, {0}}, []int64{bottom, 1}, []int64{bottom}, bottoms(2), []int64{1}, noGap},
		{[][]int64{{0}, {0}}, []int64{1, bottom}, []int64{bottom}, bottoms(2), []int64{0}, noGap},
		{filled(3, 2, 0), []int64{1, bottom, 2}, bottoms(2), bottoms(3), []int64{0, 2}, noGap},
		{filled(maxSize, maxSize, 0), append([]int64{bottom}, rising[1:]...), bottoms(maxSize), bottoms(maxSize), rising[1:], noGap},
		{[][]int64{{bottom, bottom}, {2, 1}}, []int64{4, 3}, []int64{1, 2}, []int64{bottom, 3}, []int64{0}, noGap},
		{[][]int64{{bottom}, {2}}, []int64{-maxFinite, 3}, []int64{1}, []int64{bottom, 3}, []int64{0}, noGap},
		{pairs, []int64{bottom, 5, 1, 7}, []int64{bottom, 1}, []int64{bottom, bottom, 1, 1}, []int64{1, 3}, noGap},
		{pairs, []int64{1, 7, 5, bottom}, []int64{1, bottom}, []int64{1, 1, bottom, bottom}, []int64{1, 2}, noGap},
		// Where b is Bottom, there is no gap.
		{pairs, []int64{bottom, bottom, 3, 1}, []int64{bottom, 1}, []int64{bottom, bottom, 1, 1}, []int64{2}, 2},
		{pairs, []int64{3, 1, bottom, bottom}, []int64{1, bottom}, []int64{1, 1, bottom, bottom}, []int64{0}, 2},
		// Gaps at the limit, and a quotient beyond it that is not the least one.
		{filled(2, 1, 0), []int64{maxFinite, 0}, []int64{0}, []int64{0, 0}, []int64{0}, maxFinite},
		{filled(2, 1, 0), []int64{0, -maxFinite}, []int64{-maxFinite}, []int64{-maxFinite, -maxFinite}, []int64{0}, maxFinite},
		{[][]int64{{-1, bottom}, {0, 0}}, []int64{maxFinite, 5}, []int64{5, 5}, []int64{4, 5}, []int64{0}, maxFinite - 4},
		{[][]int64{{-maxFinite}, {0}}, []int64{0, 5}, []int64{5}, []int64{5 - maxFinite, 5}, []int64{0}, maxFinite - 5},
		// Bottom is less than a quotient that is no value.
		{[][]int64{{maxFinite}, {0}}, []int64{-maxFinite, bottom}, []int64{bottom}, bottoms(2), []int64{0}, noGap},
	}
	for _, c := range cases {
		checkMissed(t, c.a, c.b, c.sub, c.best, c.missed, c.gap)
	}
}

// TestP08SystemsBeyondTheLimit has numbers that are no values: only a result that has one of them is
// an error, and this error comes last.
func TestP08SystemsBeyondTheLimit(t *testing.T) {
	const limit, none = impl.ErrLimit, impl.ErrNotFound
	cases := []struct {
		a    [][]int64
		b    []int64
		want systemParts
	}{
		// There is a solution, but not of values.
		{[][]int64{{-maxFinite}}, []int64{1}, systemParts{subCode: limit, best: []int64{1}, solutionCode: limit, cover: []int64{0}}},
		{[][]int64{{-1}}, []int64{maxFinite}, systemParts{subCode: limit, best: []int64{maxFinite}, solutionCode: limit, cover: []int64{0}}},
		{[][]int64{{maxFinite}}, []int64{-1}, systemParts{subCode: limit, best: []int64{-1}, solutionCode: limit, cover: []int64{0}}},
		{[][]int64{{maxFinite}}, []int64{-maxFinite}, systemParts{subCode: limit, best: []int64{-maxFinite}, solutionCode: limit, cover: []int64{0}}},
		{[][]int64{{0, -maxFinite}}, []int64{1}, systemParts{subCode: limit, best: []int64{1}, solutionCode: limit, cover: []int64{0}}},
		{[][]int64{{-maxFinite, 0}, {0, bottom}}, []int64{-maxFinite, 0}, systemParts{sub: []int64{0, -maxFinite}, best: []int64{-maxFinite, 0}, solution: []int64{0, -maxFinite}, cover: []int64{0}}},
		{[][]int64{{bottom, 0}, {1, bottom}}, []int64{7, -maxFinite}, systemParts{subCode: limit, best: []int64{7, -maxFinite}, solutionCode: limit, cover: []int64{0, 1}}},
		// There is none.
		{filled(2, 1, maxFinite), []int64{0, -maxFinite}, systemParts{subCode: limit, best: []int64{-maxFinite, -maxFinite}, solutionCode: none, missed: []int64{0}, coverCode: none, gap: maxFinite}},
		{filled(2, 1, maxFinite), []int64{1, -maxFinite}, systemParts{subCode: limit, best: []int64{-maxFinite, -maxFinite}, solutionCode: none, missed: []int64{0}, coverCode: none, gapCode: limit}},
		{filled(2, 1, 0), []int64{maxFinite, -1}, systemParts{sub: []int64{-1}, best: []int64{-1, -1}, solutionCode: none, missed: []int64{0}, coverCode: none, gapCode: limit}},
		{[][]int64{{0}, {maxFinite}}, []int64{maxFinite, -maxFinite}, systemParts{subCode: limit, bestCode: limit, solutionCode: none, missed: []int64{0}, coverCode: none, gapCode: limit}},
		{[][]int64{{maxFinite - 10}, {maxFinite}}, []int64{-maxFinite + 5, -maxFinite}, systemParts{subCode: limit, bestCode: limit, solutionCode: none, missed: []int64{0}, coverCode: none, gap: 15}},
		{[][]int64{{-1}, {0}}, []int64{0, -maxFinite}, systemParts{sub: []int64{-maxFinite}, bestCode: limit, solutionCode: none, missed: []int64{0}, coverCode: none, gapCode: limit}},
		{[][]int64{{-1}, {0}}, []int64{-9, -maxFinite}, systemParts{sub: []int64{-maxFinite}, bestCode: limit, solutionCode: none, missed: []int64{0}, coverCode: none, gap: maxFinite - 8}},
		// A product that is Bottom is told before a gap that is no value, on either side of it.
		{[][]int64{{0, bottom}, {maxFinite, bottom}, {bottom, 0}, {bottom, 0}}, []int64{maxFinite, -maxFinite, bottom, 3}, systemParts{subCode: limit, bestCode: limit, solutionCode: none, missed: []int64{0, 3}, coverCode: none, gapCode: none}},
		{[][]int64{{bottom, 0}, {bottom, 0}, {0, bottom}, {maxFinite, bottom}}, []int64{3, bottom, maxFinite, -maxFinite}, systemParts{subCode: limit, bestCode: limit, solutionCode: none, missed: []int64{0, 2}, coverCode: none, gapCode: none}},
	}
	for _, c := range cases {
		checkSystem(t, c.a, c.b, c.want)
	}
}

// TestP08LeastCover has columns that reach 0 in the rows of a list, and have the given entry elsewhere.
func TestP08LeastCover(t *testing.T) {
	cases := []struct {
		rows    int
		columns [][]int
		want    []int64
	}{
		{1, [][]int{{0}, {0}, {0}}, []int64{0}},
		{2, [][]int{{0}, {1}, {0, 1}}, []int64{2}},
		{2, [][]int{{0}, {1}, {0, 1}, {0, 1}}, []int64{2}},
		{2, [][]int{{0}, {0}, {1}}, []int64{0, 2}},
		{2, [][]int{{1}, {0}, {0}, {1}}, []int64{0, 1}},
		{2, [][]int{{1}, {1}, {1}, {0}, {0}}, []int64{0, 3}},
		{3, [][]int{{2}, {0}, {1}, {0, 1}}, []int64{0, 3}},
		{3, [][]int{{0}, {1}, {2}}, []int64{0, 1, 2}},
		{3, [][]int{{1, 2}, {0, 2}, {0, 1}}, []int64{0, 1}},
		{3, [][]int{{0}, {1, 2}, {2}, {0, 1}}, []int64{0, 1}},
		{4, [][]int{{0}, {3}, {0, 2}, {1, 3}, {2, 3}, {0, 1}}, []int64{2, 3}},
		// The column that reaches the most rows is no part of the least cover.
		{6, [][]int{{0, 1, 3, 4}, {0, 1, 2}, {3, 4, 5}}, []int64{1, 2}},
		{6, [][]int{{0, 1, 2}, {0, 1, 3, 4}, {3, 4, 5}}, []int64{0, 2}},
		{6, [][]int{{0, 1}, {2, 3}, {4, 5}, {0, 2, 4}, {1, 3, 5}}, []int64{3, 4}},
		// A set that is lexicographically smaller has more columns.
		{4, [][]int{{0}, {1}, {2}, {3}, {0, 1}, {2, 3}}, []int64{4, 5}},
		{10, [][]int{{0}, {1}, {2}, {3}, {4}, {5}, {6}, {7}, {8}, {9}}, []int64{0, 1, 2, 3, 4, 5, 6, 7, 8, 9}},
		{10, [][]int{{9}, {8}, {7}, {6}, {5}, {4}, {3}, {2}, {1}, {0, 1}}, []int64{0, 1, 2, 3, 4, 5, 6, 7, 9}},
		{10, [][]int{{0}, {0}, {0}, {0}, {0, 1}, {0, 9}, {2, 3, 4}, {3, 4, 5}, {5, 6, 7}, {1, 8, 9}}, []int64{0, 6, 8, 9}},
		{10, [][]int{{0, 1, 2, 3, 4, 5, 6, 7, 8}, {0}, {0}, {0}, {0}, {0}, {0}, {0}, {0}, {9}}, []int64{0, 9}},
	}
	for _, c := range cases {
		for _, elsewhere := range []int64{-1, -500, bottom} {
			a := filled(c.rows, len(c.columns), elsewhere)
			for j, rows := range c.columns {
				for _, i := range rows {
					a[i][j] = 0
				}
			}
			checkSolved(t, a, make([]int64, c.rows), make([]int64, len(c.columns)), c.want)
		}
	}
}

func TestP08SystemsFollowTheDefinition(t *testing.T) {
	kinds := map[string]map[int64]int{"sub": {}, "best": {}, "solution": {}, "gap": {}, "missed": {}, "cover": {}}
	eachSystem(newRandom(81), func(a [][]int64, b []int64) {
		want := plainSystem(a, b)
		checkSystem(t, a, b, want)
		kinds["sub"][want.subCode]++
		kinds["best"][want.bestCode]++
		kinds["solution"][want.solutionCode]++
		kinds["gap"][want.gapCode]++
		kinds["missed"][int64(len(want.missed))]++
		if want.coverCode == impl.ErrNone {
			kinds["cover"][int64(len(want.cover))]++
		}
	})
	checkVaried(t, kinds["sub"], map[int64]int{impl.ErrNone: 5000, impl.ErrLimit: 500})
	checkVaried(t, kinds["best"], map[int64]int{impl.ErrNone: 5000, impl.ErrLimit: 200})
	checkVaried(t, kinds["solution"], map[int64]int{impl.ErrNone: 2000, impl.ErrNotFound: 2000, impl.ErrLimit: 200})
	checkVaried(t, kinds["gap"], map[int64]int{impl.ErrNone: 5000, impl.ErrNotFound: 500, impl.ErrLimit: 200})
	checkVaried(t, kinds["missed"], map[int64]int{0: 2000, 1: 500, 2: 300, 5: 100, 9: 20})
	checkVaried(t, kinds["cover"], map[int64]int{0: 200, 1: 1000, 2: 300, 3: 100, 4: 50, 5: 10})
}

// isBelow reports whether each element of a is at most that of b.
func isBelow(a, b [][]int64) bool {
	return equalRows(plainSum(a, b), b)
}

// checkNoGreater raises each element of x alone: the product with a has to exceed b.
func checkNoGreater(t *testing.T, a [][]int64, x, b []int64) {
	t.Helper()
	if !isBelow([][]int64{plainTimes(a, x)}, [][]int64{b}) {
		t.Errorf("the product of %v and %v is not at most %v", a, x, b)
	}
	for j := range x {
		y := slices.Clone(x)
		y[j] = max(y[j]+1, -maxFinite)
		if isBelow([][]int64{plainTimes(a, y)}, [][]int64{b}) {
			t.Errorf("the product of %v and not only %v, but also %v is at most %v", a, x, y, b)
		}
	}
}

// TestP08Guarantee is the promise: no greater vector is a subsolution.
func TestP08Guarantee(t *testing.T) {
	count := 0
	eachSystem(newRandom(82), func(a [][]int64, b []int64) {
		if x, code := impl.GreatestSub(a, b); code == impl.ErrNone {
			checkNoGreater(t, a, x, b)
			count++
		}
	})
	if count < 5000 {
		t.Errorf("only %d systems have a greatest subsolution of values", count)
	}
}

// tuples goes through all lists of n of some values.
func tuples(values []int64, n int, try func(list []int64)) {
	lists(len(values), n, func(indices []int64) {
		list := make([]int64, n)
		for i, index := range indices {
			list[i] = values[index]
		}
		try(list)
	})
}

// A vector is a subsolution exactly if it is at most the greatest one.
func TestP08AllSmallVectors(t *testing.T) {
	random := newRandom(83)
	for m := 1; m <= 3; m++ {
		for n := 1; n <= 3; n++ {
			for range 60 {
				a := patched(random, randomMatrix(random, m, n, 2), 1)
				b := randomMatrix(random, 1, m, 2)
				x, code := impl.GreatestSub(a, b[0])
				if code != impl.ErrNone {
					t.Fatalf("GreatestSub(%v, %v): code %d", a, b[0], code)
				}
				tuples([]int64{bottom, -4, -3, -2, -1, 0, 1, 2, 3, 4, 5}, n, func(y []int64) {
					below := isBelow([][]int64{plainTimes(a, y)}, b)
					if below != isBelow([][]int64{y}, [][]int64{x}) {
						t.Errorf("GreatestSub(%v, %v) = %v, and for %v it is %v that it is a subsolution", a, b[0], x, y, below)
					}
				})
			}
		}
	}
}

func TestP08Quotients(t *testing.T) {
	a := [][]int64{{1, 2}, {bottom, 3}}
	b := [][]int64{{5, 0}, {6, 9}}
	lower := [][]int64{{bottom, bottom}, {1, 2}}
	column, row := [][]int64{{1}, {bottom}, {-3}}, [][]int64{{2, bottom, -3}}
	cases := []struct {
		a, b, left, right   [][]int64
		leftCode, rightCode int64
	}{
		{a, b, [][]int64{{4, -1}, {3, -2}}, [][]int64{{-2, -3}, {5, 6}}, impl.ErrNone, impl.ErrNone},
		{b, a, [][]int64{{bottom, -3}, {bottom, -6}}, [][]int64{{-4, -7}, {bottom, bottom}}, impl.ErrNone, impl.ErrNone},
		{a, a, [][]int64{{0, 1}, {bottom, 0}}, [][]int64{{0, -1}, {bottom, 0}}, impl.ErrNone, impl.ErrNone},
		{b, b, [][]int64{{0, -5}, {-3, 0}}, [][]int64{{0, -9}, {1, 0}}, impl.ErrNone, impl.ErrNone},
		{[][]int64{{7}}, [][]int64{{5}}, [][]int64{{-2}}, [][]int64{{-2}}, impl.ErrNone, impl.ErrNone},
		{unitOf(2), a, a, a, impl.ErrNone, impl.ErrNone},
		{unitOf(maxSize), ring(maxSize, 8), ring(maxSize, 8), ring(maxSize, 8), impl.ErrNone, impl.ErrNone},
		{filled(maxSize, maxSize, 2), filled(maxSize, maxSize, 9), filled(maxSize, maxSize, 7), filled(maxSize, maxSize, 7), impl.ErrNone, impl.ErrNone},
		{a, filled(2, 2, bottom), filled(2, 2, bottom), filled(2, 2, bottom), impl.ErrNone, impl.ErrNone},
		// One column and one row.
		{column, [][]int64{{5}, {7}, {9}}, [][]int64{{4}}, nil, impl.ErrNone, impl.ErrState},
		{column, [][]int64{{5, 9}, {bottom, bottom}, {9, bottom}}, [][]int64{{4, bottom}}, nil, impl.ErrNone, impl.ErrState},
		{row, [][]int64{{5, 7, 9}}, nil, [][]int64{{3}}, impl.ErrState, impl.ErrNone},
		{row, [][]int64{{5, bottom, 9}, {9, bottom, bottom}}, nil, [][]int64{{3}, {bottom}}, impl.ErrState, impl.ErrNone},
		{[][]int64{{2, 0, -3}}, [][]int64{{5, 7, 9}}, [][]int64{{3, 5, 7}, {5, 7, 9}, {8, 10, 12}}, [][]int64{{3}}, impl.ErrNone, impl.ErrNone},
		// A row or a column of a that is Bottom as a whole. In b it does no harm.
		{lower, b, [][]int64{{5, 8}, {4, 7}}, nil, impl.ErrNone, impl.ErrState},
		{flipped(lower), b, nil, [][]int64{{-1, -2}, {8, 7}}, impl.ErrState, impl.ErrNone},
		{filled(2, 2, bottom), b, nil, nil, impl.ErrState, impl.ErrState},
		{a, lower, filled(2, 2, bottom), [][]int64{{bottom, bottom}, {0, -1}}, impl.ErrNone, impl.ErrNone},
		{a, flipped(lower), [][]int64{{bottom, 0}, {bottom, -1}}, [][]int64{{bottom, -2}, {bottom, -1}}, impl.ErrNone, impl.ErrNone},
		// The limit, and beyond.
		{[][]int64{{0}}, [][]int64{{maxFinite}}, [][]int64{{maxFinite}}, [][]int64{{maxFinite}}, impl.ErrNone, impl.ErrNone},
		{[][]int64{{-maxFinite}}, [][]int64{{0}}, [][]int64{{maxFinite}}, [][]int64{{maxFinite}}, impl.ErrNone, impl.ErrNone},
		{[][]int64{{maxFinite}}, [][]int64{{0}}, [][]int64{{-maxFinite}}, [][]int64{{-maxFinite}}, impl.ErrNone, impl.ErrNone},
		{[][]int64{{maxFinite}}, [][]int64{{maxFinite}}, [][]int64{{0}}, [][]int64{{0}}, impl.ErrNone, impl.ErrNone},
		{[][]int64{{maxFinite}}, [][]int64{{bottom}}, [][]int64{{bottom}}, [][]int64{{bottom}}, impl.ErrNone, impl.ErrNone},
		{[][]int64{{-1}}, [][]int64{{maxFinite}}, nil, nil, impl.ErrLimit, impl.ErrLimit},
		{[][]int64{{-maxFinite}}, [][]int64{{1}}, nil, nil, impl.ErrLimit, impl.ErrLimit},
		{[][]int64{{maxFinite}}, [][]int64{{-1}}, nil, nil, impl.ErrLimit, impl.ErrLimit},
		{[][]int64{{-maxFinite}}, [][]int64{{maxFinite}}, nil, nil, impl.ErrLimit, impl.ErrLimit},
		{[][]int64{{maxFinite}}, [][]int64{{-maxFinite}}, nil, nil, impl.ErrLimit, impl.ErrLimit},
		{unitOf(2), [][]int64{{0, maxFinite}, {-maxFinite, 0}}, [][]int64{{0, maxFinite}, {-maxFinite, 0}}, [][]int64{{0, maxFinite}, {-maxFinite, 0}}, impl.ErrNone, impl.ErrNone},
		{[][]int64{{0, bottom}, {bottom, -1}}, [][]int64{{maxFinite, 0}, {0, 0}}, [][]int64{{maxFinite, 0}, {1, 1}}, [][]int64{{maxFinite, 1}, {0, 1}}, impl.ErrNone, impl.ErrNone},
		{[][]int64{{0, bottom}, {bottom, -1}}, [][]int64{{0, maxFinite}, {0, 0}}, [][]int64{{0, maxFinite}, {1, 1}}, nil, impl.ErrNone, impl.ErrLimit},
		{[][]int64{{0, bottom}, {bottom, -1}}, [][]int64{{0, 0}, {maxFinite, 0}}, nil, [][]int64{{0, 1}, {maxFinite, 1}}, impl.ErrLimit, impl.ErrNone},
		// Only the least quotient has to be a value.
		{[][]int64{{-1, 0}, {0, 0}}, [][]int64{{maxFinite, 3}, {4, 5}}, [][]int64{{4, 4}, {4, 3}}, [][]int64{{3, 3}, {5, 4}}, impl.ErrNone, impl.ErrNone},
		{filled(2, 2, 1), [][]int64{{bottom, -maxFinite}, {-maxFinite, bottom}}, filled(2, 2, bottom), filled(2, 2, bottom), impl.ErrNone, impl.ErrNone},
	}
	for _, c := range cases {
		what := " of " + impl.MatrixText(c.a) + " and " + impl.MatrixText(c.b)
		x, code := impl.LeftQuotient(c.a, c.b)
		checkMatrix(t, "LeftQuotient"+what, x, code, c.left, c.leftCode)
		x, code = impl.RightQuotient(c.a, c.b)
		checkMatrix(t, "RightQuotient"+what, x, code, c.right, c.rightCode)
	}
}

// eachPair makes two matrices with as many rows, of all sizes.
func eachPair(random *rand.Rand, check func(a, b [][]int64)) {
	for m := 1; m <= maxSize; m++ {
		for k := 1; k <= maxSize; k++ {
			for n := 1; n <= maxSize; n += random.IntN(3) + 1 {
				for _, a := range divisors(random, m, k) {
					check(a, randomMatrix(random, m, n, 400000))
					check(a, edgeMatrix(random, m, n))
				}
				check(randomMatrix(random, m, k, 500000), randomMatrix(random, m, n, 500000))
			}
		}
	}
}

func TestP08QuotientsFollowTheDefinition(t *testing.T) {
	codes := map[int64]int{}
	eachPair(newRandom(84), func(a, b [][]int64) {
		want, ok := plainQuotient(a, b)
		wantFlipped, wantCode := flipped(want), int64(impl.ErrNone)
		switch {
		case !ok:
			want, wantFlipped, wantCode = nil, nil, impl.ErrState
		case !allValues(want):
			want, wantFlipped, wantCode = nil, nil, impl.ErrLimit
		}
		what := " of " + impl.MatrixText(a) + " and " + impl.MatrixText(b)
		x, code := impl.LeftQuotient(a, b)
		checkMatrix(t, "LeftQuotient"+what, x, code, want, wantCode)
		x, code = impl.RightQuotient(flipped(a), flipped(b))
		checkMatrix(t, "RightQuotient, flipped,"+what, x, code, wantFlipped, wantCode)
		codes[wantCode]++
	})
	checkVaried(t, codes, map[int64]int{impl.ErrNone: 2000, impl.ErrLimit: 1000, impl.ErrState: 50})
}

// TestP08NoGreaterMatrix raises the entries of quotients one by one.
func TestP08NoGreaterMatrix(t *testing.T) {
	count := 0
	eachPair(newRandom(85), func(a, b [][]int64) {
		if x, code := impl.LeftQuotient(a, b); code == impl.ErrNone {
			for k, column := range flipped(b) {
				checkNoGreater(t, a, flipped(x)[k], column)
			}
			count++
		}
		if x, code := impl.RightQuotient(a, filled(1, len(a[0]), 3)); code == impl.ErrNone {
			checkNoGreater(t, flipped(a), x[0], slices.Repeat([]int64{3}, len(a[0])))
			count++
		}
	})
	if count < 4000 {
		t.Errorf("only %d quotients consist of values", count)
	}
}

// TestP08ProductsStay is the other half of the guarantee: multiplying and dividing again does not
// change a product.
func TestP08ProductsStay(t *testing.T) {
	random := newRandom(86)
	count := 0
	for range 3000 {
		m, k, n := random.IntN(maxSize)+1, random.IntN(maxSize)+1, random.IntN(maxSize)+1
		limit := []int64{1, 5, 100, 250000}[random.IntN(4)]
		a := patched(random, randomMatrix(random, m, k, limit), limit)
		x := randomMatrix(random, k, n, limit)
		product := must(t)(impl.MultiplyMatrices(a, x))
		quotient, code := impl.LeftQuotient(a, product)
		if code != impl.ErrNone {
			continue
		}
		count++
		again, code := impl.MultiplyMatrices(a, quotient)
		checkMatrix(t, "the product with the left quotient", again, code, product, impl.ErrNone)
		if !isBelow(x, quotient) {
			t.Errorf("LeftQuotient(%v, %v) = %v, and %v is not at most this", a, product, quotient, x)
		}
		right := must(t)(impl.RightQuotient(flipped(a), flipped(product)))
		again, code = impl.MultiplyMatrices(right, flipped(a))
		checkMatrix(t, "the product with the right quotient", again, code, flipped(product), impl.ErrNone)
		for i, b := range flipped(product) {
			checkReached(t, a, b, flipped(quotient)[i])
		}
	}
	if count < 2000 {
		t.Errorf("only %d quotients consist of values", count)
	}
}

// checkReached gives a vector that is a product of a.
func checkReached(t *testing.T, a [][]int64, b, want []int64) {
	t.Helper()
	x, code := impl.SolveSystem(a, b)
	checkList(t, "SolveSystem of a product", x, code, want, impl.ErrNone)
	best, code := impl.BestBelow(a, b)
	checkList(t, "BestBelow of a product", best, code, b, impl.ErrNone)
	missed, code := impl.MissedRows(a, b)
	checkList(t, "MissedRows of a product", missed, code, nil, impl.ErrNone)
	gap, code := impl.LargestGap(a, b)
	checkNumber(t, "LargestGap of a product", gap, code, 0, impl.ErrNone)
}

// What is divided once more is divided already: the best below b has the same greatest subsolution.
func TestP08QuotientsStay(t *testing.T) {
	count := 0
	eachSystem(newRandom(87), func(a [][]int64, b []int64) {
		x, code := impl.GreatestSub(a, b)
		best, bestCode := impl.BestBelow(a, b)
		if code == impl.ErrNone && bestCode == impl.ErrNone {
			checkReached(t, a, best, x)
			count++
		}
	})
	if count < 5000 {
		t.Errorf("only %d systems consist of values", count)
	}
}

// TestP08Fits tries all pairs of sizes, with numbers that lead to other errors where they fit.
func TestP08Fits(t *testing.T) {
	for m := 1; m <= maxSize; m++ {
		for n := 1; n <= maxSize; n++ {
			a := filled(m, n, maxFinite)
			for k := 1; k <= maxSize; k++ {
				for _, element := range []int64{bottom, -maxFinite, 0} {
					if k != m {
						checkNoSystem(t, a, slices.Repeat([]int64{element}, k), impl.ErrState)
					}
				}
				for l := 1; l <= maxSize; l++ {
					wantLeft, wantRight := int64(impl.ErrLimit), int64(impl.ErrLimit)
					if k != m {
						wantLeft = impl.ErrState
					}
					if l != n {
						wantRight = impl.ErrState
					}
					x, code := impl.LeftQuotient(a, filled(k, l, -1))
					checkMatrix(t, "LeftQuotient of all sizes", x, code, nil, wantLeft)
					x, code = impl.RightQuotient(a, filled(k, l, -1))
					checkMatrix(t, "RightQuotient of all sizes", x, code, nil, wantRight)
				}
			}
			checkSolved(t, a, slices.Repeat([]int64{0}, m), slices.Repeat([]int64{-maxFinite}, n), []int64{0})
		}
	}
}

// TestP08ColumnsOfBottom makes one column Bottom, wherever it is, and adds what would be another error.
func TestP08ColumnsOfBottom(t *testing.T) {
	for m := 1; m <= maxSize; m++ {
		for n := 1; n <= maxSize; n++ {
			for j := range n {
				for _, entry := range []int64{0, maxFinite, -maxFinite} {
					a := filled(m, n, entry)
					for i := range a {
						a[i][j] = bottom
					}
					checkNoDivisor(t, a)
					// One finite entry, wherever it is, is enough.
					a[(m+n)%m][j] = entry
					checkSystem(t, a, unitOf(m)[0], plainSystem(a, unitOf(m)[0]))
				}
			}
			checkNoDivisor(t, filled(m, n, bottom))
		}
	}
}

func checkNoDivisor(t *testing.T, a [][]int64) {
	t.Helper()
	m := len(a)
	for _, b := range [][]int64{make([]int64, m), bottoms(m), slices.Repeat([]int64{-maxFinite}, m), unitOf(m)[0]} {
		checkNoSystem(t, a, b, impl.ErrState)
		x, code := impl.LeftQuotient(a, columnOf(b))
		checkMatrix(t, "LeftQuotient by a column of Bottom", x, code, nil, impl.ErrState)
		x, code = impl.RightQuotient(flipped(a), [][]int64{b})
		checkMatrix(t, "RightQuotient by a row of Bottom", x, code, nil, impl.ErrState)
	}
}

// TestP08InvalidArguments gives invalid arguments together with all that is checked after them.
func TestP08InvalidArguments(t *testing.T) {
	matrices := [][][]int64{{{0}}, {{bottom}}, {{maxFinite}}, unitOf(2), {{1, bottom}}, {{1}, {bottom}}, filled(3, 3, maxFinite), filled(maxSize, maxSize, bottom)}
	for _, bad := range notMatrices() {
		for _, b := range append(notVectors(), []int64{0}, []int64{bottom}, []int64{0, 0}, []int64{0, 0, 0}, bottoms(maxSize)) {
			checkNoSystem(t, bad, b, impl.ErrInvalid)
		}
		for _, other := range append(notMatrices(), matrices...) {
			checkNoQuotients(t, bad, other, impl.ErrInvalid)
			checkNoQuotients(t, other, bad, impl.ErrInvalid)
		}
	}
	for _, bad := range notVectors() {
		for _, a := range matrices {
			checkNoSystem(t, a, bad, impl.ErrInvalid)
		}
	}
}

func TestP08ResultsShareNoMemory(t *testing.T) {
	before := [][]int64{{1, 2, bottom}, {bottom, 3, 0}, {0, bottom, 1}}
	missed := []int64{9, 9, 4}
	ofSystem := func(a func(rows [][]int64) [][]int64, b func(rows [][]int64) []int64) map[string]func(rows [][]int64) ([][]int64, int64) {
		return map[string]func(rows [][]int64) ([][]int64, int64){
			"GreatestSub": oneRow(func(rows [][]int64) ([]int64, int64) { return impl.GreatestSub(a(rows), b(rows)) }),
			"BestBelow":   oneRow(func(rows [][]int64) ([]int64, int64) { return impl.BestBelow(a(rows), b(rows)) }),
			"MissedRows":  oneRow(func(rows [][]int64) ([]int64, int64) { return impl.MissedRows(a(rows), b(rows)) }),
			"LargestGap":  numbers(func(rows [][]int64) (int64, int64) { return impl.LargestGap(a(rows), b(rows)) }),
		}
	}
	ofSolved := func(a func(rows [][]int64) [][]int64, b func(rows [][]int64) []int64) map[string]func(rows [][]int64) ([][]int64, int64) {
		calls := ofSystem(a, b)
		calls["SolveSystem"] = oneRow(func(rows [][]int64) ([]int64, int64) { return impl.SolveSystem(a(rows), b(rows)) })
		calls["LeastCover"] = oneRow(func(rows [][]int64) ([]int64, int64) { return impl.LeastCover(a(rows), b(rows)) })
		return calls
	}
	whole := func(rows [][]int64) [][]int64 { return rows }
	first := func(rows [][]int64) []int64 { return rows[0] }
	given := func(a [][]int64) func(rows [][]int64) [][]int64 { return func(rows [][]int64) [][]int64 { return a } }
	checkCalls(t, ofSystem(whole, func(rows [][]int64) []int64 { return missed }), before)
	checkCalls(t, ofSystem(given(before), first), [][]int64{missed})
	solved := plainTimes(before, []int64{3, 1, 2})
	checkCalls(t, ofSolved(whole, func(rows [][]int64) []int64 { return solved }), before)
	checkCalls(t, ofSolved(given(before), first), [][]int64{solved})
	// The result has the same numbers as an argument.
	checkCalls(t, ofSolved(given(unitOf(3)), first), [][]int64{{7, bottom, 5}})
	checkCalls(t, ofSolved(given(unitOf(1)), first), [][]int64{{0}})
	checkCalls(t, map[string]func(a [][]int64) ([][]int64, int64){
		"LeftQuotient":            func(a [][]int64) ([][]int64, int64) { return impl.LeftQuotient(a, a) },
		"LeftQuotient of a":       func(a [][]int64) ([][]int64, int64) { return impl.LeftQuotient(a, filled(3, 7, 0)) },
		"LeftQuotient by a unit":  func(a [][]int64) ([][]int64, int64) { return impl.LeftQuotient(unitOf(3), a) },
		"LeftQuotient by a ring":  func(a [][]int64) ([][]int64, int64) { return impl.LeftQuotient(ring(3, 0), a) },
		"LeftQuotient, all alike": func(a [][]int64) ([][]int64, int64) { return impl.LeftQuotient(filled(3, 3, 0), a) },
		"RightQuotient":           func(a [][]int64) ([][]int64, int64) { return impl.RightQuotient(a, a) },
		"RightQuotient of a":      func(a [][]int64) ([][]int64, int64) { return impl.RightQuotient(a, filled(7, 3, 0)) },
		"RightQuotient by a unit": func(a [][]int64) ([][]int64, int64) { return impl.RightQuotient(unitOf(3), a) },
		"RightQuotient by a ring": func(a [][]int64) ([][]int64, int64) { return impl.RightQuotient(ring(3, 0), a) },
	}, before)
}

// TestP08AtTheSameTime makes calls of the same arguments at once: each of them gets what a single one
// gets.
func TestP08AtTheSameTime(t *testing.T) {
	random := newRandom(88)
	a := patched(random, randomMatrix(random, maxSize, maxSize, 50), 0)
	b := randomMatrix(random, maxSize, maxSize, 50)
	want, _ := plainQuotient(a, b)
	system := plainSystem(a, b[0])
	var callers sync.WaitGroup
	for range 50 {
		callers.Go(func() {
			for range 20 {
				x, code := impl.LeftQuotient(a, b)
				checkMatrix(t, "LeftQuotient at the same time", x, code, want, impl.ErrNone)
				checkSystem(t, a, b[0], system)
			}
		})
	}
	callers.Wait()
}
