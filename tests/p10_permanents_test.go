package tests

import (
	"fmt"
	"math"
	"math/rand/v2"
	"slices"
	"sync"
	"testing"

	"loop.example/g00941/impl"
)

// permanentParts is all that the chapter tells of the assignments of one matrix. Its numbers need not
// be values. There is no best assignment if the permanent is Bottom.
type permanentParts struct {
	weight int64
	best   []int64
	count  int64
	u, v   []int64
}

// numberOf is a number as a result, or an error if it is no value.
func numberOf(n int64) (int64, int64) {
	if n != bottom && !isFiniteNumber(n) {
		return 0, impl.ErrLimit
	}
	return n, impl.ErrNone
}

// dualOf is the dual as a result, or the error that stands for it.
func (want permanentParts) dualOf() ([]int64, []int64, int64) {
	if want.best == nil {
		return nil, nil, impl.ErrNotFound
	}
	if _, code := valuesOf(slices.Concat(want.u, want.v)); code != impl.ErrNone {
		return nil, nil, code
	}
	return want.u, want.v, impl.ErrNone
}

func checkDual(t *testing.T, what string, u, v []int64, code int64, wantU, wantV []int64, wantCode int64) {
	t.Helper()
	if code != wantCode || !slices.Equal(u, wantU) || !slices.Equal(v, wantV) {
		t.Errorf("%s = %v, %v, %d, want %v, %v, %d", what, u, v, code, wantU, wantV, wantCode)
	}
}

// checkAssignments returns the error of DualOf.
func checkAssignments(t *testing.T, a [][]int64, want permanentParts) int64 {
	t.Helper()
	what := " of " + impl.MatrixText(a)
	n, code := impl.PermanentOf(a)
	number, numberCode := numberOf(want.weight)
	checkNumber(t, "PermanentOf"+what, n, code, number, numberCode)
	best, code := impl.BestAssignment(a)
	bestCode := int64(impl.ErrNone)
	if want.best == nil {
		bestCode = impl.ErrNotFound
	}
	checkList(t, "BestAssignment"+what, best, code, want.best, bestCode)
	n, code = impl.CountAssignments(a)
	number, numberCode = numberOf(want.count)
	checkNumber(t, "CountAssignments"+what, n, code, number, numberCode)
	is, code := impl.IsSingular(a)
	checkAnswer(t, "IsSingular"+what, is, code, want.count != 1, impl.ErrNone)
	wantU, wantV, wantCode := want.dualOf()
	u, v, code := impl.DualOf(a)
	checkDual(t, "DualOf"+what, u, v, code, wantU, wantV, wantCode)
	if code == impl.ErrNone && !impl.IsDual(a, u, v) {
		t.Errorf("DualOf%s = %v, %v is no dual", what, u, v)
	}
	return code
}

// assignedWeight is the weight of an assignment, or Bottom.
func assignedWeight(a [][]int64, p []int64) int64 {
	weight := int64(0)
	for i, j := range p {
		if a[i][j] == bottom {
			return bottom
		}
		weight += a[i][j]
	}
	return weight
}

// relativeMatrix has a[i][p[k]] - a[k][p[k]] at i and k, or Bottom. Its entries are not checked.
func relativeMatrix(a [][]int64, p []int64) [][]int64 {
	b := filled(len(a), len(a), bottom)
	for i := range b {
		for k := range b {
			if a[i][p[k]] != bottom {
				b[i][k] = a[i][p[k]] - a[k][p[k]]
			}
		}
	}
	return b
}

// plainDual follows the definition with an assignment, and tells whether there is one.
func plainDual(a [][]int64, p []int64) (u, v []int64, ok bool) {
	u, ok = plainPotential(relativeMatrix(a, p))
	v = make([]int64, len(a))
	for k, j := range p {
		v[j] = a[k][j] - u[k]
	}
	return u, v, ok
}

// plainAssignments compares all assignments, the lexicographically smaller ones first.
func plainAssignments(a [][]int64) permanentParts {
	want := permanentParts{weight: bottom}
	simpleLists(len(a), func(p []int64) {
		if len(p) < len(a) {
			return
		}
		weight := assignedWeight(a, p)
		if weight > want.weight {
			want = permanentParts{weight: weight, best: slices.Clone(p)}
		}
		if weight == want.weight && weight != bottom {
			want.count++
		}
	})
	if want.best != nil {
		want.u, want.v, _ = plainDual(a, want.best)
	}
	return want
}

// holds reports whether u and v bound all entries of a.
func holds(a [][]int64, u, v []int64) bool {
	for i, row := range a {
		for j, entry := range row {
			if entry != bottom && u[i]+v[j] < entry {
				return false
			}
		}
	}
	return true
}

// tightAssignments counts the assignments all entries of which reach their bounds u[i] + v[j], and
// returns the smallest one of them.
func tightAssignments(a [][]int64, u, v []int64) (count int64, smallest []int64) {
	var p []int64
	used := make([]bool, len(a))
	var extend func()
	extend = func() {
		i := len(p)
		if i == len(a) {
			if count == 0 {
				smallest = slices.Clone(p)
			}
			count++
			return
		}
		for j, entry := range a[i] {
			if !used[j] && entry != bottom && entry == u[i]+v[j] {
				p, used[j] = append(p, int64(j)), true
				extend()
				p, used[j] = p[:i], false
			}
		}
	}
	extend()
	return count, smallest
}

// hasAssignment puts one row after the other into a column, for which other rows may have to move.
func hasAssignment(a [][]int64) bool {
	rows := slices.Repeat([]int{-1}, len(a))
	var tried []bool
	var place func(i int) bool
	place = func(i int) bool {
		for j, entry := range a[i] {
			if entry != bottom && !tried[j] {
				tried[j] = true
				if rows[j] < 0 || place(rows[j]) {
					rows[j] = i
					return true
				}
			}
		}
		return false
	}
	for i := range a {
		tried = make([]bool, len(a))
		if !place(i) {
			return false
		}
	}
	return true
}

// checkProof needs no search for the best assignment: a dual that the one that is told reaches proves
// that no other one has a greater weight, and those with the same weight reach it as well.
func checkProof(t *testing.T, a [][]int64) int64 {
	t.Helper()
	if !hasAssignment(a) {
		return checkAssignments(t, a, permanentParts{weight: bottom})
	}
	p, code := impl.BestAssignment(a)
	if code != impl.ErrNone || len(p) != len(a) || hasRepeats(p) || slices.Min(p) != 0 || slices.Max(p) != int64(len(a)-1) || assignedWeight(a, p) == bottom {
		t.Errorf("BestAssignment(%v) = %v, %d", a, p, code)
		return code
	}
	u, v, ok := plainDual(a, p)
	if !ok || !holds(a, u, v) {
		t.Errorf("BestAssignment(%v) = %v is not the best one", a, p)
		return impl.ErrNone
	}
	want := permanentParts{weight: assignedWeight(a, p), u: u, v: v}
	want.count, want.best = tightAssignments(a, u, v)
	return checkAssignments(t, a, want)
}

// upTo is the list 0 to n - 1.
func upTo(n int) []int64 { return curve(int64(n), func(i int64) int64 { return i }) }

// assigned has the entries of one assignment, all with the same weight, and Bottom elsewhere.
func assigned(p []int64, weight int64) [][]int64 {
	a := filled(len(p), len(p), bottom)
	for i, j := range p {
		a[i][j] = weight
	}
	return a
}

// narrowRows has some rows that are Bottom but for the first columns, as many as told.
func narrowRows(a [][]int64, columns int, rows ...int) [][]int64 {
	b := cloneRows(a)
	for _, i := range rows {
		copy(b[i][columns:], bottoms(len(a)-columns))
	}
	return b
}

func zeros(n int) []int64 { return make([]int64, n) }

func constant(n int, a int64) []int64 { return slices.Repeat([]int64{a}, n) }

func factorial(n int64) int64 {
	if n == 0 {
		return 1
	}
	return n * factorial(n-1)
}

func TestP10Assignments(t *testing.T) {
	mixed := [][]int64{{3, 1, bottom}, {2, 5, 4}, {bottom, 6, 4}}
	cases := []struct {
		a    [][]int64
		want permanentParts
	}{
		{mixed, permanentParts{13, []int64{0, 2, 1}, 1, []int64{0, 0, 0}, []int64{3, 6, 4}}},
		{flipped(mixed), permanentParts{13, []int64{0, 2, 1}, 1, []int64{0, 1, 0}, []int64{3, 4, 5}}},
		// One row.
		{[][]int64{{5}}, permanentParts{5, []int64{0}, 1, []int64{0}, []int64{5}}},
		{[][]int64{{0}}, permanentParts{0, []int64{0}, 1, []int64{0}, []int64{0}}},
		{[][]int64{{maxFinite}}, permanentParts{maxFinite, []int64{0}, 1, []int64{0}, []int64{maxFinite}}},
		{[][]int64{{-maxFinite}}, permanentParts{-maxFinite, []int64{0}, 1, []int64{0}, []int64{-maxFinite}}},
		{[][]int64{{bottom}}, permanentParts{weight: bottom}},
		// Two rows: each assignment alone, both with the same weight, and one that is missing.
		{[][]int64{{4, 1}, {2, 3}}, permanentParts{7, []int64{0, 1}, 1, []int64{0, 0}, []int64{4, 3}}},
		{[][]int64{{1, 4}, {3, 2}}, permanentParts{7, []int64{1, 0}, 1, []int64{0, 0}, []int64{3, 4}}},
		{[][]int64{{4, 1}, {6, 3}}, permanentParts{7, []int64{0, 1}, 2, []int64{0, 2}, []int64{4, 1}}},
		{[][]int64{{4, 8}, {0, 4}}, permanentParts{8, []int64{0, 1}, 2, []int64{4, 0}, []int64{0, 4}}},
		{[][]int64{{4, 9}, {0, 4}}, permanentParts{9, []int64{1, 0}, 1, []int64{4, 0}, []int64{0, 5}}},
		{[][]int64{{0, 0}, {0, 0}}, permanentParts{0, []int64{0, 1}, 2, []int64{0, 0}, []int64{0, 0}}},
		{[][]int64{{bottom, 9}, {-9, 50}}, permanentParts{0, []int64{1, 0}, 1, []int64{0, 41}, []int64{-50, 9}}},
		{[][]int64{{1, 9}, {bottom, 2}}, permanentParts{3, []int64{0, 1}, 1, []int64{7, 0}, []int64{-6, 2}}},
		{[][]int64{{1, bottom}, {9, 2}}, permanentParts{3, []int64{0, 1}, 1, []int64{0, 8}, []int64{1, -6}}},
		// The greatest entry of a row or a column leads to a smaller weight.
		{[][]int64{{9, 8}, {8, 1}}, permanentParts{16, []int64{1, 0}, 1, []int64{1, 0}, []int64{8, 7}}},
		{[][]int64{{7, 9, 8}, {9, 9, 1}, {8, 1, 1}}, permanentParts{25, []int64{2, 1, 0}, 1, []int64{1, 1, 0}, []int64{8, 8, 7}}},
		// The lexicographically smallest one of several: the first row decides, then the second one.
		{[][]int64{{1, 1, 1}, {1, 1, 1}, {1, 1, 1}}, permanentParts{3, []int64{0, 1, 2}, 6, zeros(3), constant(3, 1)}},
		{[][]int64{{bottom, 0, 0}, {0, bottom, 0}, {0, 0, bottom}}, permanentParts{0, []int64{1, 2, 0}, 2, zeros(3), zeros(3)}},
		{[][]int64{{0, 0, 0}, {0, bottom, 0}, {0, 0, bottom}}, permanentParts{0, []int64{0, 2, 1}, 3, zeros(3), zeros(3)}},
		{[][]int64{{0, -1, -1}, {-1, bottom, 0}, {-1, 0, bottom}}, permanentParts{0, []int64{0, 2, 1}, 1, zeros(3), zeros(3)}},
		{[][]int64{{-1, 0, 0}, {0, 0, 0}, {0, 0, 0}}, permanentParts{0, []int64{1, 0, 2}, 4, zeros(3), zeros(3)}},
		{[][]int64{{-1, 0, 0}, {-1, 0, 0}, {0, 0, 0}}, permanentParts{0, []int64{1, 2, 0}, 2, zeros(3), zeros(3)}},
		{[][]int64{{bottom, 0, 0}, {bottom, 0, 0}, {0, bottom, bottom}}, permanentParts{0, []int64{1, 2, 0}, 2, zeros(3), zeros(3)}},
	}
	for _, c := range cases {
		checkAssignments(t, c.a, c.want)
	}
}

// As many rows as there can be.
func TestP10GreatestSize(t *testing.T) {
	order, back := upTo(maxSize), []int64{9, 8, 7, 6, 5, 4, 3, 2, 1, 0}
	turned := []int64{3, 9, 0, 7, 1, 5, 8, 2, 6, 4}
	around := []int64{9, 0, 1, 2, 3, 4, 5, 6, 7, 8}
	none := zeros(maxSize)
	cases := []struct {
		a    [][]int64
		want permanentParts
	}{
		{unitOf(maxSize), permanentParts{0, order, 1, none, none}},
		{assigned(back, 7), permanentParts{70, back, 1, none, constant(maxSize, 7)}},
		{assigned(turned, -maxFinite/10), permanentParts{-maxFinite, turned, 1, none, constant(maxSize, -maxFinite/10)}},
		{ring(maxSize, maxFinite/10), permanentParts{maxFinite, around, 1, none, constant(maxSize, maxFinite/10)}},
		{between(assigned(turned, 2), 1), permanentParts{20, turned, 1, none, constant(maxSize, 2)}},
		{between(assigned(turned, 1), 2), permanentParts{20, []int64{0, 1, 2, 3, 4, 6, 5, 7, 8, 9}, 1334961, none, constant(maxSize, 2)}},
		// All of the assignments are more than a value can count.
		{filled(maxSize, maxSize, 0), permanentParts{0, order, factorial(maxSize), none, none}},
		{filled(maxSize, maxSize, maxFinite), permanentParts{10 * maxFinite, order, factorial(maxSize), none, constant(maxSize, maxFinite)}},
		{filled(maxSize, maxSize, -maxFinite), permanentParts{-10 * maxFinite, order, factorial(maxSize), none, constant(maxSize, -maxFinite)}},
		{filled(9, 9, 0), permanentParts{0, upTo(9), factorial(9), zeros(9), zeros(9)}},
		{filled(9, 9, -maxFinite), permanentParts{-9 * maxFinite, upTo(9), factorial(9), zeros(9), constant(9, -maxFinite)}},
		// The numbers next to the greatest value that can be reached in this way: 2 and 3 times 9!.
		{narrowRows(filled(maxSize, maxSize, 3), 2, 0), permanentParts{30, order, 725760, none, constant(maxSize, 3)}},
		{narrowRows(filled(maxSize, maxSize, 3), 3, 0), permanentParts{30, order, 1088640, none, constant(maxSize, 3)}},
		{narrowRows(filled(maxSize, maxSize, 3), 2, 9), permanentParts{30, []int64{0, 2, 3, 4, 5, 6, 7, 8, 9, 1}, 725760, none, constant(maxSize, 3)}},
		{narrowRows(filled(maxSize, maxSize, 3), 4, 4, 7), permanentParts{30, []int64{0, 1, 4, 5, 2, 6, 7, 3, 8, 9}, 483840, none, constant(maxSize, 3)}},
		{blocks(filled(6, 6, 1), filled(4, 4, 1)), permanentParts{10, order, 17280, none, constant(maxSize, 1)}},
		{blocks(filled(7, 7, 1), [][]int64{{bottom}}, filled(2, 2, 1)), permanentParts{weight: bottom}},
		{filled(maxSize, maxSize, bottom), permanentParts{weight: bottom}},
	}
	for _, c := range cases {
		checkAssignments(t, c.a, c.want)
	}
}

// Some rows have fewer columns than there are rows of them, or the other way round.
func TestP10NoAssignment(t *testing.T) {
	for n := 1; n <= maxSize; n++ {
		list := [][][]int64{filled(n, n, bottom), forward(n, 0), forward(n, maxFinite)}
		for i := range n {
			one := narrowRows(filled(n, n, 5), 0, i)
			list = append(list, one, flipped(one))
			for columns := 1; columns <= i; columns++ {
				var rows []int
				for k := range columns + 1 {
					rows = append(rows, i-k)
				}
				some := narrowRows(filled(n, n, -3), columns, rows...)
				list = append(list, some, flipped(some))
			}
		}
		for _, a := range list {
			checkAssignments(t, a, permanentParts{weight: bottom})
		}
	}
}

// Numbers of a result on both sides of the greatest and the least value.
func TestP10Limits(t *testing.T) {
	half := int64(maxFinite / 2)
	cases := []struct {
		a    [][]int64
		want permanentParts
	}{
		{[][]int64{{half, bottom}, {bottom, half}}, permanentParts{maxFinite, []int64{0, 1}, 1, zeros(2), constant(2, half)}},
		{[][]int64{{half, bottom}, {bottom, half + 1}}, permanentParts{maxFinite + 1, []int64{0, 1}, 1, zeros(2), []int64{half, half + 1}}},
		{[][]int64{{bottom, -half}, {-half, bottom}}, permanentParts{-maxFinite, []int64{1, 0}, 1, zeros(2), constant(2, -half)}},
		{[][]int64{{bottom, -half}, {-half - 1, bottom}}, permanentParts{-maxFinite - 1, []int64{1, 0}, 1, zeros(2), []int64{-half - 1, -half}}},
		// A weight that is no value does no harm where it is not the greatest one.
		{[][]int64{{0, -maxFinite}, {-1, 0}}, permanentParts{0, []int64{0, 1}, 1, zeros(2), zeros(2)}},
		{[][]int64{{bottom, -maxFinite, -1}, {-1, bottom, -maxFinite}, {-maxFinite, -1, bottom}}, permanentParts{-3, []int64{2, 0, 1}, 1, zeros(3), constant(3, -1)}},
		// Sums on the way may be no values.
		{[][]int64{{maxFinite, bottom, bottom}, {bottom, maxFinite, bottom}, {bottom, bottom, -maxFinite}}, permanentParts{maxFinite, upTo(3), 1, zeros(3), []int64{maxFinite, maxFinite, -maxFinite}}},
		{[][]int64{{-maxFinite, bottom, bottom}, {bottom, -maxFinite, bottom}, {bottom, bottom, maxFinite}}, permanentParts{-maxFinite, upTo(3), 1, zeros(3), []int64{-maxFinite, -maxFinite, maxFinite}}},
		// Only the dual has to consist of values, not the differences from which it comes, nor its sum.
		{[][]int64{{maxFinite, -maxFinite}, {-maxFinite, maxFinite}}, permanentParts{2 * maxFinite, []int64{0, 1}, 1, zeros(2), constant(2, maxFinite)}},
		{[][]int64{{maxFinite, -maxFinite}, {-maxFinite, -maxFinite}}, permanentParts{0, []int64{0, 1}, 1, zeros(2), []int64{maxFinite, -maxFinite}}},
		{[][]int64{{-maxFinite, -maxFinite}, {bottom, -maxFinite}}, permanentParts{-2 * maxFinite, []int64{0, 1}, 1, zeros(2), constant(2, -maxFinite)}},
		// A dual on both sides of the limits: first u, then v.
		{[][]int64{{maxFinite, 0}, {bottom, -maxFinite}}, permanentParts{0, []int64{0, 1}, 1, []int64{maxFinite, 0}, []int64{0, -maxFinite}}},
		{[][]int64{{maxFinite, 1}, {bottom, -maxFinite}}, permanentParts{0, []int64{0, 1}, 1, []int64{maxFinite + 1, 0}, []int64{-1, -maxFinite}}},
		{[][]int64{{maxFinite, maxFinite}, {bottom, -maxFinite}}, permanentParts{0, []int64{0, 1}, 1, []int64{2 * maxFinite, 0}, []int64{-maxFinite, -maxFinite}}},
		{[][]int64{{0, 0}, {bottom, -maxFinite}}, permanentParts{-maxFinite, []int64{0, 1}, 1, []int64{maxFinite, 0}, []int64{-maxFinite, -maxFinite}}},
		{[][]int64{{-1, 0}, {bottom, -maxFinite}}, permanentParts{-maxFinite - 1, []int64{0, 1}, 1, []int64{maxFinite, 0}, []int64{-maxFinite - 1, -maxFinite}}},
		{[][]int64{{-1, -1}, {bottom, -maxFinite}}, permanentParts{-maxFinite - 1, []int64{0, 1}, 1, []int64{maxFinite - 1, 0}, []int64{-maxFinite, -maxFinite}}},
	}
	for _, c := range cases {
		checkAssignments(t, c.a, c.want)
	}
}

// Every matrix of one kind with two or three rows.
func TestP10AllSmallMatrices(t *testing.T) {
	codes := map[int64]int{}
	tuples([]int64{bottom, -maxFinite, -1, 0, 1, 2, 500001, maxFinite}, 4, func(list []int64) {
		a := [][]int64{list[:2], list[2:]}
		codes[checkAssignments(t, a, plainAssignments(a))]++
	})
	tuples([]int64{bottom, 0, 1}, 9, func(list []int64) {
		a := [][]int64{list[:3], list[3:6], list[6:]}
		codes[checkAssignments(t, a, plainAssignments(a))]++
	})
	checkVaried(t, codes, map[int64]int{impl.ErrNone: 10000, impl.ErrNotFound: 1000, impl.ErrLimit: 100})
}

// rearranged has the rows and the columns of a in random orders.
func rearranged(random *rand.Rand, a [][]int64) [][]int64 {
	rows, columns := random.Perm(len(a)), random.Perm(len(a))
	b := cloneRows(a)
	for i := range b {
		for j := range b {
			b[i][j] = a[rows[i]][columns[j]]
		}
	}
	return b
}

// bounded has entries that reach u[i] + v[j] or stay below it by at most slack, and some Bottom, so that
// many assignments have the greatest weight, or few more than others.
func bounded(random *rand.Rand, n int, limit, slack int64) [][]int64 {
	lists := filled(2, n, 0)
	for _, list := range lists {
		for i := range list {
			list[i] = random.Int64N(limit) - limit/2
		}
	}
	a := filled(n, n, bottom)
	for i := range a {
		for j := range a {
			entry := lists[0][i] + lists[1][j] - random.Int64N(2)*random.Int64N(slack+1)
			if isFiniteNumber(entry) && random.IntN(4) > 0 {
				a[i][j] = entry
			}
		}
	}
	return a
}

// extreme has few entries beside those of one assignment, and some of them are as great or as small as
// they can be, so that the elements of a dual add up along them.
func extreme(random *rand.Rand, n int) [][]int64 {
	a := filled(n, n, bottom)
	entries := []int64{-maxFinite, -1, 0, 1, maxFinite}
	for i := range a {
		a[i][i] = entries[random.IntN(len(entries))]
		if i > 0 {
			a[i-1][i] = entries[random.IntN(len(entries))]
		}
	}
	return rearranged(random, a)
}

// assignables are matrices of all kinds.
func assignables(random *rand.Rand, n int) [][][]int64 {
	list := [][][]int64{edgeMatrix(random, n, n), edgeMatrix(random, n, n), rearranged(random, unitOf(n)), extreme(random, n), extreme(random, n), extreme(random, n)}
	for _, limit := range []int64{0, 1, 3, 50, 90000, 500000, maxFinite} {
		list = append(list, randomMatrix(random, n, n, limit), bounded(random, n, limit+1, 2), bounded(random, n, limit+1, limit/3))
		few := rearranged(random, assigned(upTo(n), limit))
		for range n {
			few[random.IntN(n)][random.IntN(n)] = random.Int64N(2*limit+1) - limit
		}
		list = append(list, few)
	}
	if n > 1 {
		some := narrowRows(filled(n, n, 4), n-2, 0, n-1)
		columns := random.IntN(n - 1)
		var rows []int
		for i := range columns + 1 {
			rows = append(rows, i)
		}
		none := rearranged(random, narrowRows(randomMatrix(random, n, n, 9), columns, rows...))
		list = append(list, rearranged(random, some), none, flipped(none))
	}
	return list
}

func TestP10AssignmentsFollowTheDefinition(t *testing.T) {
	check := func(t *testing.T, a [][]int64) int64 {
		t.Helper()
		return checkAssignments(t, a, plainAssignments(a))
	}
	random := newRandom(101)
	checkEach(t, manyGraphs(random, 1, 4, 25, assignables), check, map[int64]int{impl.ErrNone: 1000, impl.ErrNotFound: 200, impl.ErrLimit: 100})
	checkEach(t, manyGraphs(random, 5, 6, 8, assignables), check, map[int64]int{impl.ErrNone: 200, impl.ErrNotFound: 30, impl.ErrLimit: 30})
}

func TestP10BestAssignmentsAreProved(t *testing.T) {
	random := newRandom(102)
	checkEach(t, manyGraphs(random, 1, maxSize, 12, assignables), checkProof, map[int64]int{impl.ErrNone: 1000, impl.ErrNotFound: 200, impl.ErrLimit: 200})
}

func total(lists ...[]int64) int64 {
	sum := int64(0)
	for _, a := range slices.Concat(lists...) {
		sum += a
	}
	return sum
}

// TestP10Promise has no other judge than the functions of the chapter.
func TestP10Promise(t *testing.T) {
	random := newRandom(103)
	check := func(t *testing.T, a [][]int64) int64 {
		t.Helper()
		weight, _ := impl.PermanentOf(a)
		p, code := impl.BestAssignment(a)
		if code != impl.ErrNone {
			if weight != bottom || code != impl.ErrNotFound {
				t.Errorf("BestAssignment(%v) = %v, %d, and the permanent is %d", a, p, code, weight)
			}
			return code
		}
		u, v, code := impl.DualOf(a)
		if code != impl.ErrNone || assignedWeight(a, p) != weight || total(u, v) != weight || !impl.IsDual(a, u, v) {
			t.Errorf("the permanent of %v is %d, reached by %v, and bounded by %v and %v, %d", a, weight, p, u, v, code)
		}
		return code
	}
	small := func(random *rand.Rand, n int) [][][]int64 {
		list := [][][]int64{rearranged(random, unitOf(n))}
		for _, limit := range []int64{1, 2, 10, 1000, 50000} {
			list = append(list, randomMatrix(random, n, n, limit), bounded(random, n, limit, 3), randomMatrix(random, n, n, limit))
		}
		return list
	}
	checkEach(t, manyGraphs(random, 1, maxSize, 20, small), check, map[int64]int{impl.ErrNone: 2000, impl.ErrNotFound: 200})
}

func TestP10IsDual(t *testing.T) {
	mixed := [][]int64{{3, 1, bottom}, {2, 5, 4}, {bottom, 6, 4}}
	one := [][]int64{{-maxFinite}}
	cases := []struct {
		a    [][]int64
		u, v []int64
		want bool
	}{
		{mixed, []int64{0, 0, 0}, []int64{3, 6, 4}, true},
		{mixed, []int64{0, 0, 1}, []int64{3, 5, 4}, true},
		{mixed, []int64{9, 9, 9}, []int64{9, 9, 9}, true}, // its sum need not be the permanent
		{mixed, []int64{3, 5, 6}, []int64{0, 0, 0}, true},
		{mixed, []int64{3, 5, 6}, []int64{0, 0, -1}, true},
		{mixed, []int64{3, 5, 6}, []int64{0, 0, -2}, false},
		{mixed, []int64{3, 5, 6}, []int64{0, -1, 0}, false},
		{mixed, []int64{0, 0, 0}, []int64{3, 5, 4}, false},
		{mixed, []int64{3, 6, 4}, []int64{0, 0, 0}, false}, // u and v exchanged
		{mixed, []int64{-maxFinite, 4, 5}, []int64{-2, 1, 0}, false},
		// Too short, too long and empty lists.
		{mixed, []int64{9, 9}, []int64{9, 9, 9}, false},
		{mixed, []int64{9, 9, 9}, []int64{9, 9}, false},
		{mixed, []int64{9, 9}, []int64{9, 9}, false},
		{mixed, []int64{9, 9, 9, 9}, []int64{9, 9, 9}, false},
		{mixed, []int64{9, 9, 9}, []int64{9, 9, 9, 9}, false},
		{mixed, nil, []int64{9, 9, 9}, false},
		{mixed, []int64{9, 9, 9}, nil, false},
		{mixed, nil, nil, false},
		{mixed, []int64{}, []int64{}, false},
		{one, nil, nil, false},
		{one, constant(1, 9), constant(300, 9), false},
		{one, constant(300, 9), constant(1, 9), false},
		{filled(maxSize, maxSize, 0), constant(maxSize+1, 9), constant(maxSize, 9), false},
		{filled(maxSize, maxSize, 0), constant(maxSize, 9), constant(maxSize+1, 9), false},
		// Elements at the limits.
		{one, []int64{-maxFinite}, []int64{0}, true},
		{one, []int64{0}, []int64{-maxFinite}, true},
		{one, []int64{-maxFinite}, []int64{-1}, false},
		{one, []int64{-1}, []int64{-maxFinite}, false},
		{one, []int64{maxFinite}, []int64{maxFinite}, true},
		{one, []int64{-maxFinite}, []int64{-maxFinite}, false},
		{[][]int64{{maxFinite}}, []int64{maxFinite}, []int64{maxFinite}, true},
		{[][]int64{{maxFinite}}, []int64{maxFinite}, []int64{-1}, false},
		// Bottom binds no dual, but is none of its elements.
		{[][]int64{{bottom}}, []int64{-maxFinite}, []int64{-maxFinite}, true},
		{[][]int64{{bottom}}, []int64{bottom}, []int64{0}, false},
		{[][]int64{{bottom}}, []int64{0}, []int64{bottom}, false},
		{[][]int64{{bottom}}, []int64{bottom}, []int64{bottom}, false},
		{[][]int64{{bottom, bottom}, {bottom, 7}}, []int64{-maxFinite, 0}, []int64{-maxFinite, 7}, true},
		{[][]int64{{bottom, bottom}, {bottom, 7}}, []int64{bottom, 0}, []int64{0, 7}, false},
		{[][]int64{{bottom, 3}, {bottom, 7}}, []int64{0, 0}, []int64{bottom, 7}, false},
		{filled(maxSize, maxSize, bottom), constant(maxSize, -maxFinite), constant(maxSize, -maxFinite), true},
		{filled(maxSize, maxSize, 5), constant(maxSize, 2), constant(maxSize, 3), true},
	}
	for _, c := range cases {
		if is := impl.IsDual(c.a, c.u, c.v); is != c.want {
			t.Errorf("IsDual(%v, %v, %v) = %v", c.a, c.u, c.v, is)
		}
	}
}

// Each entry binds, and each element has to be finite, wherever it is.
func TestP10IsDualLooksEverywhere(t *testing.T) {
	for n := 1; n <= maxSize; n++ {
		u, v := upTo(n), constant(n, -7)
		a := filled(n, n, 0)
		for i := range a {
			for j := range a {
				a[i][j] = u[i] + v[j]
			}
		}
		for i := range a {
			for j := range a {
				if !impl.IsDual(with(a, i, j, bottom), u, v) || impl.IsDual(with(a, i, j, a[i][j]+1), u, v) {
					t.Errorf("IsDual does not see the entry at %d and %d of %d rows", i, j, n)
				}
			}
			free := filled(n, n, bottom)
			for _, bad := range append(notValues(), bottom) {
				list := constant(n, maxFinite)
				list[i] = bad
				if impl.IsDual(free, list, v) || impl.IsDual(free, u, list) {
					t.Errorf("IsDual takes %v for finite", list)
				}
			}
		}
	}
}

func TestP10IsDualFollowsTheDefinition(t *testing.T) {
	random := newRandom(104)
	codes := map[bool]int{}
	for a := range manyGraphs(random, 1, maxSize, 4, assignables) {
		u, v, code := impl.DualOf(a)
		if code != impl.ErrNone {
			u, v = randomMatrix(random, 1, len(a), maxFinite)[0], randomMatrix(random, 1, len(a), maxFinite)[0]
		}
		for range 20 {
			lists := [][]int64{slices.Clone(u), slices.Clone(v)}
			list := lists[random.IntN(2)]
			list[random.IntN(len(a))] += random.Int64N(3) - 1
			other := lists[random.IntN(2)]
			other[random.IntN(len(a))] += random.Int64N(2)
			want := holds(a, lists[0], lists[1])
			for _, element := range slices.Concat(lists...) {
				want = want && isFiniteNumber(element)
			}
			is := impl.IsDual(a, lists[0], lists[1])
			if is != want {
				t.Errorf("IsDual(%v, %v, %v) = %v", a, lists[0], lists[1], is)
			}
			codes[is]++
		}
	}
	if codes[true] < 5000 || codes[false] < 5000 {
		t.Errorf("the duals are too much alike: %v", codes)
	}
}

func TestP10PrincipalPermanent(t *testing.T) {
	a := [][]int64{{1, 2, bottom}, {3, bottom, 7}, {bottom, -2, 2}}
	great, small := filled(maxSize, maxSize, maxFinite), filled(maxSize, maxSize, -maxFinite)
	half := filled(3, 3, maxFinite/2)
	cases := []struct {
		a          [][]int64
		nodes      []int64
		want, code int64
	}{
		{a, nil, 0, impl.ErrNone},
		{a, []int64{}, 0, impl.ErrNone},
		{a, []int64{0}, 1, impl.ErrNone},
		{a, []int64{1}, bottom, impl.ErrNone},
		{a, []int64{2}, 2, impl.ErrNone},
		{a, []int64{0, 1}, 5, impl.ErrNone},
		{a, []int64{0, 2}, 3, impl.ErrNone},
		{a, []int64{1, 2}, 5, impl.ErrNone},
		{a, []int64{0, 1, 2}, 7, impl.ErrNone},
		{[][]int64{{bottom}}, nil, 0, impl.ErrNone},
		{[][]int64{{bottom}}, []int64{0}, bottom, impl.ErrNone},
		{[][]int64{{-maxFinite}}, []int64{0}, -maxFinite, impl.ErrNone},
		{great, nil, 0, impl.ErrNone},
		{great, []int64{9}, maxFinite, impl.ErrNone},
		{great, []int64{0, 9}, 0, impl.ErrLimit},
		{great, upTo(maxSize), 0, impl.ErrLimit},
		{small, []int64{4}, -maxFinite, impl.ErrNone},
		{small, []int64{4, 7}, 0, impl.ErrLimit},
		{half, []int64{1, 2}, maxFinite, impl.ErrNone},
		{with(half, 1, 1, maxFinite/2+1), []int64{1, 2}, 0, impl.ErrLimit},
		{with(half, 1, 1, maxFinite/2+1), []int64{0, 2}, maxFinite, impl.ErrNone},
		{half, upTo(3), 0, impl.ErrLimit},
		{ring(maxSize, 5), upTo(maxSize), 50, impl.ErrNone},
		{ring(maxSize, 5), upTo(9), bottom, impl.ErrNone},
		// No strictly increasing lists of nodes.
		{a, []int64{1, 0}, 0, impl.ErrRange},
		{a, []int64{0, 0}, 0, impl.ErrRange},
		{a, []int64{1, 1}, 0, impl.ErrRange},
		{a, []int64{0, 2, 1}, 0, impl.ErrRange},
		{a, []int64{1, 0, 2}, 0, impl.ErrRange},
		{a, []int64{0, 1, 1}, 0, impl.ErrRange},
		{a, []int64{0, 1, 2, 2}, 0, impl.ErrRange},
		{a, []int64{2, 1, 0}, 0, impl.ErrRange},
		{a, upTo(4), 0, impl.ErrRange},
		{a, upTo(300), 0, impl.ErrRange},
		{a, zeros(300), 0, impl.ErrRange},
		{a, upTo(maxSize), 0, impl.ErrRange},
		{great, upTo(maxSize + 1), 0, impl.ErrRange},
		// The nodes are looked at before the permanent.
		{great, []int64{0, 9, 8}, 0, impl.ErrRange},
		{great, []int64{3, 3}, 0, impl.ErrRange},
		{great, []int64{3, 10}, 0, impl.ErrRange},
		{[][]int64{{bottom}}, []int64{1}, 0, impl.ErrRange},
		{[][]int64{{bottom}}, []int64{0, 0}, 0, impl.ErrRange},
	}
	for _, c := range cases {
		n, code := impl.PrincipalPermanent(c.a, c.nodes)
		checkNumber(t, fmt.Sprint("PrincipalPermanent of ", c.a, " and ", c.nodes), n, code, c.want, c.code)
	}
	for n := 1; n <= maxSize; n++ {
		a, last := filled(n, n, 0), int64(n-1)
		for _, bad := range notNodes(n) {
			if bad >= 0 && bad < int64(n) {
				continue
			}
			for _, nodes := range [][]int64{{bad}, {0, bad}, {bad, last}, {bad, bad}, append(upTo(n), bad), append([]int64{bad}, upTo(n)...)} {
				p, code := impl.PrincipalPermanent(a, nodes)
				checkNumber(t, fmt.Sprint("PrincipalPermanent of ", n, " nodes and ", nodes), p, code, 0, impl.ErrRange)
			}
		}
	}
}

// nodeSets are all sets of nodes of a graph with n nodes.
func nodeSets(n int) [][]int64 {
	var list [][]int64
	for set := range 1 << n {
		var nodes []int64
		for node := range n {
			if set>>node%2 == 1 {
				nodes = append(nodes, int64(node))
			}
		}
		list = append(list, nodes)
	}
	return list
}

// plainPrincipal follows the definition. The permanent is not checked.
func plainPrincipal(a [][]int64, nodes []int64) int64 {
	if len(nodes) == 0 {
		return 0
	}
	return plainAssignments(reduceTo(a, nodes)).weight
}

func TestP10PrincipalPermanentsFollowTheDefinition(t *testing.T) {
	random := newRandom(105)
	codes := map[int64]int{}
	for a := range manyGraphs(random, 1, 5, 3, assignables) {
		for _, nodes := range nodeSets(len(a)) {
			want, wantCode := numberOf(plainPrincipal(a, nodes))
			n, code := impl.PrincipalPermanent(a, nodes)
			checkNumber(t, fmt.Sprint("PrincipalPermanent of one of many matrices and ", nodes), n, code, want, wantCode)
			codes[code]++
		}
	}
	for a := range manyGraphs(random, 6, maxSize, 1, assignables) {
		for _, nodes := range nodeSets(len(a))[1:] {
			want, wantCode := impl.PermanentOf(reduceTo(a, nodes))
			n, code := impl.PrincipalPermanent(a, nodes)
			checkNumber(t, fmt.Sprint("PrincipalPermanent of one of many matrices and ", nodes), n, code, want, wantCode)
			codes[code]++
		}
	}
	checkVaried(t, codes, map[int64]int{impl.ErrNone: 5000, impl.ErrLimit: 1000})
}

// Every list of few numbers, of which only the strictly increasing ones are accepted.
func TestP10AllShortLists(t *testing.T) {
	for n := 1; n <= 4; n++ {
		a := unitOf(n)
		for length := range 5 {
			lists(5, length, func(nodes []int64) {
				want, ok := int64(0), true
				for k, node := range nodes {
					ok = ok && node < int64(n) && (k == 0 || node > nodes[k-1])
				}
				wantCode := int64(impl.ErrNone)
				if !ok {
					wantCode = impl.ErrRange
				}
				p, code := impl.PrincipalPermanent(a, nodes)
				checkNumber(t, fmt.Sprint("PrincipalPermanent of ", n, " nodes and ", nodes), p, code, want, wantCode)
			})
		}
	}
}

func TestP10CharPolynomial(t *testing.T) {
	half := int64(maxFinite / 2)
	cases := []struct {
		a    [][]int64
		want []int64
		code int64
	}{
		{[][]int64{{1, 2}, {3, bottom}}, []int64{5, 1, 0}, impl.ErrNone},
		{[][]int64{{1, 2, bottom}, {3, bottom, 7}, {bottom, -2, 2}}, []int64{7, 5, 2, 0}, impl.ErrNone},
		{[][]int64{{1, 3}, {2, bottom}}, []int64{5, 1, 0}, impl.ErrNone},
		{[][]int64{{bottom, 2}, {3, 1}}, []int64{5, 1, 0}, impl.ErrNone},
		{[][]int64{{4, 1}, {1, 3}}, []int64{7, 4, 0}, impl.ErrNone},
		{[][]int64{{3, 1}, {1, 4}}, []int64{7, 4, 0}, impl.ErrNone},
		{[][]int64{{-4, bottom}, {8, -3}}, []int64{-7, -3, 0}, impl.ErrNone},
		// One row.
		{[][]int64{{5}}, []int64{5, 0}, impl.ErrNone},
		{[][]int64{{0}}, []int64{0, 0}, impl.ErrNone},
		{[][]int64{{bottom}}, []int64{bottom, 0}, impl.ErrNone},
		{[][]int64{{maxFinite}}, []int64{maxFinite, 0}, impl.ErrNone},
		{[][]int64{{-maxFinite}}, []int64{-maxFinite, 0}, impl.ErrNone},
		// Without a cycle, also where there are many arcs.
		{filled(3, 3, bottom), ends(bottom, 2, 0), impl.ErrNone},
		{forward(maxSize, maxFinite), ends(bottom, 9, 0), impl.ErrNone},
		{flipped(forward(maxSize, -maxFinite)), ends(bottom, 9, 0), impl.ErrNone},
		{filled(maxSize, maxSize, bottom), ends(bottom, 9, 0), impl.ErrNone},
		// As many rows as there can be.
		{ring(maxSize, 7), ends(70, 9, 0), impl.ErrNone},
		{ring(maxSize, -100000), ends(-maxFinite, 9, 0), impl.ErrNone},
		{ring(maxSize, 100000), ends(maxFinite, 9, 0), impl.ErrNone},
		{with(ring(maxSize, 100000), 0, 9, 100001), nil, impl.ErrLimit},
		{with(ring(maxSize, -100000), 0, 9, -100001), nil, impl.ErrLimit},
		{filled(maxSize, maxSize, 3), []int64{30, 27, 24, 21, 18, 15, 12, 9, 6, 3, 0}, impl.ErrNone},
		{unitOf(maxSize), zeros(maxSize + 1), impl.ErrNone},
		{noLoops(maxSize, -2), []int64{-20, -18, -16, -14, -12, -10, -8, -6, -4, bottom, 0}, impl.ErrNone},
		{circles(maxSize, 4, []int64{0, 5, 2}, []int64{9, 1}), []int64{bottom, bottom, bottom, bottom, bottom, 20, bottom, 12, 8, bottom, 0}, impl.ErrNone},
		{circles(maxSize, -4, []int64{3}, []int64{6, 8, 7, 4}), []int64{bottom, bottom, bottom, bottom, bottom, -20, -16, bottom, bottom, -4, 0}, impl.ErrNone},
		{filled(maxSize, maxSize, maxFinite), nil, impl.ErrLimit},
		{filled(maxSize, maxSize, -maxFinite), nil, impl.ErrLimit},
		// The coefficients on both sides of the limits.
		{[][]int64{{half, bottom}, {bottom, half}}, []int64{maxFinite, half, 0}, impl.ErrNone},
		{[][]int64{{half, bottom}, {bottom, half + 1}}, nil, impl.ErrLimit},
		{[][]int64{{-half, bottom}, {bottom, -half}}, []int64{-maxFinite, -half, 0}, impl.ErrNone},
		{[][]int64{{-half, bottom}, {bottom, -half - 1}}, nil, impl.ErrLimit},
		{blocks([][]int64{{-maxFinite}}, [][]int64{{maxFinite}}), []int64{0, maxFinite, 0}, impl.ErrNone},
		// Only the product in the middle is no value.
		{blocks([][]int64{{maxFinite}}, [][]int64{{1}}, [][]int64{{-maxFinite}}), nil, impl.ErrLimit},
		{blocks([][]int64{{maxFinite}}, [][]int64{{0}}, [][]int64{{-maxFinite}}), []int64{0, maxFinite, maxFinite, 0}, impl.ErrNone},
		// A permanent that is no value does no harm beside a greater one.
		{blocks([][]int64{{-maxFinite}}, [][]int64{{-maxFinite}}, [][]int64{{maxFinite}}), []int64{-maxFinite, 0, maxFinite, 0}, impl.ErrNone},
		{[][]int64{{-maxFinite, 0}, {0, -maxFinite}}, []int64{0, -maxFinite, 0}, impl.ErrNone},
	}
	for _, c := range cases {
		p, code := impl.CharPolynomial(c.a)
		checkList(t, "CharPolynomial of "+impl.MatrixText(c.a), p, code, c.want, c.code)
	}
}

// plainCharacteristic takes the greatest permanents for each number of nodes.
func plainCharacteristic(a [][]int64, permanent func(nodes []int64) int64) []int64 {
	c := bottoms(len(a) + 1)
	for _, nodes := range nodeSets(len(a)) {
		power := len(a) - len(nodes)
		c[power] = max(c[power], permanent(nodes))
	}
	return c
}

func TestP10CharPolynomialsFollowTheDefinition(t *testing.T) {
	check := func(t *testing.T, a [][]int64) int64 {
		t.Helper()
		want, wantCode := valuesOf(plainCharacteristic(a, func(nodes []int64) int64 { return plainPrincipal(a, nodes) }))
		c, code := impl.CharPolynomial(a)
		checkList(t, "CharPolynomial of "+impl.MatrixText(a), c, code, want, wantCode)
		return code
	}
	random := newRandom(106)
	checkEach(t, manyGraphs(random, 1, 6, 4, assignables), check, map[int64]int{impl.ErrNone: 300, impl.ErrLimit: 100})
	checkEach(t, manyGraphs(random, 1, 5, 2, someGraphs), check, map[int64]int{impl.ErrNone: 100, impl.ErrLimit: 10})
}

// With many nodes the permanents come from PrincipalPermanent; their entries are so small that all of
// them are values.
func TestP10CharPolynomialsOfManyNodes(t *testing.T) {
	random := newRandom(107)
	for n := 7; n <= maxSize; n++ {
		for range 3 {
			for _, a := range [][][]int64{randomMatrix(random, n, n, 9), bounded(random, n, 50000, 3), shuffled(random, n, 5), slopes(random, n, 90000), apart(randomMatrix(random, n, n, 30), 2)} {
				want := plainCharacteristic(a, func(nodes []int64) int64 {
					p, code := impl.PrincipalPermanent(a, nodes)
					if code != impl.ErrNone {
						t.Errorf("PrincipalPermanent(%v, %v) = %d, %d", a, nodes, p, code)
					}
					return p
				})
				c, code := impl.CharPolynomial(a)
				checkList(t, "CharPolynomial of "+impl.MatrixText(a), c, code, want, impl.ErrNone)
				if p, code := impl.PermanentOf(a); c[0] != p || code != impl.ErrNone {
					t.Errorf("CharPolynomial(%v) = %v, and the permanent is %d, %d", a, c, p, code)
				}
			}
		}
	}
}

// checkCorner compares the greatest corner with the cycle mean. Without a cycle there is no corner.
func checkCorner(t *testing.T, a [][]int64) int64 {
	t.Helper()
	c, code := impl.CharPolynomial(a)
	if code != impl.ErrNone {
		return code
	}
	corners, code := impl.CornersOf(c)
	if code != impl.ErrNone {
		return code
	}
	mean, code := impl.CycleMean(a)
	switch {
	case code == impl.ErrNotFound && len(corners) == 0:
	case code == impl.ErrNone && len(corners) > 0 && corners[len(corners)-1].At == mean:
	default:
		t.Errorf("CharPolynomial(%v) = %v has the corners %v, and the cycle mean is %v, %d", a, c, corners, mean, code)
	}
	return code
}

func TestP10GreatestCorners(t *testing.T) {
	random := newRandom(108)
	checkEach(t, manyGraphs(random, 1, 8, 2, richGraphs), checkCorner, map[int64]int{impl.ErrNone: 400, impl.ErrNotFound: 10, impl.ErrLimit: 20})
	checkEach(t, manyGraphs(random, 9, maxSize, 1, richGraphs), checkCorner, map[int64]int{impl.ErrNone: 40})
	for n := 1; n <= maxSize; n++ {
		for _, a := range [][][]int64{forward(n, 8), filled(n, n, bottom), flipped(forward(n, -1))} {
			if code := checkCorner(t, a); code != impl.ErrNotFound {
				t.Errorf("%v has a cycle: %d", a, code)
			}
		}
		for length := 1; length <= n; length++ {
			if code := checkCorner(t, with(ring(n, 3), 0, length-1, 4)); code != impl.ErrNone {
				t.Errorf("the greatest corner of a ring with the length %d: %d", length, code)
			}
		}
	}
}

func TestP10InvalidArguments(t *testing.T) {
	for _, bad := range notSquares() {
		p, code := impl.PermanentOf(bad)
		checkNumber(t, "PermanentOf no square matrix", p, code, 0, impl.ErrInvalid)
		p, code = impl.CountAssignments(bad)
		checkNumber(t, "CountAssignments of no square matrix", p, code, 0, impl.ErrInvalid)
		best, code := impl.BestAssignment(bad)
		checkList(t, "BestAssignment of no square matrix", best, code, nil, impl.ErrInvalid)
		c, code := impl.CharPolynomial(bad)
		checkList(t, "CharPolynomial of no square matrix", c, code, nil, impl.ErrInvalid)
		u, v, code := impl.DualOf(bad)
		checkDual(t, "DualOf no square matrix", u, v, code, nil, nil, impl.ErrInvalid)
		is, code := impl.IsSingular(bad)
		checkAnswer(t, "IsSingular of no square matrix", is, code, false, impl.ErrInvalid)
		// The matrix is looked at before the nodes.
		for _, nodes := range [][]int64{nil, {}, {0}, {0, 1}, {1, 0}, {0, 0}, {-1}, {math.MaxInt64}, {math.MinInt64}, upTo(maxSize), upTo(300)} {
			p, code := impl.PrincipalPermanent(bad, nodes)
			checkNumber(t, "PrincipalPermanent of no square matrix", p, code, 0, impl.ErrInvalid)
		}
		for _, m := range []int{0, 1, 2, 3, len(bad), maxSize, maxSize + 1} {
			for _, n := range []int{0, 1, 2, 3, len(bad), maxSize, maxSize + 1} {
				if impl.IsDual(bad, constant(m, maxFinite), constant(n, maxFinite)) {
					t.Errorf("IsDual(%v) with %d and %d elements = true", bad, m, n)
				}
			}
		}
	}
}

func TestP10ResultsShareNoMemory(t *testing.T) {
	calls := map[string]func(a [][]int64) ([][]int64, int64){
		"PermanentOf":        numbers(impl.PermanentOf),
		"BestAssignment":     oneRow(impl.BestAssignment),
		"CountAssignments":   numbers(impl.CountAssignments),
		"CharPolynomial":     oneRow(impl.CharPolynomial),
		"PrincipalPermanent": numbers(func(a [][]int64) (int64, int64) { return impl.PrincipalPermanent(a, nil) }),
		"DualOf": func(a [][]int64) ([][]int64, int64) {
			u, v, code := impl.DualOf(a)
			return [][]int64{u, v}, code
		},
		"IsSingular": func(a [][]int64) ([][]int64, int64) {
			is, code := impl.IsSingular(a)
			return [][]int64{{int64(slices.Index([]bool{false, true}, is))}}, code
		},
		"IsDual": answers(func(a [][]int64) bool { return impl.IsDual(a, constant(len(a), 9), constant(len(a), 9)) }),
	}
	for _, before := range [][][]int64{{{3, 1, bottom}, {2, 5, 4}, {bottom, 6, 4}}, {{0}}, {{0, 1}, {1, 0}}, {{0, 0}, {0, 0}}, {{0, 1}, {2, 3}}, filled(8, 8, 1)} {
		checkCalls(t, calls, before)
	}
	a := [][]int64{{3, 1, bottom}, {2, 5, 4}, {bottom, 6, 4}}
	checkCalls(t, map[string]func(rows [][]int64) ([][]int64, int64){
		"PrincipalPermanent of a list": numbers(func(rows [][]int64) (int64, int64) { return impl.PrincipalPermanent(a, rows[0]) }),
		"IsDual of lists":              answers(func(rows [][]int64) bool { return impl.IsDual(a, rows[0], rows[1]) }),
	}, [][]int64{{0, 1, 2}, {3, 6, 4}})
	checkCalls(t, map[string]func(rows [][]int64) ([][]int64, int64){
		"PrincipalPermanent of no increasing list": numbers(func(rows [][]int64) (int64, int64) {
			_, code := impl.PrincipalPermanent(a, rows[0])
			return code, impl.ErrNone
		}),
	}, [][]int64{{2, 0, 1}})
}

// What is computed only once may be asked for by several goroutines at the same time.
func TestP10CallsAtTheSameTime(t *testing.T) {
	var callers sync.WaitGroup
	for n := 1; n <= maxSize; n++ {
		for range 4 {
			callers.Add(1)
			go func() {
				defer callers.Done()
				weights := curve(int64(n+1), func(i int64) int64 { return 3 * (int64(n) - i) })
				c, code := impl.CharPolynomial(filled(n, n, 3))
				checkList(t, "CharPolynomial beside others", c, code, weights, impl.ErrNone)
				best, code := impl.BestAssignment(unitOf(n))
				checkList(t, "BestAssignment beside others", best, code, upTo(n), impl.ErrNone)
				is, code := impl.IsSingular(unitOf(n))
				checkAnswer(t, "IsSingular beside others", is, code, false, impl.ErrNone)
				is, code = impl.IsSingular(filled(n, n, 3))
				checkAnswer(t, "IsSingular beside others", is, code, n > 1, impl.ErrNone)
			}()
		}
	}
	callers.Wait()
}
