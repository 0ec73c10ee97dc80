package tests

import (
	"math"
	"math/big"
	"math/rand/v2"
	"slices"
	"testing"

	"loop.example/g00941/impl"
)

func ratio(num, den int64) impl.Ratio { return impl.Ratio{Num: num, Den: den} }

func checkRatio(t *testing.T, what string, r impl.Ratio, code int64, want impl.Ratio, wantCode int64) {
	t.Helper()
	if r != want || code != wantCode {
		t.Errorf("%s = %v, %d, want %v, %d", what, r, code, want, wantCode)
	}
}

// wantRatio is what a function returns whose result is an exact fraction.
func wantRatio(exact *big.Rat) (impl.Ratio, int64) {
	r := ratio(exact.Num().Int64(), exact.Denom().Int64())
	if !isFiniteNumber(r.Num) || r.Den > maxFinite {
		return impl.Ratio{}, impl.ErrLimit
	}
	return r, impl.ErrNone
}

// plainBest compares all cycles of a graph. Without a cycle the mean is nil.
func plainBest(a [][]int64) ([]int64, *big.Rat) {
	var best []int64
	var greatest *big.Rat
	simpleLists(len(a), func(list []int64) {
		weight, ok := plainCycle(a, list)
		if !ok || list[0] != slices.Min(list) {
			return
		}
		mean := big.NewRat(weight, int64(len(list)))
		if greatest == nil || mean.Cmp(greatest) > 0 || mean.Cmp(greatest) == 0 && slices.Compare(list, best) < 0 {
			best, greatest = slices.Clone(list), mean
		}
	})
	return best, greatest
}

// plainShift shifts a matrix by num / den. Its entries are not checked.
func plainShift(a [][]int64, num, den int64) [][]int64 {
	b := cloneRows(a)
	for _, row := range b {
		for j := range row {
			if row[j] != bottom {
				row[j] = den*row[j] - num
			}
		}
	}
	return b
}

// plainPotential is what x grows to if all arcs of a shifted matrix are followed from 0 again and
// again, and whether it comes to an end.
func plainPotential(shifted [][]int64) ([]int64, bool) {
	x := make([]int64, len(shifted))
	for range shifted {
		x = plainMax(x, plainTimes(shifted, x))
	}
	return x, slices.Equal(x, plainMax(x, plainTimes(shifted, x)))
}

// isBound reports whether no arc of a shifted matrix contradicts x.
func isBound(shifted [][]int64, x []int64) bool {
	for i := range shifted {
		for j, weight := range shifted[i] {
			if weight != bottom && weight+x[j] > x[i] {
				return false
			}
		}
	}
	return true
}

// tightBest is the smallest written cycle with a mean that no cycle exceeds: only arcs along which
// a potential holds with equality can be on it.
func tightBest(shifted [][]int64, x []int64) []int64 {
	var path []int64
	var extend func() bool
	extend = func() bool {
		last := path[len(path)-1]
		tight := func(to int64) bool {
			return shifted[to][last] != bottom && shifted[to][last]+x[last] == x[to]
		}
		if tight(path[0]) {
			return true
		}
		for next := path[0] + 1; next < int64(len(shifted)); next++ {
			if tight(next) && !slices.Contains(path, next) {
				path = append(path, next)
				if extend() {
					return true
				}
				path = path[:len(path)-1]
			}
		}
		return false
	}
	for first := range shifted {
		path = []int64{int64(first)}
		if extend() {
			return path
		}
	}
	return nil
}

// forward has only arcs from smaller nodes to greater ones.
func forward(n int, weight int64) [][]int64 {
	a := filled(n, n, bottom)
	for i := range a {
		for j := range i {
			a[i][j] = weight
		}
	}
	return a
}

// noLoops has all arcs but those from a node to itself.
func noLoops(n int, weight int64) [][]int64 {
	a := filled(n, n, weight)
	for i := range a {
		a[i][i] = bottom
	}
	return a
}

func TestP04MeanOf(t *testing.T) {
	a := [][]int64{{1, 2, bottom}, {3, bottom, 7}, {bottom, -2, 2}}
	whole := []int64{0, 1, 2, 3, 4, 5, 6, 7, 8, 9}
	cases := []struct {
		a     [][]int64
		cycle []int64
		want  impl.Ratio
		code  int64
	}{
		{a, []int64{0, 1}, ratio(5, 2), impl.ErrNone},
		{a, []int64{1, 0}, ratio(5, 2), impl.ErrNone}, // not written
		{a, []int64{2, 1}, ratio(5, 2), impl.ErrNone},
		{a, []int64{0}, ratio(1, 1), impl.ErrNone}, // an arc from a node to itself
		{a, []int64{2}, ratio(2, 1), impl.ErrNone},
		{a, []int64{1}, impl.Ratio{}, impl.ErrNotFound},
		{a, []int64{0, 2}, impl.Ratio{}, impl.ErrNotFound},
		{a, []int64{0, 1, 2}, impl.Ratio{}, impl.ErrNotFound},
		{a, []int64{0, 0}, impl.Ratio{}, impl.ErrNotFound},
		{a, []int64{0, 1, 0, 1}, impl.Ratio{}, impl.ErrNotFound},
		{a, []int64{2, 2}, impl.Ratio{}, impl.ErrNotFound},
		{a, nil, impl.Ratio{}, impl.ErrNotFound},
		{a, []int64{}, impl.Ratio{}, impl.ErrNotFound},
		{a, slices.Repeat([]int64{0}, maxPath+1), impl.Ratio{}, impl.ErrNotFound},
		{[][]int64{{bottom, -3}, {-4, bottom}}, []int64{0, 1}, ratio(-7, 2), impl.ErrNone},
		{[][]int64{{bottom, 5}, {-5, bottom}}, []int64{0, 1}, ratio(0, 1), impl.ErrNone},
		{[][]int64{{0}}, []int64{0}, ratio(0, 1), impl.ErrNone},
		{[][]int64{{bottom}}, []int64{0}, impl.Ratio{}, impl.ErrNotFound},
		{[][]int64{{maxFinite}}, []int64{0}, ratio(maxFinite, 1), impl.ErrNone},
		{[][]int64{{-maxFinite}}, []int64{0}, ratio(-maxFinite, 1), impl.ErrNone},
		{ring(maxSize, 1), whole, ratio(1, 1), impl.ErrNone},
		{with(ring(maxSize, 0), 0, 9, 1), whole, ratio(1, 10), impl.ErrNone},
		{with(ring(maxSize, 0), 0, 9, -1), whole, ratio(-1, 10), impl.ErrNone},
		{with(ring(maxSize, 0), 0, 9, 4), whole, ratio(2, 5), impl.ErrNone},
		{with(ring(maxSize, 0), 0, 9, -5), whole, ratio(-1, 2), impl.ErrNone},
		// The weight is no value, but the mean is a valid ratio.
		{ring(maxSize, maxFinite), whole, ratio(maxFinite, 1), impl.ErrNone},
		{ring(3, -maxFinite), []int64{1, 2, 0}, ratio(-maxFinite, 1), impl.ErrNone},
		{with(ring(3, 0), 0, 2, maxFinite), []int64{0, 1, 2}, ratio(maxFinite, 3), impl.ErrNone},
		{with(ring(3, 1), 0, 2, maxFinite), []int64{0, 1, 2}, ratio(333334, 1), impl.ErrNone},
		// The mean is not too great, but its numerator is.
		{with(with(ring(3, 0), 0, 2, maxFinite), 1, 0, 1), []int64{0, 1, 2}, impl.Ratio{}, impl.ErrLimit},
		{with(with(ring(3, 0), 0, 2, -maxFinite), 1, 0, -1), []int64{0, 1, 2}, impl.Ratio{}, impl.ErrLimit},
		{with(ring(2, maxFinite), 0, 1, maxFinite-1), []int64{0, 1}, impl.Ratio{}, impl.ErrLimit},
		{with(ring(2, maxFinite), 0, 1, maxFinite-2), []int64{0, 1}, ratio(maxFinite-1, 1), impl.ErrNone},
		{with(ring(2, -maxFinite), 0, 1, -maxFinite+1), []int64{0, 1}, impl.Ratio{}, impl.ErrLimit},
		{with(ring(2, maxFinite), 0, 1, maxFinite-1), []int64{0}, impl.Ratio{}, impl.ErrNotFound},
		{with(ring(2, maxFinite), 0, 1, maxFinite-1), []int64{0, 1, 2}, impl.Ratio{}, impl.ErrNotFound},
	}
	for _, c := range cases {
		r, code := impl.MeanOf(c.a, c.cycle)
		checkRatio(t, "MeanOf of "+impl.MatrixText(c.a), r, code, c.want, c.code)
	}
}

func TestP04MeansOfWrongNodes(t *testing.T) {
	for n := 1; n <= maxSize; n++ {
		for _, bad := range notNodes(n) {
			if bad >= 0 && bad < int64(n) {
				continue
			}
			for _, list := range [][]int64{{bad}, {0, bad}, {bad, 0}, {bad, bad}} {
				a := filled(n, n, maxFinite)
				r, code := impl.MeanOf(a, list)
				checkRatio(t, "MeanOf of a wrong node", r, code, impl.Ratio{}, impl.ErrNotFound)
				if impl.IsMeanCertificate(a, ratio(maxFinite, 1), list, make([]int64, n)) {
					t.Errorf("IsMeanCertificate with the cycle %v of %d nodes = true", list, n)
				}
			}
		}
	}
}

// TestP04AllShortLists compares the mean of every list over few nodes.
func TestP04AllShortLists(t *testing.T) {
	random := newRandom(41)
	codes := map[int64]int{}
	for n := 1; n <= 4; n++ {
		for _, a := range graphs(random, n) {
			for length := 1; length <= n+1; length++ {
				lists(n, length, func(list []int64) {
					want, wantCode := impl.Ratio{}, int64(impl.ErrNotFound)
					if weight, ok := plainCycle(a, list); ok {
						want, wantCode = wantRatio(big.NewRat(weight, int64(length)))
					}
					r, code := impl.MeanOf(a, list)
					checkRatio(t, "MeanOf of "+impl.MatrixText(a), r, code, want, wantCode)
					codes[code]++
				})
			}
		}
	}
	checkVaried(t, codes, map[int64]int{impl.ErrNone: 50, impl.ErrNotFound: 50, impl.ErrLimit: 5})
}

func TestP04CycleMeans(t *testing.T) {
	whole := []int64{0, 1, 2, 3, 4, 5, 6, 7, 8, 9}
	odd := [][]int64{{bottom, maxFinite}, {maxFinite - 1, bottom}}
	cases := []struct {
		a    [][]int64
		want impl.Ratio
		best []int64
	}{
		{[][]int64{{7}}, ratio(7, 1), []int64{0}},
		{[][]int64{{0}}, ratio(0, 1), []int64{0}},
		{[][]int64{{-7}}, ratio(-7, 1), []int64{0}},
		{[][]int64{{maxFinite}}, ratio(maxFinite, 1), []int64{0}},
		{[][]int64{{-maxFinite}}, ratio(-maxFinite, 1), []int64{0}},
		{filled(maxSize, maxSize, 0), ratio(0, 1), []int64{0}},
		{filled(maxSize, maxSize, maxFinite), ratio(maxFinite, 1), []int64{0}},
		{filled(maxSize, maxSize, -maxFinite), ratio(-maxFinite, 1), []int64{0}},
		{noLoops(maxSize, -3), ratio(-3, 1), []int64{0, 1}},
		{with(noLoops(maxSize, 0), 8, 9, 1), ratio(1, 2), []int64{8, 9}},
		{with(forward(maxSize, 0), 0, 9, 1), ratio(1, 2), []int64{0, 9}},
		{with(forward(maxSize, 0), 0, 9, -1), ratio(-1, 10), whole},
		{with(forward(maxSize, maxFinite), 4, 4, -maxFinite), ratio(-maxFinite, 1), []int64{4}},
		{with(unitOf(maxSize), 9, 9, 1), ratio(1, 1), []int64{9}},
		{unitOf(maxSize), ratio(0, 1), []int64{0}},
		{ring(maxSize, 3), ratio(3, 1), whole},
		{ring(maxSize, -maxFinite), ratio(-maxFinite, 1), whole},
		{with(ring(maxSize, 0), 0, 9, -1), ratio(-1, 10), whole},
		{with(ring(maxSize, 0), 0, 9, 7), ratio(7, 10), whole},
		{[][]int64{{1, 2, bottom}, {3, bottom, 7}, {bottom, -2, 2}}, ratio(5, 2), []int64{0, 1}},
		{[][]int64{{bottom, 2, bottom}, {3, bottom, 7}, {bottom, -3, 2}}, ratio(5, 2), []int64{0, 1}},
		{[][]int64{{bottom, 1, bottom}, {3, bottom, 7}, {bottom, -2, 2}}, ratio(5, 2), []int64{1, 2}},
		{[][]int64{{bottom, 1, bottom}, {3, bottom, 6}, {bottom, -2, 2}}, ratio(2, 1), []int64{0, 1}},
		{[][]int64{{bottom, 0, bottom}, {3, bottom, 6}, {bottom, -2, 2}}, ratio(2, 1), []int64{1, 2}},
		{[][]int64{{bottom, 0, bottom}, {3, bottom, 5}, {bottom, -2, 2}}, ratio(2, 1), []int64{2}},
		// Of several best cycles the smallest list, not the shortest one.
		{[][]int64{{bottom, bottom, 4}, {5, bottom, bottom}, {bottom, 6, 5}}, ratio(5, 1), []int64{0, 1, 2}},
		{[][]int64{{bottom, bottom, 1}, {1, bottom, bottom}, {1, 1, bottom}}, ratio(1, 1), []int64{0, 1, 2}},
		{[][]int64{{bottom, 1, 1}, {bottom, bottom, 1}, {1, bottom, bottom}}, ratio(1, 1), []int64{0, 2}},
		// A cycle that is a beginning of another one comes before it.
		{noLoops(3, -1), ratio(-1, 1), []int64{0, 1}},
		// The heaviest cycle has not the greatest mean.
		{[][]int64{{bottom, bottom, 4}, {4, bottom, bottom}, {bottom, 4, 5}}, ratio(5, 1), []int64{2}},
		{[][]int64{{bottom, bottom, -4}, {-4, bottom, bottom}, {bottom, -4, -5}}, ratio(-4, 1), []int64{0, 1, 2}},
		// Best cycles on both sides of a cut, and nodes that no cycle comes to.
		{[][]int64{{bottom, bottom, bottom, 3}, {9, 2, bottom, bottom}, {9, 9, 2, bottom}, {bottom, bottom, bottom, bottom}}, ratio(2, 1), []int64{1}},
		{[][]int64{{bottom, bottom}, {maxFinite, -5}}, ratio(-5, 1), []int64{1}},
		{[][]int64{{-5, maxFinite}, {bottom, bottom}}, ratio(-5, 1), []int64{0}},
		// A way that begins at the least node, but ends where only a greater one is met again.
		{[][]int64{{-1, 0, bottom}, {0, bottom, 0}, {bottom, 0, bottom}}, ratio(0, 1), []int64{0, 1}},
		{[][]int64{{bottom, bottom, bottom, -1}, {0, bottom, bottom, bottom}, {bottom, 0, bottom, 0}, {bottom, bottom, 0, bottom}}, ratio(0, 1), []int64{2, 3}},
		{[][]int64{{bottom, bottom, bottom, 0}, {0, bottom, bottom, bottom}, {bottom, 0, bottom, 0}, {0, bottom, 0, bottom}}, ratio(0, 1), []int64{0, 1, 2, 3}},
		// The greatest mean is valid, though others are not.
		{with(odd, 0, 0, maxFinite), ratio(maxFinite, 1), []int64{0}},
		{with(ring(2, -maxFinite), 0, 1, -maxFinite+2), ratio(-maxFinite+1, 1), []int64{0, 1}},
		{with(with(ring(2, -maxFinite), 0, 1, -maxFinite+1), 1, 1, -maxFinite+1), ratio(-maxFinite+1, 1), []int64{1}},
	}
	for _, c := range cases {
		what := " of " + impl.MatrixText(c.a)
		r, code := impl.CycleMean(c.a)
		checkRatio(t, "CycleMean"+what, r, code, c.want, impl.ErrNone)
		r, code = impl.TableMean(c.a)
		checkRatio(t, "TableMean"+what, r, code, c.want, impl.ErrNone)
		best, code := impl.BestCycle(c.a)
		checkList(t, "BestCycle"+what, best, code, c.best, impl.ErrNone)
	}
}

// A mean that is no valid ratio is not told, but a cycle that has it is a list of nodes.
func TestP04MeansBeyondTheLimit(t *testing.T) {
	odd := with(ring(2, maxFinite), 0, 1, maxFinite-1)
	third := with(with(ring(3, 0), 0, 2, maxFinite), 1, 0, 1)
	cases := []struct {
		a    [][]int64
		best []int64
	}{
		{odd, []int64{0, 1}},
		{with(odd, 0, 0, maxFinite-1), []int64{0, 1}}, // the mean of 0 alone is less, and valid
		{with(ring(2, -maxFinite), 0, 1, -maxFinite+1), []int64{0, 1}},
		{with(with(ring(2, -maxFinite), 0, 1, -maxFinite+1), 1, 1, -maxFinite), []int64{0, 1}},
		{third, []int64{0, 1, 2}},
		{with(third, 2, 2, 333333), []int64{0, 1, 2}},
		{with(ring(maxSize, maxFinite), 0, 9, maxFinite-1), []int64{0, 1, 2, 3, 4, 5, 6, 7, 8, 9}},
	}
	for _, c := range cases {
		what := " of " + impl.MatrixText(c.a)
		r, code := impl.CycleMean(c.a)
		checkRatio(t, "CycleMean"+what, r, code, impl.Ratio{}, impl.ErrLimit)
		r, code = impl.TableMean(c.a)
		checkRatio(t, "TableMean"+what, r, code, impl.Ratio{}, impl.ErrLimit)
		best, code := impl.BestCycle(c.a)
		checkList(t, "BestCycle"+what, best, code, c.best, impl.ErrNone)
		checkNoCertificate(t, c.a, impl.ErrLimit)
	}
}

func checkNoCertificate(t *testing.T, a [][]int64, wantCode int64) {
	t.Helper()
	mean, cycle, x, code := impl.CertifyMean(a)
	if mean != (impl.Ratio{}) || len(cycle) != 0 || len(x) != 0 || code != wantCode {
		t.Errorf("CertifyMean of %.200v = %v, %v, %v, %d, want code %d", a, mean, cycle, x, code, wantCode)
	}
}

func TestP04NoCycles(t *testing.T) {
	graphs := [][][]int64{{{bottom, 5}, {bottom, bottom}}, {{bottom, bottom, 3}, {2, bottom, -1}, {bottom, bottom, bottom}}}
	for n := 1; n <= maxSize; n++ {
		upward := forward(n, maxFinite)
		downward, _ := impl.TransposeMatrix(upward)
		graphs = append(graphs, filled(n, n, bottom), upward, downward, forward(n, -maxFinite))
	}
	for _, a := range graphs {
		what := " of " + impl.MatrixText(a)
		r, code := impl.CycleMean(a)
		checkRatio(t, "CycleMean"+what, r, code, impl.Ratio{}, impl.ErrNotFound)
		r, code = impl.TableMean(a)
		checkRatio(t, "TableMean"+what, r, code, impl.Ratio{}, impl.ErrNotFound)
		best, code := impl.BestCycle(a)
		checkList(t, "BestCycle"+what, best, code, nil, impl.ErrNotFound)
		checkNoCertificate(t, a, impl.ErrNotFound)
		// One arc more closes a cycle.
		r, code = impl.CycleMean(with(a, len(a)-1, len(a)-1, -2))
		checkRatio(t, "CycleMean with an arc added to that"+what, r, code, ratio(-2, 1), impl.ErrNone)
	}
}

func TestP04BestCyclesAreTheSmallest(t *testing.T) {
	random := newRandom(42)
	codes := map[int64]int{}
	for a := range manyGraphs(random, 1, 6, 40, graphs) {
		codes[checkBest(t, a)]++
	}
	for _, a := range graphs(random, 7) {
		codes[checkBest(t, a)]++
	}
	checkVaried(t, codes, map[int64]int{impl.ErrNone: 1000, impl.ErrNotFound: 50, impl.ErrLimit: 50})
}

// checkBest compares with all cycles and returns the code of CycleMean.
func checkBest(t *testing.T, a [][]int64) int64 {
	t.Helper()
	what := " of " + impl.MatrixText(a)
	best, mean := plainBest(a)
	want, wantCode, bestCode := impl.Ratio{}, int64(impl.ErrNotFound), int64(impl.ErrNotFound)
	if mean != nil {
		want, wantCode = wantRatio(mean)
		bestCode = impl.ErrNone
	}
	r, code := impl.TableMean(a)
	checkRatio(t, "TableMean"+what, r, code, want, wantCode)
	r, code = impl.CycleMean(a)
	checkRatio(t, "CycleMean"+what, r, code, want, wantCode)
	cycle, bestIs := impl.BestCycle(a)
	checkList(t, "BestCycle"+what, cycle, bestIs, best, bestCode)
	return code
}

// plainTable follows the definition of the table mean, with F from all lists of nodes.
func plainTable(a [][]int64) *big.Rat {
	n := len(a)
	table := filled(n+1, n, bottom)
	for k := range table {
		lists(n, k+1, func(list []int64) {
			if weight, ok := plainWeight(a, list); ok {
				table[k][list[k]] = max(table[k][list[k]], weight)
			}
		})
	}
	var greatest *big.Rat
	for v := range n {
		if table[n][v] == bottom {
			continue
		}
		var least *big.Rat
		for k := range n {
			if table[k][v] == bottom {
				continue
			}
			slope := big.NewRat(table[n][v]-table[k][v], int64(n-k))
			if least == nil || slope.Cmp(least) < 0 {
				least = slope
			}
		}
		if greatest == nil || least.Cmp(greatest) > 0 {
			greatest = least
		}
	}
	return greatest
}

func TestP04TableFollowsTheDefinition(t *testing.T) {
	random := newRandom(43)
	for a := range manyGraphs(random, 1, 4, 20, graphs) {
		want, wantCode := impl.Ratio{}, int64(impl.ErrNotFound)
		if mean := plainTable(a); mean != nil {
			want, wantCode = wantRatio(mean)
		}
		r, code := impl.TableMean(a)
		checkRatio(t, "TableMean of "+impl.MatrixText(a), r, code, want, wantCode)
	}
}

// TestP04Guarantee is the promise: the cycle mean is reached by a cycle and bounded by a potential,
// and the table mean is equal to it.
func TestP04Guarantee(t *testing.T) {
	checkEach(t, manyGraphs(newRandom(44), 1, maxSize, 40, graphs), checkGuarantee, map[int64]int{impl.ErrNone: 1000, impl.ErrNotFound: 50, impl.ErrLimit: 500})
}

func checkGuarantee(t *testing.T, a [][]int64) int64 {
	t.Helper()
	what := " of " + impl.MatrixText(a)
	mean, meanCode := impl.CycleMean(a)
	table, tableCode := impl.TableMean(a)
	checkRatio(t, "TableMean"+what, table, tableCode, mean, meanCode)
	cycle, cycleCode := impl.BestCycle(a)
	if (cycleCode == impl.ErrNotFound) != (meanCode == impl.ErrNotFound) {
		t.Fatalf("CycleMean tells %d, BestCycle %d%s", meanCode, cycleCode, what)
	}
	if cycleCode != impl.ErrNone {
		checkNoCertificate(t, a, cycleCode)
		return cycleCode
	}
	weight, ok := plainCycle(a, cycle)
	if !ok || cycle[0] != slices.Min(cycle) {
		t.Fatalf("BestCycle%s = %v", what, cycle)
	}
	want, wantCode := wantRatio(big.NewRat(weight, int64(len(cycle))))
	checkRatio(t, "CycleMean"+what, mean, meanCode, want, wantCode)

	shifted := plainShift(a, weight, int64(len(cycle)))
	x, ok := plainPotential(shifted)
	if !ok || !isBound(shifted, x) {
		t.Errorf("BestCycle%s = %v has not the greatest mean", what, cycle)
	}
	checkList(t, "BestCycle"+what, cycle, cycleCode, tightBest(shifted, x), impl.ErrNone)
	if meanCode != impl.ErrNone {
		checkNoCertificate(t, a, meanCode)
		return meanCode
	}
	return checkCertificate(t, a, mean, cycle)
}

// checkCertificate looks at CertifyMean where the mean is a valid ratio, and returns its code.
func checkCertificate(t *testing.T, a [][]int64, mean impl.Ratio, cycle []int64) int64 {
	t.Helper()
	x, _ := plainPotential(plainShift(a, mean.Num, mean.Den))
	if slices.Max(x) > maxFinite {
		checkNoCertificate(t, a, impl.ErrLimit)
		return impl.ErrLimit
	}
	r, c, y, code := impl.CertifyMean(a)
	if r != mean || !slices.Equal(c, cycle) || !slices.Equal(y, x) || code != impl.ErrNone {
		t.Errorf("CertifyMean of %s = %v, %v, %v, %d, want %v, %v, %v", impl.MatrixText(a), r, c, y, code, mean, cycle, x)
	}
	if !impl.IsPotential(a, r, y) || !impl.IsMeanCertificate(a, r, c, y) {
		t.Errorf("the certificate %v, %v, %v of %s does not hold", r, c, y, impl.MatrixText(a))
	}
	return impl.ErrNone
}

func TestP04ShiftMatrix(t *testing.T) {
	a := [][]int64{{1, 2, bottom}, {3, bottom, 7}, {bottom, -2, 2}}
	cases := []struct {
		a    [][]int64
		r    impl.Ratio
		want [][]int64
		code int64
	}{
		{a, ratio(5, 2), [][]int64{{-3, -1, bottom}, {1, bottom, 9}, {bottom, -9, -1}}, impl.ErrNone},
		{a, ratio(0, 1), a, impl.ErrNone},
		{a, ratio(-1, 1), [][]int64{{2, 3, bottom}, {4, bottom, 8}, {bottom, -1, 3}}, impl.ErrNone},
		{a, ratio(-7, 3), [][]int64{{10, 13, bottom}, {16, bottom, 28}, {bottom, 1, 13}}, impl.ErrNone},
		{a, ratio(1, 142857), [][]int64{{142856, 285713, bottom}, {428570, bottom, 999998}, {bottom, -285715, 285713}}, impl.ErrNone},
		{a, ratio(-1, 142857), [][]int64{{142858, 285715, bottom}, {428572, bottom, maxFinite}, {bottom, -285713, 285715}}, impl.ErrNone},
		{a, ratio(-2, 142857), nil, impl.ErrLimit},
		{a, ratio(1, 142858), nil, impl.ErrLimit},
		{[][]int64{{0}}, ratio(maxFinite, 1), [][]int64{{-maxFinite}}, impl.ErrNone},
		{[][]int64{{0}}, ratio(-maxFinite, 1), [][]int64{{maxFinite}}, impl.ErrNone},
		{[][]int64{{-1}}, ratio(maxFinite, 1), nil, impl.ErrLimit},
		{[][]int64{{1}}, ratio(-maxFinite, 1), nil, impl.ErrLimit},
		{[][]int64{{1}}, ratio(maxFinite, 1), [][]int64{{-maxFinite + 1}}, impl.ErrNone},
		{[][]int64{{maxFinite}}, ratio(maxFinite, 1), [][]int64{{0}}, impl.ErrNone},
		{[][]int64{{-maxFinite}}, ratio(-maxFinite, 1), [][]int64{{0}}, impl.ErrNone},
		{[][]int64{{maxFinite}}, ratio(0, 1), [][]int64{{maxFinite}}, impl.ErrNone},
		{[][]int64{{maxFinite}}, ratio(-1, 1), nil, impl.ErrLimit},
		{[][]int64{{-maxFinite}}, ratio(1, 1), nil, impl.ErrLimit},
		{[][]int64{{maxFinite}}, ratio(maxFinite-1, maxFinite), nil, impl.ErrLimit},
		{[][]int64{{-maxFinite}}, ratio(maxFinite-1, maxFinite), nil, impl.ErrLimit},
		{[][]int64{{1}}, ratio(1, maxFinite), [][]int64{{maxFinite - 1}}, impl.ErrNone},
		{[][]int64{{1}}, ratio(-1, maxFinite), nil, impl.ErrLimit},
		{[][]int64{{bottom}}, ratio(-1, maxFinite), [][]int64{{bottom}}, impl.ErrNone},
		{filled(maxSize, maxSize, bottom), ratio(maxFinite, 1), filled(maxSize, maxSize, bottom), impl.ErrNone},
		{filled(maxSize, maxSize, 3), ratio(7, 2), filled(maxSize, maxSize, -1), impl.ErrNone},
		{with(filled(maxSize, maxSize, 3), 9, 9, maxFinite), ratio(7, 2), nil, impl.ErrLimit},
	}
	for _, c := range cases {
		b, code := impl.ShiftMatrix(c.a, c.r)
		checkMatrix(t, "ShiftMatrix of "+impl.MatrixText(c.a), b, code, c.want, c.code)
	}
}

// someRatios are below, at and above the means of small graphs, and at the limits.
func someRatios(random *rand.Rand) []impl.Ratio {
	list := []impl.Ratio{ratio(0, 1), ratio(1, 1), ratio(-1, 1), ratio(1, 2), ratio(-5, 3), ratio(maxFinite, 1), ratio(-maxFinite, 1), ratio(maxFinite-1, maxFinite), ratio(-1, maxFinite)}
	for range 3 {
		r, _ := impl.MakeRatio(random.Int64N(101)-50, random.Int64N(9)+1)
		list = append(list, r)
	}
	return list
}

func TestP04ShiftsFollowTheDefinition(t *testing.T) {
	random := newRandom(45)
	for n := 1; n <= maxSize; n++ {
		for _, a := range graphs(random, n) {
			for _, r := range someRatios(random) {
				want, wantCode := plainShift(a, r.Num, r.Den), int64(impl.ErrNone)
				if !allValues(want) {
					want, wantCode = nil, impl.ErrLimit
				}
				b, code := impl.ShiftMatrix(a, r)
				checkMatrix(t, "ShiftMatrix of "+impl.MatrixText(a), b, code, want, wantCode)
			}
		}
	}
}

func TestP04PotentialOf(t *testing.T) {
	a := [][]int64{{1, 2, bottom}, {3, bottom, 7}, {bottom, -2, 2}}
	chain := [][]int64{{bottom, bottom, bottom}, {-1, bottom, bottom}, {bottom, 1, bottom}}
	cases := []struct {
		a    [][]int64
		r    impl.Ratio
		want []int64
		code int64
	}{
		{a, ratio(5, 2), []int64{8, 9, 0}, impl.ErrNone},
		{a, ratio(3, 1), []int64{3, 4, 0}, impl.ErrNone},
		{a, ratio(7, 1), []int64{0, 0, 0}, impl.ErrNone},
		{a, ratio(maxFinite, 1), []int64{0, 0, 0}, impl.ErrNone},
		{a, ratio(2, 1), nil, impl.ErrState},
		{a, ratio(7, 3), nil, impl.ErrState},
		{a, ratio(-maxFinite, 1), nil, impl.ErrState},
		{a, ratio(999999, 400000), nil, impl.ErrState},
		{a, ratio(500001, 200000), []int64{799998, 899999, 0}, impl.ErrNone},
		// Just above the cycle mean, but with a denominator that is too great for the path 2 1.
		{a, ratio(750001, 300000), nil, impl.ErrLimit},
		// A mean that is too great is told before a number that is no value.
		{a, ratio(749999, 300000), nil, impl.ErrState},
		{[][]int64{{5}}, ratio(5, 1), []int64{0}, impl.ErrNone},
		{[][]int64{{5}}, ratio(4, 1), nil, impl.ErrState},
		{[][]int64{{5}}, ratio(6, 1), []int64{0}, impl.ErrNone},
		{[][]int64{{5}}, ratio(maxFinite-1, 200000), nil, impl.ErrState},
		{[][]int64{{bottom}}, ratio(-maxFinite, 1), []int64{0}, impl.ErrNone},
		{[][]int64{{maxFinite}}, ratio(maxFinite, 1), []int64{0}, impl.ErrNone},
		{[][]int64{{maxFinite}}, ratio(maxFinite-1, 1), nil, impl.ErrState},
		{[][]int64{{maxFinite}}, ratio(maxFinite-1, maxFinite), nil, impl.ErrState},
		{filled(maxSize, maxSize, 0), ratio(0, 1), slices.Repeat([]int64{0}, maxSize), impl.ErrNone},
		{filled(maxSize, maxSize, maxFinite), ratio(maxFinite, 1), slices.Repeat([]int64{0}, maxSize), impl.ErrNone},
		{filled(maxSize, maxSize, 1), ratio(1, 2), nil, impl.ErrState},
		// Without a cycle there is a potential for every ratio, unless it is too great.
		{forward(maxSize, 1), ratio(0, 1), []int64{0, 1, 2, 3, 4, 5, 6, 7, 8, 9}, impl.ErrNone},
		{forward(maxSize, 1), ratio(-1, 1), []int64{0, 2, 4, 6, 8, 10, 12, 14, 16, 18}, impl.ErrNone},
		{forward(maxSize, 1), ratio(-2, 3), []int64{0, 5, 10, 15, 20, 25, 30, 35, 40, 45}, impl.ErrNone},
		{forward(maxSize, 1), ratio(1, 1), slices.Repeat([]int64{0}, maxSize), impl.ErrNone},
		{forward(maxSize, 111111), ratio(0, 1), []int64{0, 111111, 222222, 333333, 444444, 555555, 666666, 777777, 888888, 999999}, impl.ErrNone},
		{forward(maxSize, 111112), ratio(0, 1), nil, impl.ErrLimit},
		{chain, ratio(0, 1), []int64{0, 0, 1}, impl.ErrNone},
		{chain, ratio(-3, 1), []int64{0, 2, 6}, impl.ErrNone},
		{chain, ratio(-500000, 1), []int64{0, 499999, maxFinite}, impl.ErrNone},
		{chain, ratio(-500001, 1), nil, impl.ErrLimit},
		{chain, ratio(-maxFinite, 1), nil, impl.ErrLimit},
		{[][]int64{{bottom, bottom}, {0, bottom}}, ratio(-maxFinite, 1), []int64{0, maxFinite}, impl.ErrNone},
		{[][]int64{{bottom, bottom}, {1, bottom}}, ratio(-maxFinite, 1), nil, impl.ErrLimit},
		// The shifted matrix has entries that are no values, but the potential has not.
		{[][]int64{{-maxFinite}}, ratio(1, 2), []int64{0}, impl.ErrNone},
		{[][]int64{{bottom, -maxFinite}, {3, bottom}}, ratio(maxFinite, 1), []int64{0, 0}, impl.ErrNone},
		{[][]int64{{bottom, -maxFinite}, {3, bottom}}, ratio(-1, 300000), []int64{0, 900001}, impl.ErrNone},
		{filled(maxSize, maxSize, -maxFinite), ratio(maxFinite-1, maxFinite), slices.Repeat([]int64{0}, maxSize), impl.ErrNone},
	}
	for _, c := range cases {
		x, code := impl.PotentialOf(c.a, c.r)
		checkList(t, "PotentialOf of "+impl.MatrixText(c.a), x, code, c.want, c.code)
	}
}

// TestP04PotentialsAreTheLeast takes ratios below, at and above the cycle mean.
func TestP04PotentialsAreTheLeast(t *testing.T) {
	random := newRandom(46)
	codes := map[int64]int{}
	for a := range manyGraphs(random, 1, maxSize, 6, graphs) {
		ratios := someRatios(random)
		if mean, code := impl.CycleMean(a); code == impl.ErrNone {
			ratios = append(ratios, mean)
			for _, step := range []int64{-1, 1} {
				near, code := wantRatio(big.NewRat(7*mean.Num+step, 7*mean.Den))
				if code == impl.ErrNone {
					ratios = append(ratios, near)
				}
			}
		}
		for _, r := range ratios {
			codes[checkPotential(t, a, r)]++
		}
	}
	checkVaried(t, codes, map[int64]int{impl.ErrNone: 1000, impl.ErrState: 1000, impl.ErrLimit: 500})
}

func checkPotential(t *testing.T, a [][]int64, r impl.Ratio) int64 {
	t.Helper()
	shifted := plainShift(a, r.Num, r.Den)
	want, ok := plainPotential(shifted)
	wantCode := int64(impl.ErrNone)
	if !ok {
		want, wantCode = nil, impl.ErrState
	} else if slices.Max(want) > maxFinite {
		want, wantCode = nil, impl.ErrLimit
	}
	x, code := impl.PotentialOf(a, r)
	checkList(t, "PotentialOf of "+impl.MatrixText(a), x, code, want, wantCode)
	if code == impl.ErrNone {
		checkNeighbours(t, a, r, shifted, x)
	}
	return code
}

// checkNeighbours changes a potential: raised as a whole it is one, and with one element changed
// it is one if the arcs allow it. A lower one would not be the least one.
func checkNeighbours(t *testing.T, a [][]int64, r impl.Ratio, shifted [][]int64, x []int64) {
	t.Helper()
	if !impl.IsPotential(a, r, x) {
		t.Errorf("PotentialOf(%v, %v) = %v is no potential", a, r, x)
	}
	for _, change := range []int64{-slices.Max(x) - maxFinite, -slices.Max(x), -1, 1, maxFinite - slices.Max(x)} {
		moved := slices.Clone(x)
		allFinite := true
		for i := range moved {
			moved[i] += change
			allFinite = allFinite && isFiniteNumber(moved[i])
		}
		if impl.IsPotential(a, r, moved) != allFinite {
			t.Errorf("IsPotential(%v, %v, %v) = %v", a, r, moved, !allFinite)
		}
	}
	for i := range x {
		for _, change := range []int64{-maxFinite, -1, 1, maxFinite} {
			y := slices.Clone(x)
			y[i] += change
			want := isFiniteNumber(y[i]) && isBound(shifted, y)
			if impl.IsPotential(a, r, y) != want {
				t.Errorf("IsPotential(%v, %v, %v) = %v", a, r, y, !want)
			}
			if want && y[i] < x[i] && y[i] >= 0 {
				t.Errorf("PotentialOf(%v, %v) = %v is not the least one", a, r, x)
			}
		}
	}
}

func TestP04IsPotential(t *testing.T) {
	a := [][]int64{{1, 2, bottom}, {3, bottom, 7}, {bottom, -2, 2}}
	half := ratio(5, 2)
	cases := []struct {
		a    [][]int64
		r    impl.Ratio
		x    []int64
		want bool
	}{
		{a, half, []int64{8, 9, 0}, true},   // with equality at 0 1, 1 0, 1 2 and 2 1
		{a, half, []int64{8, 9, 1}, false},  // fails at the arc from 2 to 1 alone
		{a, half, []int64{8, 9, -1}, false}, // fails at the arc from 1 to 2 alone
		{a, half, []int64{8, 10, 0}, false}, // fails at arcs from 1
		{a, half, []int64{7, 9, 0}, false},  // fails at the arc from 1 to 0 alone
		{a, half, []int64{9, 9, 0}, false},  // fails at the arc from 0 to 1 alone
		{a, ratio(2, 1), []int64{8, 9, 0}, false},
		{a, ratio(3, 1), []int64{8, 9, 0}, false},
		{a, ratio(3, 1), []int64{3, 4, 0}, true},
		{a, ratio(7, 1), []int64{0, 0, 0}, true},
		{a, ratio(7, 1), []int64{-maxFinite, -maxFinite, -maxFinite}, true},
		{a, ratio(7, 1), []int64{maxFinite, maxFinite, maxFinite}, true},
		{a, ratio(7, 1), []int64{maxFinite, maxFinite, maxFinite + 1}, false},
		{a, ratio(7, 1), []int64{-maxFinite - 1, -maxFinite, -maxFinite}, false},
		{a, half, []int64{0, 0, 0}, false},
		{a, half, []int64{8, 9}, false},
		{a, half, []int64{8, 9, 0, 0}, false},
		{a, half, nil, false},
		{a, half, []int64{}, false},
		{a, half, []int64{8, 9, bottom}, false},
		{a, half, []int64{bottom, bottom, bottom}, false},
		{a, ratio(maxFinite, 1), slices.Repeat([]int64{0}, maxSize), false},
		{[][]int64{{5}}, ratio(5, 1), []int64{-3}, true},
		{[][]int64{{5}}, ratio(4, 1), []int64{-3}, false},
		{[][]int64{{bottom}}, ratio(-maxFinite, 1), []int64{maxFinite}, true},
		{[][]int64{{bottom}}, ratio(0, 1), []int64{bottom}, false},
		{[][]int64{{bottom}}, ratio(0, 1), nil, false},
		{[][]int64{{bottom, bottom}, {-maxFinite, bottom}}, ratio(maxFinite, 1), []int64{maxFinite, -maxFinite}, true},
		{[][]int64{{bottom, bottom}, {-maxFinite, bottom}}, ratio(0, 1), []int64{maxFinite, 0}, true},
		{[][]int64{{bottom, bottom}, {-maxFinite, bottom}}, ratio(0, 1), []int64{maxFinite, -1}, false},
		// A shifted entry that is no value counts as it is.
		{[][]int64{{bottom, bottom}, {maxFinite, bottom}}, ratio(-maxFinite, 1), []int64{-maxFinite, maxFinite}, true},
		{[][]int64{{bottom, bottom}, {maxFinite, bottom}}, ratio(-maxFinite, 1), []int64{-maxFinite + 1, maxFinite}, false},
		{[][]int64{{bottom, bottom}, {maxFinite, bottom}}, ratio(-1, 1), []int64{-1, maxFinite}, true},
		{[][]int64{{bottom, bottom}, {maxFinite, bottom}}, ratio(-1, 1), []int64{0, maxFinite}, false},
		{[][]int64{{maxFinite}}, ratio(maxFinite-1, maxFinite), []int64{0}, false},
		{[][]int64{{-maxFinite}}, ratio(maxFinite-1, maxFinite), []int64{0}, true},
		{filled(maxSize, maxSize, 0), ratio(0, 1), slices.Repeat([]int64{4}, maxSize), true},
		{filled(maxSize, maxSize, 0), ratio(0, 1), []int64{4, 4, 4, 4, 4, 4, 4, 4, 4, 5}, false},
		{filled(maxSize, maxSize, 0), ratio(1, 1), []int64{4, 4, 4, 4, 4, 4, 4, 4, 4, 5}, true},
		{filled(maxSize, maxSize, 0), ratio(0, 1), slices.Repeat([]int64{4}, maxSize+1), false},
	}
	for _, c := range cases {
		if is := impl.IsPotential(c.a, c.r, c.x); is != c.want {
			t.Errorf("IsPotential(%v, %v, %v) = %v", c.a, c.r, c.x, is)
		}
	}
	for _, bad := range notValues() {
		for i := range a {
			x := []int64{3, 4, 0}
			x[i] = bad
			if impl.IsPotential(a, ratio(3, 1), x) || impl.IsPotential(filled(3, 3, bottom), ratio(3, 1), x) {
				t.Errorf("IsPotential with the element %d = true", bad)
			}
		}
	}
}

// Without arcs every list of finite values with the right length is a potential.
func TestP04LengthsOfPotentials(t *testing.T) {
	for n := 1; n <= maxSize; n++ {
		for m := 0; m <= maxSize+1; m++ {
			a := filled(n, n, bottom)
			if is := impl.IsPotential(a, ratio(-2, 3), make([]int64, m)); is != (m == n) {
				t.Errorf("IsPotential of %d elements for %d nodes = %v", m, n, is)
			}
			for i := range min(m, n) {
				x := make([]int64, m)
				x[i] = bottom
				if impl.IsPotential(a, ratio(-2, 3), x) {
					t.Errorf("IsPotential(%v) = true for %d nodes", x, n)
				}
			}
		}
	}
}

// A potential bounds the mean of each cycle: for a ratio below the cycle mean there is none.
func TestP04NoPotentialBelowTheMean(t *testing.T) {
	random := newRandom(47)
	holding := 0
	for n := 1; n <= 4; n++ {
		for range 40 {
			a := randomMatrix(random, n, n, 3)
			_, mean := plainBest(a)
			for range 200 {
				x := make([]int64, n)
				for i := range x {
					x[i] = random.Int64N(13) - 6
				}
				r, _ := impl.MakeRatio(random.Int64N(17)-8, random.Int64N(3)+1)
				want := isBound(plainShift(a, r.Num, r.Den), x)
				if impl.IsPotential(a, r, x) != want {
					t.Errorf("IsPotential(%v, %v, %v) = %v", a, r, x, !want)
				}
				if want && mean != nil && mean.Cmp(big.NewRat(r.Num, r.Den)) > 0 {
					t.Errorf("%v with the mean %v has the potential %v for %v", a, mean, x, r)
				}
				if want {
					holding++
				}
			}
		}
	}
	if holding < 1000 {
		t.Errorf("only %d potentials hold", holding)
	}
}

func TestP04CertifyMean(t *testing.T) {
	whole := []int64{0, 1, 2, 3, 4, 5, 6, 7, 8, 9}
	cases := []struct {
		a     [][]int64
		mean  impl.Ratio
		cycle []int64
		x     []int64
		code  int64
	}{
		{[][]int64{{1, 2, bottom}, {3, bottom, 7}, {bottom, -2, 2}}, ratio(5, 2), []int64{0, 1}, []int64{8, 9, 0}, impl.ErrNone},
		{[][]int64{{7}}, ratio(7, 1), []int64{0}, []int64{0}, impl.ErrNone},
		{[][]int64{{-maxFinite}}, ratio(-maxFinite, 1), []int64{0}, []int64{0}, impl.ErrNone},
		{filled(maxSize, maxSize, maxFinite), ratio(maxFinite, 1), []int64{0}, make([]int64, maxSize), impl.ErrNone},
		{with(ring(maxSize, 0), 0, 9, 10), ratio(1, 1), whole, []int64{9, 8, 7, 6, 5, 4, 3, 2, 1, 0}, impl.ErrNone},
		{with(ring(maxSize, 0), 0, 9, -1), ratio(-1, 10), whole, []int64{0, 1, 2, 3, 4, 5, 6, 7, 8, 9}, impl.ErrNone},
		{[][]int64{{bottom, maxFinite}, {-maxFinite, bottom}}, ratio(0, 1), []int64{0, 1}, []int64{maxFinite, 0}, impl.ErrNone},
		{[][]int64{{bottom, bottom}, {500000, 0}}, ratio(0, 1), []int64{1}, []int64{0, 500000}, impl.ErrNone},
		{[][]int64{{-maxFinite, bottom}, {0, -maxFinite}}, ratio(-maxFinite, 1), []int64{0}, []int64{0, maxFinite}, impl.ErrNone},
		// The mean is a valid ratio, but the potential is too great.
		{[][]int64{{-maxFinite, bottom}, {1, -maxFinite}}, impl.Ratio{}, nil, nil, impl.ErrLimit},
		{[][]int64{{bottom, maxFinite}, {-maxFinite + 1, bottom}}, impl.Ratio{}, nil, nil, impl.ErrLimit},
		{[][]int64{{0, bottom, bottom}, {maxFinite, bottom, bottom}, {bottom, 1, bottom}}, impl.Ratio{}, nil, nil, impl.ErrLimit},
	}
	for _, c := range cases {
		mean, cycle, x, code := impl.CertifyMean(c.a)
		if mean != c.mean || !slices.Equal(cycle, c.cycle) || !slices.Equal(x, c.x) || code != c.code {
			t.Errorf("CertifyMean of %s = %v, %v, %v, %d, want %v, %v, %v, %d", impl.MatrixText(c.a), mean, cycle, x, code, c.mean, c.cycle, c.x, c.code)
		}
		if is := impl.IsMeanCertificate(c.a, mean, cycle, x); is != (c.code == impl.ErrNone) {
			t.Errorf("IsMeanCertificate of %s = %v", impl.MatrixText(c.a), is)
		}
	}
}

func TestP04IsMeanCertificate(t *testing.T) {
	a := [][]int64{{1, 2, bottom}, {3, bottom, 7}, {bottom, -2, 2}}
	half := ratio(5, 2)
	odd := with(ring(2, maxFinite), 0, 1, maxFinite-1)
	cases := []struct {
		a     [][]int64
		r     impl.Ratio
		cycle []int64
		x     []int64
		want  bool
	}{
		{a, half, []int64{0, 1}, []int64{8, 9, 0}, true},
		{a, half, []int64{1, 0}, []int64{8, 9, 0}, true}, // not written
		{a, half, []int64{1, 2}, []int64{8, 9, 0}, true}, // not the smallest one
		{a, half, []int64{2, 1}, []int64{9, 10, 1}, true},
		{a, half, []int64{2}, []int64{8, 9, 0}, false}, // a smaller mean
		{a, half, []int64{0}, []int64{8, 9, 0}, false},
		{a, half, []int64{0, 2}, []int64{8, 9, 0}, false},
		{a, half, []int64{0, 1, 0, 1}, []int64{8, 9, 0}, false},
		{a, half, nil, []int64{8, 9, 0}, false},
		{a, half, []int64{0, 3}, []int64{8, 9, 0}, false},
		{a, half, []int64{0, -1}, []int64{8, 9, 0}, false},
		{a, half, []int64{0, 1}, []int64{8, 9, 1}, false},
		{a, half, []int64{0, 1}, []int64{8, 9}, false},
		{a, half, []int64{0, 1}, []int64{8, 9, 0, 0}, false},
		{a, half, []int64{0, 1}, nil, false},
		{a, half, []int64{0, 1}, []int64{8, 9, bottom}, false},
		{a, ratio(3, 1), []int64{0, 1}, []int64{3, 4, 0}, false}, // a bound that no cycle reaches
		{a, ratio(2, 1), []int64{2}, []int64{8, 9, 0}, false},    // a cycle that another one exceeds
		{a, ratio(10, 4), []int64{0, 1}, []int64{8, 9, 0}, false},
		{a, ratio(-5, -2), []int64{0, 1}, []int64{8, 9, 0}, false},
		{[][]int64{{0}}, ratio(0, 1), []int64{0}, []int64{7}, true},
		{[][]int64{{0}}, ratio(0, 2), []int64{0}, []int64{7}, false},
		{[][]int64{{0}}, impl.Ratio{}, []int64{0}, []int64{7}, false},
		{[][]int64{{bottom}}, ratio(0, 1), []int64{0}, []int64{7}, false},
		{ring(maxSize, maxFinite), ratio(maxFinite, 1), []int64{5, 6, 7, 8, 9, 0, 1, 2, 3, 4}, make([]int64, maxSize), true},
		{ring(3, -maxFinite), ratio(-maxFinite, 1), []int64{0, 1, 2}, make([]int64, 3), true},
		// The mean is no valid ratio, whatever is put in its place.
		{odd, ratio(2*maxFinite-1, 2), []int64{0, 1}, []int64{0, 1}, false},
		{odd, ratio(maxFinite, 1), []int64{0, 1}, []int64{0, 0}, false},
	}
	for _, c := range cases {
		if is := impl.IsMeanCertificate(c.a, c.r, c.cycle, c.x); is != c.want {
			t.Errorf("IsMeanCertificate(%v, %v, %v, %v) = %v", c.a, c.r, c.cycle, c.x, is)
		}
	}
}

// TestP04InvalidArguments gives invalid graphs and ratios together with all that is checked after
// them.
func TestP04InvalidArguments(t *testing.T) {
	ratios := append(notRatios(), ratio(0, 1), ratio(maxFinite, 1))
	someLists := [][]int64{nil, {0}, {1, 0}, {-1}, {0, 99}, {math.MinInt64}, {bottom}, slices.Repeat([]int64{0}, maxPath+1)}
	for _, bad := range notSquares() {
		for _, list := range someLists {
			r, code := impl.MeanOf(bad, list)
			checkRatio(t, "MeanOf of no graph", r, code, impl.Ratio{}, impl.ErrInvalid)
		}
		r, code := impl.CycleMean(bad)
		checkRatio(t, "CycleMean of no graph", r, code, impl.Ratio{}, impl.ErrInvalid)
		r, code = impl.TableMean(bad)
		checkRatio(t, "TableMean of no graph", r, code, impl.Ratio{}, impl.ErrInvalid)
		best, code := impl.BestCycle(bad)
		checkList(t, "BestCycle of no graph", best, code, nil, impl.ErrInvalid)
		checkNoCertificate(t, bad, impl.ErrInvalid)
		for _, r := range ratios {
			checkNoPotential(t, bad, r, append(someLists, make([]int64, len(bad))))
		}
	}
	for _, bad := range notRatios() {
		for _, a := range [][][]int64{{{0}}, {{bottom}}, {{maxFinite}}, unitOf(2), forward(3, maxFinite), filled(maxSize, maxSize, maxFinite)} {
			checkNoPotential(t, a, bad, append(someLists, make([]int64, len(a))))
		}
	}
}

// checkNoPotential gives arguments that are no square matrix or no ratio to all functions that
// take both.
func checkNoPotential(t *testing.T, a [][]int64, r impl.Ratio, someLists [][]int64) {
	t.Helper()
	shifted, code := impl.ShiftMatrix(a, r)
	checkMatrix(t, "ShiftMatrix of wrong arguments", shifted, code, nil, impl.ErrInvalid)
	x, code := impl.PotentialOf(a, r)
	checkList(t, "PotentialOf of wrong arguments", x, code, nil, impl.ErrInvalid)
	for _, x := range someLists {
		if impl.IsPotential(a, r, x) {
			t.Errorf("IsPotential(%.100v, %v, %.100v) = true", a, r, x)
		}
		for _, cycle := range someLists {
			if impl.IsMeanCertificate(a, r, cycle, x) {
				t.Errorf("IsMeanCertificate(%.100v, %v, %.100v, %.100v) = true", a, r, cycle, x)
			}
		}
	}
}

func TestP04ResultsShareNoMemory(t *testing.T) {
	before := [][]int64{{1, 2, bottom}, {3, bottom, 7}, {bottom, -2, 2}}
	half := ratio(5, 2)
	calls := map[string]func(a [][]int64) ([][]int64, int64){
		"ShiftMatrix":       func(a [][]int64) ([][]int64, int64) { return impl.ShiftMatrix(a, half) },
		"ShiftMatrix by 0":  func(a [][]int64) ([][]int64, int64) { return impl.ShiftMatrix(a, ratio(0, 1)) },
		"PotentialOf":       oneRow(func(a [][]int64) ([]int64, int64) { return impl.PotentialOf(a, half) }),
		"PotentialOf of 0":  oneRow(func(a [][]int64) ([]int64, int64) { return impl.PotentialOf(a, ratio(9, 1)) }),
		"BestCycle":         oneRow(impl.BestCycle),
		"MeanOf":            means(func(a [][]int64) (impl.Ratio, int64) { return impl.MeanOf(a, []int64{1, 0}) }),
		"CycleMean":         means(impl.CycleMean),
		"TableMean":         means(impl.TableMean),
		"IsPotential":       answers(func(a [][]int64) bool { return impl.IsPotential(a, half, []int64{8, 9, 0}) }),
		"IsMeanCertificate": answers(func(a [][]int64) bool { return impl.IsMeanCertificate(a, half, []int64{1, 0}, []int64{8, 9, 0}) }),
		"CertifyMean": func(a [][]int64) ([][]int64, int64) {
			_, cycle, x, code := impl.CertifyMean(a)
			return [][]int64{cycle, x}, code
		},
	}
	checkCalls(t, calls, before)
	checkCalls(t, map[string]func(rows [][]int64) ([][]int64, int64){
		"MeanOf of a list":            means(func(rows [][]int64) (impl.Ratio, int64) { return impl.MeanOf(before, rows[0]) }),
		"IsPotential of a list":       answers(func(rows [][]int64) bool { return impl.IsPotential(before, half, rows[1]) }),
		"IsMeanCertificate of a list": answers(func(rows [][]int64) bool { return impl.IsMeanCertificate(before, half, rows[0], rows[1]) }),
	}, [][]int64{{1, 0}, {8, 9, 0}})
}

// oneRow lets checkCalls look at a function whose result is a list.
func oneRow(call func(a [][]int64) ([]int64, int64)) func(a [][]int64) ([][]int64, int64) {
	return func(a [][]int64) ([][]int64, int64) {
		row, code := call(a)
		return [][]int64{row}, code
	}
}

// means is the same for a function whose result is a ratio.
func means(call func(a [][]int64) (impl.Ratio, int64)) func(a [][]int64) ([][]int64, int64) {
	return func(a [][]int64) ([][]int64, int64) {
		r, code := call(a)
		return [][]int64{{r.Num, r.Den}}, code
	}
}

// answers is the same for a function whose result is true.
func answers(call func(a [][]int64) bool) func(a [][]int64) ([][]int64, int64) {
	return func(a [][]int64) ([][]int64, int64) {
		if !call(a) {
			return nil, impl.ErrState
		}
		return [][]int64{{1}}, impl.ErrNone
	}
}
