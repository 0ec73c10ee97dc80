package tests

import (
	"iter"
	"math"
	"math/rand/v2"
	"slices"
	"testing"

	"loop.example/g00941/impl"
)

const maxPath = 100

// notNodes are integers that a careless check could take for nodes of a graph with n nodes.
func notNodes(n int) []int64 {
	return []int64{math.MinInt64, bottom, -int64(n), -1, int64(n), int64(n) + 1, maxSize, maxPath, 1 << 32, math.MaxInt64}
}

// notSquares are no matrices, or none that stand for a graph.
func notSquares() [][][]int64 {
	list := append(notMatrices(), filled(1, 2, 0), filled(2, 1, 0), filled(1, maxSize, 0), filled(maxSize, 1, bottom), filled(9, 10, 0), filled(10, 9, 0))
	return append(list, [][]int64{{0, 1, 2}, {3, 4, 5}})
}

// ring has the arcs from each node to the next one and from the last one to the first one.
func ring(n int, weight int64) [][]int64 {
	a := filled(n, n, bottom)
	for j := range a {
		a[(j+1)%n][j] = weight
	}
	return a
}

// lists calls try with every list of the given length over the numbers 0 to n - 1.
func lists(n, length int, try func(list []int64)) {
	list := make([]int64, length)
	var set func(k int)
	set = func(k int) {
		if k == length {
			try(list)
			return
		}
		for node := range n {
			list[k] = int64(node)
			set(k + 1)
		}
	}
	set(0)
}

// plainWeight is the weight of a list as a path, and whether all arcs are there.
func plainWeight(a [][]int64, path []int64) (int64, bool) {
	weight := int64(0)
	for k := 0; k+1 < len(path); k++ {
		arc := a[path[k+1]][path[k]]
		if arc == bottom {
			return 0, false
		}
		weight += arc
	}
	return weight, true
}

func hasRepeats(list []int64) bool {
	sorted := slices.Sorted(slices.Values(list))
	return len(slices.Compact(sorted)) != len(list)
}

// plainCycle is the weight of a list as a cycle, and whether it is one.
func plainCycle(a [][]int64, cycle []int64) (int64, bool) {
	if len(cycle) == 0 || hasRepeats(cycle) {
		return 0, false
	}
	return plainWeight(a, append(slices.Clone(cycle), cycle[0]))
}

// simpleLists calls try with every list of different nodes that is not empty.
func simpleLists(n int, try func(list []int64)) {
	var list []int64
	var extend func()
	extend = func() {
		for node := int64(0); node < int64(n); node++ {
			if !slices.Contains(list, node) {
				list = append(list, node)
				try(list)
				extend()
				list = list[:len(list)-1]
			}
		}
	}
	extend()
}

// plainPositive compares all cycles of a graph.
func plainPositive(a [][]int64) []int64 {
	var best []int64
	simpleLists(len(a), func(list []int64) {
		weight, ok := plainCycle(a, list)
		if ok && weight > 0 && list[0] == slices.Min(list) && (best == nil || slices.Compare(list, best) < 0) {
			best = slices.Clone(list)
		}
	})
	return best
}

// plainPowers is the sum of the powers 1 to n of a matrix with n rows, of which no entry is
// checked. Its diagonal tells whether there is a positive cycle.
func plainPowers(a [][]int64) [][]int64 {
	power, sum := a, a
	for range len(a) - 1 {
		power, _ = plainProduct(power, a)
		sum = plainSum(sum, power)
	}
	return sum
}

func hasPositive(powers [][]int64) bool {
	for i := range powers {
		if powers[i][i] > 0 {
			return true
		}
	}
	return false
}

func allValues(a [][]int64) bool {
	for _, row := range a {
		for _, entry := range row {
			if entry != bottom && !isFiniteNumber(entry) {
				return false
			}
		}
	}
	return true
}

// graphs are matrices of all kinds: with and without positive cycles, with few and many arcs, and
// with sums that are no values.
func graphs(random *rand.Rand, n int) [][][]int64 {
	list := [][][]int64{edgeMatrix(random, n, n), slopes(random, n, 2*maxFinite), slopes(random, n, 4*maxFinite)}
	for _, limit := range []int64{0, 1, 3, 50, 250000, maxFinite} {
		a := slopes(random, n, limit)
		list = append(list, randomMatrix(random, n, n, limit), a)
		b := cloneRows(a)
		for range 2 * n * n / 3 {
			b[random.IntN(n)][random.IntN(n)] = bottom
		}
		// The last one has one more arc, which may close a positive cycle.
		list = append(list, b, with(a, random.IntN(n), random.IntN(n), limit))
	}
	return list
}

// slopes has differences of heights as the weights of its arcs, from many of which something is
// taken off, so that no cycle is positive and many have the weight 0.
func slopes(random *rand.Rand, n int, limit int64) [][]int64 {
	heights := make([]int64, n)
	for i := range heights {
		heights[i] = random.Int64N(limit + 1)
	}
	a := filled(n, n, bottom)
	for i := range a {
		for j := range a {
			weight := heights[i] - heights[j] - random.Int64N(2)*random.Int64N(limit/4+2)
			if isFiniteNumber(weight) && random.IntN(4) > 0 {
				a[i][j] = weight
			}
		}
	}
	return a
}

// manyGraphs are graphs of one kind with low to high nodes, made so many times for each number.
func manyGraphs(random *rand.Rand, low, high, times int, kind func(random *rand.Rand, n int) [][][]int64) iter.Seq[[][]int64] {
	return func(yield func([][]int64) bool) {
		for n := low; n <= high; n++ {
			for range times {
				for _, a := range kind(random, n) {
					if !yield(a) {
						return
					}
				}
			}
		}
	}
}

// checkVaried looks whether random arguments came to each of some codes often enough.
func checkVaried(t *testing.T, codes map[int64]int, least map[int64]int) {
	t.Helper()
	for code, count := range least {
		if codes[code] < count {
			t.Errorf("the arguments are too much alike: the code %d comes %d times, and the codes %v", code, codes[code], codes)
		}
	}
}

// checkEach makes a check of many graphs, and looks whether it comes to each of some codes often
// enough.
func checkEach(t *testing.T, many iter.Seq[[][]int64], check func(t *testing.T, a [][]int64) int64, least map[int64]int) {
	t.Helper()
	codes := map[int64]int{}
	for a := range many {
		codes[check(t, a)]++
	}
	checkVaried(t, codes, least)
}

func checkList(t *testing.T, what string, list []int64, code int64, want []int64, wantCode int64) {
	t.Helper()
	if code != wantCode || !slices.Equal(list, want) || code != impl.ErrNone && len(list) != 0 {
		t.Errorf("%s = %v, %d, want %v, %d", what, list, code, want, wantCode)
	}
}

func checkNumber(t *testing.T, what string, n, code, want, wantCode int64) {
	t.Helper()
	if n != want || code != wantCode {
		t.Errorf("%s = %d, %d, want %d, %d", what, n, code, want, wantCode)
	}
}

func TestP03Constants(t *testing.T) {
	if impl.MaxPath != maxPath {
		t.Errorf("MaxPath is %d", impl.MaxPath)
	}
}

func TestP03PathWeight(t *testing.T) {
	a := [][]int64{{bottom, -2, bottom}, {3, bottom, -5}, {1, 4, -1}}
	high := [][]int64{{maxFinite, bottom, -maxFinite}, {1, bottom, bottom}, {-maxFinite, 0, -maxFinite}}
	cases := []struct {
		a    [][]int64
		path []int64
		want int64
		code int64
	}{
		{a, []int64{0}, 0, impl.ErrNone},
		{a, []int64{1}, 0, impl.ErrNone},
		{a, []int64{2}, 0, impl.ErrNone},
		{a, []int64{0, 1}, 3, impl.ErrNone},
		{a, []int64{1, 0}, -2, impl.ErrNone},
		{a, []int64{2, 1}, -5, impl.ErrNone},
		{a, []int64{2, 2, 2}, -2, impl.ErrNone},
		{a, []int64{0, 1, 0, 1, 2}, 8, impl.ErrNone},
		{a, []int64{0, 0}, 0, impl.ErrNotFound},
		{a, []int64{2, 0}, 0, impl.ErrNotFound},
		{a, []int64{0, 1, 2, 0}, 0, impl.ErrNotFound},
		{a, []int64{2, 0, 1, 2}, 0, impl.ErrNotFound},
		{a, []int64{0, 1, 1, 2}, 0, impl.ErrNotFound},
		{a, nil, 0, impl.ErrRange},
		{a, []int64{}, 0, impl.ErrRange},
		{high, []int64{0, 0}, maxFinite, impl.ErrNone},
		{high, []int64{0, 0, 0}, 0, impl.ErrLimit},
		{high, []int64{0, 0, 1}, 0, impl.ErrLimit},
		{high, []int64{0, 2}, -maxFinite, impl.ErrNone},
		{high, []int64{2, 2, 2}, 0, impl.ErrLimit},
		{high, []int64{2, 2, 0, 1}, 0, impl.ErrLimit},
		// Beyond the limit on the way, but not at the end.
		{high, []int64{0, 0, 0, 2}, maxFinite, impl.ErrNone},
		{high, []int64{0, 0, 0, 2, 2}, 0, impl.ErrNone},
		{high, []int64{0, 2, 2, 0, 0, 0}, -maxFinite, impl.ErrNone},
		{high, []int64{0, 0, 0, 1, 1}, 0, impl.ErrNotFound},
		{[][]int64{{0}}, slices.Repeat([]int64{0}, maxPath), 0, impl.ErrNone},
		{[][]int64{{0}}, slices.Repeat([]int64{0}, maxPath+1), 0, impl.ErrRange},
		{[][]int64{{0}}, slices.Repeat([]int64{0}, 100000), 0, impl.ErrRange},
		{[][]int64{{bottom}}, slices.Repeat([]int64{0}, maxPath), 0, impl.ErrNotFound},
		{[][]int64{{bottom}}, slices.Repeat([]int64{0}, maxPath+1), 0, impl.ErrRange},
		{[][]int64{{bottom}}, []int64{0}, 0, impl.ErrNone},
		{[][]int64{{7}}, slices.Repeat([]int64{0}, maxPath), 7 * 99, impl.ErrNone},
		{[][]int64{{10101}}, slices.Repeat([]int64{0}, maxPath), 999999, impl.ErrNone},
		{[][]int64{{10102}}, slices.Repeat([]int64{0}, maxPath), 0, impl.ErrLimit},
		{[][]int64{{-10101}}, slices.Repeat([]int64{0}, maxPath), -999999, impl.ErrNone},
		{[][]int64{{-10102}}, slices.Repeat([]int64{0}, maxPath), 0, impl.ErrLimit},
		{[][]int64{{-maxFinite}}, slices.Repeat([]int64{0}, maxPath), 0, impl.ErrLimit},
		{ring(maxSize, 1), slices.Repeat([]int64{0, 1, 2, 3, 4, 5, 6, 7, 8, 9}, 10), 99, impl.ErrNone},
		{ring(maxSize, 1), []int64{9, 0, 1}, 2, impl.ErrNone},
		{ring(maxSize, 1), []int64{0, 9}, 0, impl.ErrNotFound},
	}
	for _, c := range cases {
		weight, code := impl.PathWeight(c.a, c.path)
		checkNumber(t, "PathWeight of "+impl.MatrixText(c.a), weight, code, c.want, c.code)
	}
}

// A node that is none is told before an arc that is missing, wherever they are.
func TestP03PathsWithWrongNodes(t *testing.T) {
	for n := 1; n <= maxSize; n++ {
		for _, a := range [][][]int64{filled(n, n, bottom), filled(n, n, maxFinite), unitOf(n)} {
			last := int64(n - 1)
			for _, bad := range notNodes(n) {
				if bad >= 0 && bad < int64(n) {
					continue
				}
				for _, path := range [][]int64{{bad}, {bad, 0}, {0, bad}, {0, last, bad}, {last, bad, 0}, {bad, bad}, append(slices.Repeat([]int64{0}, maxPath-1), bad), slices.Repeat([]int64{bad}, maxPath+1)} {
					weight, code := impl.PathWeight(a, path)
					checkNumber(t, "PathWeight with a wrong node", weight, code, 0, impl.ErrRange)
					if impl.IsCycle(a, path) {
						t.Errorf("IsCycle(%v) = true for %d nodes", path, n)
					}
					weight, code = impl.CycleWeight(a, path)
					checkNumber(t, "CycleWeight with a wrong node", weight, code, 0, impl.ErrNotFound)
				}
				for _, other := range append(notNodes(n), 0, last) {
					path, code := impl.HeaviestPath(a, bad, other)
					checkList(t, "HeaviestPath from no node", path, code, nil, impl.ErrRange)
					path, code = impl.HeaviestPath(a, other, bad)
					checkList(t, "HeaviestPath to no node", path, code, nil, impl.ErrRange)
				}
			}
		}
	}
}

// TestP03AllShortLists compares every list over few nodes, as a path and as a cycle.
func TestP03AllShortLists(t *testing.T) {
	random := newRandom(31)
	for n := 1; n <= 4; n++ {
		for _, a := range graphs(random, n) {
			for length := 1; length <= n+1; length++ {
				lists(n, length, func(list []int64) { checkWeights(t, a, list) })
			}
		}
	}
}

func checkWeights(t *testing.T, a [][]int64, list []int64) {
	t.Helper()
	want, wantCode := int64(0), int64(impl.ErrNotFound)
	if weight, ok := plainWeight(a, list); ok && isFiniteNumber(weight) {
		want, wantCode = weight, impl.ErrNone
	} else if ok {
		wantCode = impl.ErrLimit
	}
	weight, code := impl.PathWeight(a, list)
	checkNumber(t, "PathWeight", weight, code, want, wantCode)

	want, wantCode = 0, impl.ErrNotFound
	cycleWeight, ok := plainCycle(a, list)
	if ok && isFiniteNumber(cycleWeight) {
		want, wantCode = cycleWeight, impl.ErrNone
	} else if ok {
		wantCode = impl.ErrLimit
	}
	weight, code = impl.CycleWeight(a, list)
	checkNumber(t, "CycleWeight", weight, code, want, wantCode)
	if impl.IsCycle(a, list) != ok {
		t.Errorf("IsCycle(%v, %v) = %v", a, list, !ok)
	}
}

func TestP03Cycles(t *testing.T) {
	a := [][]int64{{bottom, -2, 6}, {3, bottom, bottom}, {bottom, 4, -1}}
	high := [][]int64{{bottom, 500000, bottom}, {500000, bottom, bottom}, {bottom, bottom, maxFinite}}
	low := [][]int64{{bottom, -500000}, {-500001, -maxFinite}}
	full := filled(maxSize, maxSize, 3)
	cases := []struct {
		a     [][]int64
		cycle []int64
		want  int64
		code  int64
	}{
		{a, []int64{0, 1}, 1, impl.ErrNone},
		{a, []int64{1, 0}, 1, impl.ErrNone}, // not written
		{a, []int64{2}, -1, impl.ErrNone},   // an arc from a node to itself
		{a, []int64{0, 1, 2}, 13, impl.ErrNone},
		{a, []int64{1, 2, 0}, 13, impl.ErrNone},
		{a, []int64{2, 0, 1}, 13, impl.ErrNone},
		{a, []int64{2, 1, 0}, 0, impl.ErrNotFound},
		{a, []int64{0}, 0, impl.ErrNotFound},
		{a, []int64{0, 1, 0, 1}, 0, impl.ErrNotFound},
		{a, []int64{0, 1, 2, 2}, 0, impl.ErrNotFound},
		{a, []int64{2, 2}, 0, impl.ErrNotFound},
		{a, []int64{0, 2}, 0, impl.ErrNotFound},
		{a, []int64{1, 2}, 0, impl.ErrNotFound}, // a path that does not come back
		{a, nil, 0, impl.ErrNotFound},
		{a, []int64{}, 0, impl.ErrNotFound},
		{high, []int64{0, 1}, maxFinite, impl.ErrNone},
		{high, []int64{2}, maxFinite, impl.ErrNone},
		{with(high, 0, 1, 500001), []int64{1, 0}, 0, impl.ErrLimit},
		{low, []int64{1}, -maxFinite, impl.ErrNone},
		{low, []int64{0, 1}, 0, impl.ErrLimit},
		{with(low, 1, 0, -500000), []int64{0, 1}, -maxFinite, impl.ErrNone},
		{ring(3, maxFinite), []int64{0, 1, 2}, 0, impl.ErrLimit},
		{ring(3, -maxFinite), []int64{0, 1, 2}, 0, impl.ErrLimit},
		{ring(maxSize, 100000), []int64{0, 1, 2, 3, 4, 5, 6, 7, 8, 9}, maxFinite, impl.ErrNone},
		{ring(maxSize, 100000), []int64{9, 0, 1, 2, 3, 4, 5, 6, 7, 8}, maxFinite, impl.ErrNone},
		{ring(maxSize, 100001), []int64{0, 1, 2, 3, 4, 5, 6, 7, 8, 9}, 0, impl.ErrLimit},
		{full, []int64{9, 8, 7, 6, 5, 4, 3, 2, 1, 0}, 30, impl.ErrNone},
		{full, []int64{9, 8, 7, 6, 5, 4, 3, 2, 1, 0, 9}, 0, impl.ErrNotFound},
		{full, slices.Repeat([]int64{4}, maxPath+1), 0, impl.ErrNotFound},
		{full, slices.Repeat([]int64{4}, 100000), 0, impl.ErrNotFound},
		{[][]int64{{0}}, []int64{0}, 0, impl.ErrNone},
		{[][]int64{{bottom}}, []int64{0}, 0, impl.ErrNotFound},
	}
	for _, c := range cases {
		weight, code := impl.CycleWeight(c.a, c.cycle)
		checkNumber(t, "CycleWeight of "+impl.MatrixText(c.a), weight, code, c.want, c.code)
		if is := impl.IsCycle(c.a, c.cycle); is != (c.code != impl.ErrNotFound) {
			t.Errorf("IsCycle(%v, %v) = %v", c.a, c.cycle, is)
		}
	}
}

func TestP03PositiveCycle(t *testing.T) {
	full := filled(maxSize, maxSize, 1)
	last := filled(maxSize, maxSize, -1)
	for i := range last {
		last[i][9], last[9][i] = -maxFinite, -maxFinite
	}
	last[9][8], last[8][9] = maxFinite, -maxFinite+1
	cases := []struct {
		a    [][]int64
		want []int64
	}{
		{[][]int64{{1}}, []int64{0}},
		{[][]int64{{0}}, nil},
		{[][]int64{{-1}}, nil},
		{[][]int64{{bottom}}, nil},
		{[][]int64{{maxFinite}}, []int64{0}},
		{filled(maxSize, maxSize, bottom), nil},
		{filled(maxSize, maxSize, 0), nil},
		{filled(maxSize, maxSize, -maxFinite), nil},
		{full, []int64{0}},
		{with(unitOf(maxSize), 9, 9, 1), []int64{9}},
		{with(filled(maxSize, maxSize, 0), 9, 9, 1), []int64{9}},
		{with(filled(maxSize, maxSize, 0), 0, 9, 1), []int64{0, 1, 2, 3, 4, 5, 6, 7, 8, 9}},
		{with(filled(maxSize, maxSize, 0), 8, 9, 1), []int64{0, 1, 2, 3, 4, 5, 6, 7, 9, 8}},
		{last, []int64{8, 9}},
		{ring(maxSize, 0), nil},
		{with(ring(maxSize, 0), 0, 9, 1), []int64{0, 1, 2, 3, 4, 5, 6, 7, 8, 9}},
		{with(ring(maxSize, 0), 0, 9, -1), nil},
		{ring(maxSize, maxFinite), []int64{0, 1, 2, 3, 4, 5, 6, 7, 8, 9}}, // its weight is no value
		// Several positive cycles: the smallest list, not the one that is shortest or heaviest.
		{[][]int64{{bottom, 1, 0}, {0, 9, 9}, {9, 9, 9}}, []int64{0, 1}},
		{[][]int64{{0, -5, 0}, {3, 9, 9}, {9, 9, 9}}, []int64{0, 1, 2}},
		{[][]int64{{bottom, bottom, 1}, {0, bottom, bottom}, {0, 0, 5}}, []int64{0, 1, 2}},
		{[][]int64{{bottom, bottom, 1}, {bottom, 8, bottom}, {0, 0, 5}}, []int64{0, 2}},
		{[][]int64{{0, 0, 0}, {0, 0, 1}, {0, -1, 1}}, []int64{0, 2, 1}},
		// A cycle that is a beginning of another one comes before it.
		{[][]int64{{bottom, 1, 1}, {1, bottom, 1}, {1, 1, bottom}}, []int64{0, 1}},
		// A positive cycle that passes its least node in the middle of a heavier walk.
		{[][]int64{{-1, -1, bottom}, {2, bottom, 3}, {bottom, -2, bottom}}, []int64{0, 1}},
	}
	for _, c := range cases {
		want := int64(impl.ErrNone)
		if c.want == nil {
			want = impl.ErrNotFound
		}
		cycle, code := impl.PositiveCycle(c.a)
		checkList(t, "PositiveCycle of "+impl.MatrixText(c.a), cycle, code, c.want, want)
	}
}

func TestP03PositiveCycleIsTheSmallest(t *testing.T) {
	random := newRandom(32)
	for a := range manyGraphs(random, 1, 6, 60, graphs) {
		want, wantCode := plainPositive(a), int64(impl.ErrNone)
		if want == nil {
			wantCode = impl.ErrNotFound
		}
		cycle, code := impl.PositiveCycle(a)
		checkList(t, "PositiveCycle of "+impl.MatrixText(a), cycle, code, want, wantCode)
	}
}

func TestP03Stars(t *testing.T) {
	low := [][]int64{{bottom, -maxFinite}, {-maxFinite, bottom}}
	chain := filled(maxSize, maxSize, bottom)
	for i := 1; i < maxSize; i++ {
		chain[i][i-1] = 100000
	}
	reach := filled(maxSize, maxSize, bottom)
	for i := range reach {
		for j := range i {
			reach[i][j] = int64(i-j) * 100000
		}
	}
	cases := []struct {
		a          [][]int64
		star, plus [][]int64
		starCode   int64
		plusCode   int64
	}{
		{[][]int64{{-1, -4, bottom}, {3, bottom, bottom}, {1, 2, 0}}, [][]int64{{0, -4, bottom}, {3, 0, bottom}, {5, 2, 0}}, [][]int64{{-1, -4, bottom}, {3, -1, bottom}, {5, 2, 0}}, impl.ErrNone, impl.ErrNone},
		{[][]int64{{0}}, [][]int64{{0}}, [][]int64{{0}}, impl.ErrNone, impl.ErrNone},
		{[][]int64{{-7}}, [][]int64{{0}}, [][]int64{{-7}}, impl.ErrNone, impl.ErrNone},
		{[][]int64{{bottom}}, [][]int64{{0}}, [][]int64{{bottom}}, impl.ErrNone, impl.ErrNone},
		{[][]int64{{1}}, nil, nil, impl.ErrState, impl.ErrState},
		{[][]int64{{maxFinite}}, nil, nil, impl.ErrState, impl.ErrState},
		{[][]int64{{-maxFinite}}, [][]int64{{0}}, [][]int64{{-maxFinite}}, impl.ErrNone, impl.ErrNone},
		{filled(maxSize, maxSize, bottom), unitOf(maxSize), filled(maxSize, maxSize, bottom), impl.ErrNone, impl.ErrNone},
		{unitOf(maxSize), unitOf(maxSize), unitOf(maxSize), impl.ErrNone, impl.ErrNone},
		{filled(maxSize, maxSize, 0), filled(maxSize, maxSize, 0), filled(maxSize, maxSize, 0), impl.ErrNone, impl.ErrNone},
		{filled(maxSize, maxSize, 1), nil, nil, impl.ErrState, impl.ErrState},
		{ring(maxSize, 0), filled(maxSize, maxSize, 0), filled(maxSize, maxSize, 0), impl.ErrNone, impl.ErrNone},
		{with(ring(maxSize, 0), 0, 9, 1), nil, nil, impl.ErrState, impl.ErrState},
		// Cycles whose weight is no value do the star no harm, as it has 0 there.
		{low, [][]int64{{0, -maxFinite}, {-maxFinite, 0}}, nil, impl.ErrNone, impl.ErrLimit},
		{[][]int64{{bottom, -500000}, {-500000, bottom}}, [][]int64{{0, -500000}, {-500000, 0}}, [][]int64{{-maxFinite, -500000}, {-500000, -maxFinite}}, impl.ErrNone, impl.ErrNone},
		{[][]int64{{bottom, -500000}, {-500001, bottom}}, [][]int64{{0, -500000}, {-500001, 0}}, nil, impl.ErrNone, impl.ErrLimit},
		// Nor does a path below -MaxFinite beside a heavier one.
		{[][]int64{{bottom, bottom, bottom}, {-maxFinite, bottom, bottom}, {-3, -maxFinite, bottom}}, [][]int64{{0, bottom, bottom}, {-maxFinite, 0, bottom}, {-3, -maxFinite, 0}}, [][]int64{{bottom, bottom, bottom}, {-maxFinite, bottom, bottom}, {-3, -maxFinite, bottom}}, impl.ErrNone, impl.ErrNone},
		{[][]int64{{bottom, bottom, bottom}, {-maxFinite, bottom, bottom}, {bottom, -1, bottom}}, nil, nil, impl.ErrLimit, impl.ErrLimit},
		{[][]int64{{bottom, bottom, bottom}, {maxFinite, bottom, bottom}, {bottom, 1, bottom}}, nil, nil, impl.ErrLimit, impl.ErrLimit},
		{[][]int64{{bottom, bottom, bottom}, {500000, bottom, bottom}, {bottom, 500000, bottom}}, [][]int64{{0, bottom, bottom}, {500000, 0, bottom}, {maxFinite, 500000, 0}}, [][]int64{{bottom, bottom, bottom}, {500000, bottom, bottom}, {maxFinite, 500000, bottom}}, impl.ErrNone, impl.ErrNone},
		{chain, plainSum(reach, unitOf(maxSize)), reach, impl.ErrNone, impl.ErrNone},
		{with(chain, 1, 0, 200001), nil, nil, impl.ErrLimit, impl.ErrLimit},
		// A positive cycle is told before a number that is no value.
		{[][]int64{{1, bottom, bottom}, {maxFinite, bottom, bottom}, {bottom, maxFinite, bottom}}, nil, nil, impl.ErrState, impl.ErrState},
		{[][]int64{{bottom, bottom, bottom}, {maxFinite, bottom, bottom}, {bottom, maxFinite, 1}}, nil, nil, impl.ErrState, impl.ErrState},
		{ring(maxSize, maxFinite), nil, nil, impl.ErrState, impl.ErrState},
		{filled(maxSize, maxSize, maxFinite), nil, nil, impl.ErrState, impl.ErrState},
		{filled(maxSize, maxSize, -maxFinite), plainSum(filled(maxSize, maxSize, -maxFinite), unitOf(maxSize)), filled(maxSize, maxSize, -maxFinite), impl.ErrNone, impl.ErrNone},
	}
	for _, c := range cases {
		star, code := impl.StarMatrix(c.a)
		checkMatrix(t, "StarMatrix of "+impl.MatrixText(c.a), star, code, c.star, c.starCode)
		plus, code := impl.PlusMatrix(c.a)
		checkMatrix(t, "PlusMatrix of "+impl.MatrixText(c.a), plus, code, c.plus, c.plusCode)
	}
}

// wantClosure is what a function returns whose result is a closure of a graph.
func wantClosure(powers, closure [][]int64) ([][]int64, int64) {
	if hasPositive(powers) {
		return nil, impl.ErrState
	}
	if !allValues(closure) {
		return nil, impl.ErrLimit
	}
	return closure, impl.ErrNone
}

func TestP03ClosuresAreSumsOfPowers(t *testing.T) {
	random := newRandom(33)
	codes := map[int64]int{}
	for a := range manyGraphs(random, 1, maxSize, 40, graphs) {
		powers := plainPowers(a)
		want, wantCode := wantClosure(powers, powers)
		plus, code := impl.PlusMatrix(a)
		checkMatrix(t, "PlusMatrix of "+impl.MatrixText(a), plus, code, want, wantCode)
		want, wantCode = wantClosure(powers, plainSum(powers, unitOf(len(a))))
		star, code := impl.StarMatrix(a)
		checkMatrix(t, "StarMatrix of "+impl.MatrixText(a), star, code, want, wantCode)
		codes[code]++
	}
	checkVaried(t, codes, map[int64]int{impl.ErrNone: 500, impl.ErrState: 500, impl.ErrLimit: 50})
}

// TestP03Guarantee is the promise: either a star that is closed, or a positive cycle, is told.
func TestP03Guarantee(t *testing.T) {
	random := newRandom(34)
	for a := range manyGraphs(random, 1, maxSize, 40, graphs) {
		checkStarOrCycle(t, a)
	}
}

func checkStarOrCycle(t *testing.T, a [][]int64) {
	t.Helper()
	star, starCode := impl.StarMatrix(a)
	cycle, cycleCode := impl.PositiveCycle(a)
	if (starCode == impl.ErrState) != (cycleCode == impl.ErrNone) || starCode != impl.ErrState && cycleCode != impl.ErrNotFound {
		t.Fatalf("%s: StarMatrix tells %d, PositiveCycle %d", impl.MatrixText(a), starCode, cycleCode)
	}
	if weight, ok := plainCycle(a, cycle); cycleCode == impl.ErrNone && (!ok || weight <= 0 || cycle[0] != slices.Min(cycle)) {
		t.Errorf("PositiveCycle of %s = %v", impl.MatrixText(a), cycle)
	}
	if starCode != impl.ErrNone {
		return
	}
	for _, pair := range [][2][][]int64{{star, a}, {a, star}} {
		product, _ := plainProduct(pair[0], pair[1])
		if !equalRows(plainSum(product, unitOf(len(a))), star) {
			t.Errorf("the star %v of %v is not closed", star, a)
		}
	}
}

func TestP03HeaviestPath(t *testing.T) {
	a := [][]int64{{-1, -4, bottom}, {3, bottom, bottom}, {1, 2, 0}}
	// From 0 to 3 there are 0 1 3, 0 2 3 and 0 1 2 3, all with the weight 4, and 0 3 with less.
	ties := [][]int64{{bottom, bottom, bottom, bottom}, {2, bottom, bottom, bottom}, {2, 0, bottom, bottom}, {3, 2, 2, bottom}}
	chain := filled(maxSize, maxSize, bottom)
	for i := 1; i < maxSize; i++ {
		chain[i-1][i] = maxFinite
	}
	cases := []struct {
		a        [][]int64
		from, to int64
		want     []int64
		code     int64
	}{
		{a, 0, 2, []int64{0, 1, 2}, impl.ErrNone},
		{a, 0, 1, []int64{0, 1}, impl.ErrNone},
		{a, 1, 0, []int64{1, 0}, impl.ErrNone},
		{a, 1, 2, []int64{1, 2}, impl.ErrNone},
		{a, 0, 0, []int64{0}, impl.ErrNone},
		{a, 1, 1, []int64{1}, impl.ErrNone},
		{a, 2, 2, []int64{2}, impl.ErrNone},
		{a, 2, 0, nil, impl.ErrNotFound},
		{a, 2, 1, nil, impl.ErrNotFound},
		{ties, 0, 3, []int64{0, 1, 3}, impl.ErrNone},
		{with(ties, 3, 0, 4), 0, 3, []int64{0, 3}, impl.ErrNone},
		{with(ties, 3, 1, 1), 0, 3, []int64{0, 2, 3}, impl.ErrNone},
		{with(ties, 2, 1, 1), 0, 3, []int64{0, 1, 2, 3}, impl.ErrNone},
		{ties, 3, 0, nil, impl.ErrNotFound},
		{[][]int64{{0}}, 0, 0, []int64{0}, impl.ErrNone},
		{[][]int64{{bottom}}, 0, 0, []int64{0}, impl.ErrNone},
		{[][]int64{{-maxFinite}}, 0, 0, []int64{0}, impl.ErrNone},
		{[][]int64{{1}}, 0, 0, nil, impl.ErrState},
		{filled(maxSize, maxSize, 0), 9, 0, []int64{9, 0}, impl.ErrNone},
		{filled(maxSize, maxSize, 0), 9, 9, []int64{9}, impl.ErrNone},
		{filled(maxSize, maxSize, -maxFinite), 4, 7, []int64{4, 7}, impl.ErrNone},
		{ring(maxSize, 0), 3, 2, []int64{3, 4, 5, 6, 7, 8, 9, 0, 1, 2}, impl.ErrNone},
		{ring(maxSize, 0), 2, 3, []int64{2, 3}, impl.ErrNone},
		// The weight of a path is not in the result, so that it need not be a value.
		{chain, 9, 0, []int64{9, 8, 7, 6, 5, 4, 3, 2, 1, 0}, impl.ErrNone},
		{ring(3, -maxFinite), 1, 0, []int64{1, 2, 0}, impl.ErrNone},
		// A positive cycle counts anywhere, and before a path that is missing.
		{[][]int64{{bottom, bottom, bottom}, {0, bottom, bottom}, {bottom, bottom, 1}}, 0, 1, nil, impl.ErrState},
		{[][]int64{{bottom, bottom, bottom}, {0, bottom, bottom}, {bottom, bottom, 1}}, 1, 0, nil, impl.ErrState},
		{[][]int64{{bottom, bottom, bottom}, {0, bottom, bottom}, {bottom, bottom, 1}}, 0, 0, nil, impl.ErrState},
		{[][]int64{{bottom, bottom, bottom}, {0, bottom, bottom}, {bottom, bottom, 0}}, 1, 0, nil, impl.ErrNotFound},
		{[][]int64{{bottom, bottom, bottom}, {0, bottom, bottom}, {bottom, bottom, 1}}, 0, 3, nil, impl.ErrRange},
		{[][]int64{{bottom, bottom, bottom}, {0, bottom, bottom}, {bottom, bottom, 1}}, -1, 0, nil, impl.ErrRange},
	}
	for _, c := range cases {
		path, code := impl.HeaviestPath(c.a, c.from, c.to)
		checkList(t, "HeaviestPath of "+impl.MatrixText(c.a), path, code, c.want, c.code)
	}
}

// plainHeaviest compares all paths without repeated nodes, of which there are enough where no
// cycle is positive.
func plainHeaviest(a [][]int64, from, to int64) []int64 {
	var best []int64
	var greatest int64
	simpleLists(len(a), func(list []int64) {
		if list[0] != from || list[len(list)-1] != to {
			return
		}
		weight, ok := plainWeight(a, list)
		if !ok {
			return
		}
		shorter := len(list) < len(best) || len(list) == len(best) && slices.Compare(list, best) < 0
		if best == nil || weight > greatest || weight == greatest && shorter {
			best, greatest = slices.Clone(list), weight
		}
	})
	return best
}

func TestP03HeaviestPathsAreTheSmallest(t *testing.T) {
	random := newRandom(35)
	for a := range manyGraphs(random, 1, 6, 10, graphs) {
		from, to := random.Int64N(int64(len(a))), random.Int64N(int64(len(a)))
		want, wantCode := plainHeaviest(a, from, to), int64(impl.ErrNone)
		if want == nil {
			wantCode = impl.ErrNotFound
		}
		if hasPositive(plainPowers(a)) {
			want, wantCode = nil, impl.ErrState
		}
		path, code := impl.HeaviestPath(a, from, to)
		checkList(t, "HeaviestPath of "+impl.MatrixText(a), path, code, want, wantCode)
	}
}

// With few different weights, many paths of 10 nodes have the same weight. They are compared by
// the numbers of nodes and then node by node, without going through them.
func TestP03HeaviestPathsOfGreatGraphs(t *testing.T) {
	random := newRandom(36)
	for range 100 {
		a := slopes(random, maxSize, 2)
		powers := plainPowers(a)
		if hasPositive(powers) {
			t.Fatal("the graph has a positive cycle")
		}
		for from := range int64(maxSize) {
			for to := range int64(maxSize) {
				checkHeaviest(t, a, from, to, plainSum(powers, unitOf(maxSize)))
			}
		}
	}
}

// checkHeaviest follows the path that is told: no smaller node and no shorter rest reaches the
// greatest weight.
func checkHeaviest(t *testing.T, a [][]int64, from, to int64, star [][]int64) {
	t.Helper()
	path, code := impl.HeaviestPath(a, from, to)
	if star[to][from] == bottom {
		checkList(t, "HeaviestPath without a path", path, code, nil, impl.ErrNotFound)
		return
	}
	weight, ok := plainWeight(a, path)
	if code != impl.ErrNone || !ok || weight != star[to][from] || path[0] != from || path[len(path)-1] != to {
		t.Fatalf("HeaviestPath(%v, %d, %d) = %v, %d", a, from, to, path, code)
	}
	exact := unitOf(len(a))
	rest := [][][]int64{exact}
	for range len(path) - 1 {
		if exact[to][from] == weight {
			t.Errorf("HeaviestPath(%v, %d, %d) = %v has too many nodes", a, from, to, path)
		}
		exact, _ = plainProduct(exact, a)
		rest = append(rest, exact)
	}
	for k := 1; k < len(path); k++ {
		for node := range path[k] {
			others := rest[len(path)-1-k][to][node]
			done, ok := plainWeight(a, append(slices.Clone(path[:k]), node))
			if ok && others != bottom && done+others == weight {
				t.Errorf("HeaviestPath(%v, %d, %d) = %v is not the smallest one", a, from, to, path)
			}
		}
	}
}

func TestP03FixedPoint(t *testing.T) {
	a := [][]int64{{-1, -4, bottom}, {3, bottom, bottom}, {1, 2, 0}}
	up := [][]int64{{bottom, bottom, bottom}, {maxFinite, bottom, bottom}, {bottom, maxFinite, bottom}}
	down := [][]int64{{bottom, bottom}, {-1, bottom}}
	positive := [][]int64{{bottom, bottom}, {0, 1}}
	cases := []struct {
		a    [][]int64
		b    []int64
		want []int64
		code int64
	}{
		{a, []int64{1, bottom, 4}, []int64{1, 4, 6}, impl.ErrNone},
		{a, []int64{0, 0, 0}, []int64{0, 3, 5}, impl.ErrNone},
		{a, []int64{bottom, bottom, bottom}, []int64{bottom, bottom, bottom}, impl.ErrNone},
		{a, []int64{bottom, 9, bottom}, []int64{5, 9, 11}, impl.ErrNone},
		{a, []int64{bottom, bottom, maxFinite}, []int64{bottom, bottom, maxFinite}, impl.ErrNone},
		{a, []int64{1}, nil, impl.ErrState},
		{a, []int64{1, 2}, nil, impl.ErrState},
		{a, []int64{1, 2, 3, 4}, nil, impl.ErrState},
		{a, slices.Repeat([]int64{0}, maxSize), nil, impl.ErrState},
		{a, slices.Repeat([]int64{0}, maxSize+1), nil, impl.ErrInvalid},
		{a, nil, nil, impl.ErrInvalid},
		{a, []int64{maxFinite - 5, 0, 0}, []int64{maxFinite - 5, maxFinite - 2, maxFinite}, impl.ErrNone},
		{a, []int64{maxFinite - 4, 0, 0}, nil, impl.ErrLimit},
		{[][]int64{{0}}, []int64{-maxFinite}, []int64{-maxFinite}, impl.ErrNone},
		{[][]int64{{-maxFinite}}, []int64{-maxFinite}, []int64{-maxFinite}, impl.ErrNone},
		{[][]int64{{bottom}}, []int64{7}, []int64{7}, impl.ErrNone},
		{[][]int64{{1}}, []int64{7}, nil, impl.ErrState},
		{[][]int64{{1}}, []int64{bottom}, nil, impl.ErrState},
		{down, []int64{-maxFinite, bottom}, nil, impl.ErrLimit},
		{down, []int64{-maxFinite, -maxFinite}, []int64{-maxFinite, -maxFinite}, impl.ErrNone},
		// The star has an entry that is no value, but x has not.
		{up, []int64{-maxFinite, bottom, bottom}, []int64{-maxFinite, 0, maxFinite}, impl.ErrNone},
		{up, []int64{bottom, 0, 3}, []int64{bottom, 0, maxFinite}, impl.ErrNone},
		{up, []int64{-maxFinite + 1, bottom, bottom}, nil, impl.ErrLimit},
		{up, []int64{0, bottom, bottom}, nil, impl.ErrLimit},
		{positive, []int64{maxFinite, 0}, nil, impl.ErrState},
		{positive, []int64{bottom, bottom}, nil, impl.ErrState},
		{positive, []int64{0}, nil, impl.ErrState},
		{filled(maxSize, maxSize, 0), []int64{bottom, bottom, 5, bottom, 8, 8, 3, bottom, 0, -1}, slices.Repeat([]int64{8}, maxSize), impl.ErrNone},
		{unitOf(maxSize), slices.Repeat([]int64{bottom}, maxSize), slices.Repeat([]int64{bottom}, maxSize), impl.ErrNone},
	}
	for _, c := range cases {
		x, code := impl.FixedPoint(c.a, c.b)
		checkList(t, "FixedPoint of "+impl.MatrixText(c.a), x, code, c.want, c.code)
	}
}

// plainTimes is the product of a matrix and a vector.
func plainTimes(a [][]int64, x []int64) []int64 {
	column := filled(len(x), 1, 0)
	for i := range x {
		column[i][0] = x[i]
	}
	product, _ := plainProduct(a, column)
	y := make([]int64, len(a))
	for i := range y {
		y[i] = product[i][0]
	}
	return y
}

func plainMax(x, y []int64) []int64 { return plainSum([][]int64{x}, [][]int64{y})[0] }

// The least fixed point is reached from b by putting in what is known so far, again and again.
func TestP03FixedPointIsTheLeast(t *testing.T) {
	random := newRandom(37)
	for a := range manyGraphs(random, 1, maxSize, 10, graphs) {
		for _, b := range [][]int64{randomMatrix(random, 1, len(a), 20)[0], edgeMatrix(random, 1, len(a))[0], randomMatrix(random, 1, len(a), maxFinite)[0]} {
			checkFixedPoint(t, a, b)
		}
	}
}

func checkFixedPoint(t *testing.T, a [][]int64, b []int64) {
	t.Helper()
	want, wantCode := b, int64(impl.ErrNone)
	for range len(a) {
		want = plainMax(b, plainTimes(a, want))
	}
	if hasPositive(plainPowers(a)) {
		want, wantCode = nil, impl.ErrState
	} else if !allValues([][]int64{want}) {
		want, wantCode = nil, impl.ErrLimit
	}
	x, code := impl.FixedPoint(a, b)
	checkList(t, "FixedPoint of "+impl.MatrixText(a), x, code, want, wantCode)
	if code == impl.ErrNone && !slices.Equal(x, plainMax(b, plainTimes(a, x))) {
		t.Errorf("FixedPoint(%v, %v) = %v is no fixed point", a, b, x)
	}
}

// TestP03Fits tries vectors of all lengths with graphs of all sizes.
func TestP03Fits(t *testing.T) {
	for n := 1; n <= maxSize; n++ {
		for m := 1; m <= maxSize; m++ {
			want := slices.Repeat([]int64{4}, n)
			wantCode := int64(impl.ErrNone)
			if m != n {
				want, wantCode = nil, impl.ErrState
			}
			x, code := impl.FixedPoint(unitOf(n), slices.Repeat([]int64{4}, m))
			checkList(t, "FixedPoint of the unit", x, code, want, wantCode)
		}
	}
}

// TestP03InvalidGraphs gives arguments that are no graphs together with all that is checked after
// them.
func TestP03InvalidGraphs(t *testing.T) {
	for _, bad := range notSquares() {
		for _, list := range [][]int64{nil, {0}, {1, 0}, {-1}, {0, 99}, {math.MinInt64}, slices.Repeat([]int64{0}, maxPath+1), slices.Repeat([]int64{0}, 10000)} {
			weight, code := impl.PathWeight(bad, list)
			checkNumber(t, "PathWeight of no graph", weight, code, 0, impl.ErrInvalid)
			weight, code = impl.CycleWeight(bad, list)
			checkNumber(t, "CycleWeight of no graph", weight, code, 0, impl.ErrInvalid)
			if impl.IsCycle(bad, list) {
				t.Errorf("IsCycle(%.100v, %.100v) = true", bad, list)
			}
		}
		cycle, code := impl.PositiveCycle(bad)
		checkList(t, "PositiveCycle of no graph", cycle, code, nil, impl.ErrInvalid)
		a, code := impl.StarMatrix(bad)
		checkMatrix(t, "StarMatrix of no graph", a, code, nil, impl.ErrInvalid)
		a, code = impl.PlusMatrix(bad)
		checkMatrix(t, "PlusMatrix of no graph", a, code, nil, impl.ErrInvalid)
		for _, from := range []int64{0, 1, -1, maxSize, math.MinInt64, math.MaxInt64} {
			for _, to := range []int64{0, 1, -1, maxSize, math.MinInt64, math.MaxInt64} {
				path, code := impl.HeaviestPath(bad, from, to)
				checkList(t, "HeaviestPath of no graph", path, code, nil, impl.ErrInvalid)
			}
		}
		for _, b := range append(notVectors(), []int64{0}, []int64{0, 0}) {
			x, code := impl.FixedPoint(bad, b)
			checkList(t, "FixedPoint of no graph", x, code, nil, impl.ErrInvalid)
		}
	}
	for _, b := range notVectors() {
		for _, a := range [][][]int64{{{0}}, {{1}}, unitOf(2), filled(3, 3, maxFinite), filled(maxSize, maxSize, bottom)} {
			x, code := impl.FixedPoint(a, b)
			checkList(t, "FixedPoint of no vector", x, code, nil, impl.ErrInvalid)
		}
	}
}

func TestP03ResultsShareNoMemory(t *testing.T) {
	before := [][]int64{{-1, -4, bottom}, {3, bottom, bottom}, {1, 2, 0}}
	positive := [][]int64{{bottom, bottom, -1}, {2, bottom, bottom}, {bottom, 3, bottom}}
	b := []int64{5, bottom, 7}
	calls := map[string]func(a [][]int64) ([][]int64, int64){
		"StarMatrix": impl.StarMatrix,
		"PlusMatrix": impl.PlusMatrix,
		"FixedPoint": func(a [][]int64) ([][]int64, int64) {
			x, code := impl.FixedPoint(a, a[0])
			return [][]int64{x}, code
		},
		"HeaviestPath": func(a [][]int64) ([][]int64, int64) {
			path, code := impl.HeaviestPath(a, 0, 2)
			return [][]int64{path}, code
		},
		"PathWeight": func(a [][]int64) ([][]int64, int64) {
			weight, code := impl.PathWeight(a, []int64{0, 1, 2, 2})
			return [][]int64{{weight}}, code
		},
		"CycleWeight": func(a [][]int64) ([][]int64, int64) {
			weight, code := impl.CycleWeight(a, []int64{1, 0})
			return [][]int64{{weight}}, code
		},
		"IsCycle": func(a [][]int64) ([][]int64, int64) {
			impl.IsCycle(a, []int64{1, 0})
			return [][]int64{{1}}, impl.ErrNone
		},
	}
	checkCalls(t, calls, before)
	checkCalls(t, map[string]func(a [][]int64) ([][]int64, int64){
		"PositiveCycle": func(a [][]int64) ([][]int64, int64) {
			cycle, code := impl.PositiveCycle(a)
			return [][]int64{cycle}, code
		},
	}, positive)
	checkCalls(t, map[string]func(b [][]int64) ([][]int64, int64){
		"FixedPoint of a unit": func(b [][]int64) ([][]int64, int64) {
			x, code := impl.FixedPoint(unitOf(3), b[0])
			return [][]int64{x}, code
		},
		"PathWeight of a list": func(b [][]int64) ([][]int64, int64) {
			weight, code := impl.PathWeight(filled(8, 8, 0), b[0][:1])
			return [][]int64{{weight}}, code
		},
		"CycleWeight of a list": func(b [][]int64) ([][]int64, int64) {
			weight, code := impl.CycleWeight(filled(8, 8, 0), b[0][2:])
			return [][]int64{{weight}}, code
		},
	}, [][]int64{b})
}
