package tests

import (
	"math"
	"math/big"
	"math/rand/v2"
	"slices"
	"testing"

	"loop.example/g00941/impl"
)

// criticalParts is what the chapter tells of a matrix with a cycle. There is one period for each
// component.
type criticalParts struct {
	arcs       [][]int64
	components [][]int64
	periods    []int64
}

func divisorOf(a, b int64) int64 {
	return new(big.Int).GCD(nil, nil, big.NewInt(a), big.NewInt(b)).Int64()
}

// checkParts compares all that follows from the critical arcs.
func checkParts(t *testing.T, a [][]int64, want criticalParts) {
	t.Helper()
	what := " of " + impl.MatrixText(a)
	arcs, code := impl.CriticalArcs(a)
	checkMatrix(t, "CriticalArcs"+what, arcs, code, want.arcs, impl.ErrNone)
	nodes, code := impl.CriticalNodes(a)
	checkList(t, "CriticalNodes"+what, nodes, code, slices.Sorted(slices.Values(slices.Concat(want.components...))), impl.ErrNone)
	components, code := impl.CriticalComponents(a)
	checkMatrix(t, "CriticalComponents"+what, components, code, want.components, impl.ErrNone)
	only := filled(len(a), len(a), bottom)
	for _, arc := range want.arcs {
		only[arc[1]][arc[0]] = a[arc[1]][arc[0]]
	}
	part, code := impl.CriticalMatrix(a)
	checkMatrix(t, "CriticalMatrix"+what, part, code, only, impl.ErrNone)
	cyclicity := int64(1)
	for _, period := range want.periods {
		cyclicity *= period / divisorOf(cyclicity, period)
	}
	n, code := impl.Cyclicity(a)
	checkNumber(t, "Cyclicity"+what, n, code, cyclicity, impl.ErrNone)
	checkPeriods(t, a, want)
}

func checkPeriods(t *testing.T, a [][]int64, want criticalParts) {
	t.Helper()
	what := "PeriodAt of " + impl.MatrixText(a)
	for node := range int64(len(a)) {
		period, periodCode := int64(0), int64(impl.ErrState)
		for k, component := range want.components {
			if slices.Contains(component, node) {
				period, periodCode = want.periods[k], impl.ErrNone
			}
		}
		n, code := impl.PeriodAt(a, node)
		checkNumber(t, what, n, code, period, periodCode)
	}
	for _, bad := range notNodes(len(a)) {
		if bad < 0 || bad >= int64(len(a)) {
			n, code := impl.PeriodAt(a, bad)
			checkNumber(t, what, n, code, 0, impl.ErrRange)
		}
	}
}

// circles has the arcs around some lists of nodes, all with the same weight.
func circles(n int, weight int64, cycles ...[]int64) [][]int64 {
	a := filled(n, n, bottom)
	for _, cycle := range cycles {
		for k, node := range cycle {
			a[cycle[(k+1)%len(cycle)]][node] = weight
		}
	}
	return a
}

// between has a where it has an arc, and the given weight everywhere else.
func between(a [][]int64, weight int64) [][]int64 {
	b := cloneRows(a)
	for _, row := range b {
		for j := range row {
			if row[j] == bottom {
				row[j] = weight
			}
		}
	}
	return b
}

func TestP06CriticalGraphs(t *testing.T) {
	loop := criticalParts{[][]int64{{0, 0}}, [][]int64{{0}}, []int64{1}}
	pair := criticalParts{[][]int64{{0, 1}, {1, 0}}, [][]int64{{0, 1}}, []int64{2}}
	chain := criticalParts{[][]int64{{0, 1}, {1, 0}, {1, 2}, {2, 1}}, [][]int64{{0, 1, 2}}, []int64{2}}
	line := [][]int64{{1, 2, bottom}, {3, bottom, 7}, {bottom, -2, 2}}
	odd := with(ring(2, maxFinite), 0, 1, maxFinite-1)
	cases := []struct {
		a    [][]int64
		want criticalParts
	}{
		{[][]int64{{7}}, loop},
		{[][]int64{{0}}, loop},
		{[][]int64{{-maxFinite}}, loop},
		{[][]int64{{maxFinite}}, loop},
		{[][]int64{{3, 0}, {0, bottom}}, loop}, // 1 is in the component of 0, but not critical
		{[][]int64{{3, bottom}, {9, 2}}, loop}, // 1 is on a cycle of a smaller mean
		{[][]int64{{3, 9}, {-3, 2}}, criticalParts{[][]int64{{0, 0}, {0, 1}, {1, 0}}, [][]int64{{0, 1}}, []int64{1}}},
		{[][]int64{{3, 9}, {-4, 2}}, loop},
		{[][]int64{{3, 9}, {-2, 2}}, pair},
		{with(filled(maxSize, maxSize, -2), 0, 0, -1), loop},
		{[][]int64{{bottom, 5}, {-5, bottom}}, pair},
		{[][]int64{{0, 5}, {-5, bottom}}, criticalParts{[][]int64{{0, 0}, {0, 1}, {1, 0}}, [][]int64{{0, 1}}, []int64{1}}},
		{[][]int64{{-1, 5}, {-5, -1}}, pair}, // loops of a smaller mean at critical nodes
		{[][]int64{{bottom, maxFinite}, {-maxFinite, bottom}}, pair},
		{[][]int64{{maxFinite, -maxFinite}, {-maxFinite, -maxFinite}}, loop},
		{[][]int64{{bottom, 2, bottom}, {3, bottom, bottom}, {bottom, bottom, 2}}, pair},
		{[][]int64{{bottom, -3, bottom}, {-4, bottom, bottom}, {bottom, 9, bottom}}, pair},
		// The mean is no valid ratio, but it is no part of a result.
		{odd, pair},
		{with(odd, 0, 0, maxFinite-1), pair},
		{with(odd, 0, 0, maxFinite), loop},
		{with(ring(2, -maxFinite), 0, 1, -maxFinite+1), pair},
		// Two critical cycles that share a node, of which loops with smaller means are left out.
		{line, chain},
		{with(line, 0, 1, 1), criticalParts{[][]int64{{1, 2}, {2, 1}}, [][]int64{{1, 2}}, []int64{2}}},
		{with(line, 1, 2, 6), pair},
		{with(line, 0, 2, -9), chain},
		{circles(4, -1, []int64{0, 1}, []int64{1, 2, 3}), criticalParts{[][]int64{{0, 1}, {1, 0}, {1, 2}, {2, 3}, {3, 1}}, [][]int64{{0, 1, 2, 3}}, []int64{1}}},
		// The period is less than the number of nodes of each cycle.
		{circles(9, 1, []int64{0, 1, 2, 3}, []int64{0, 4, 5, 6, 7, 8}), criticalParts{[][]int64{{0, 1}, {0, 4}, {1, 2}, {2, 3}, {3, 0}, {4, 5}, {5, 6}, {6, 7}, {7, 8}, {8, 0}}, [][]int64{{0, 1, 2, 3, 4, 5, 6, 7, 8}}, []int64{2}}},
		{circles(7, 0, []int64{6, 1, 3}, []int64{3, 0, 2, 4, 5}), criticalParts{[][]int64{{0, 2}, {1, 3}, {2, 4}, {3, 0}, {3, 6}, {4, 5}, {5, 3}, {6, 1}}, [][]int64{{0, 1, 2, 3, 4, 5, 6}}, []int64{1}}},
		{circles(6, 0, []int64{0, 1, 2, 3, 4, 5}, []int64{0, 1, 4, 5}), criticalParts{[][]int64{{0, 1}, {1, 2}, {1, 4}, {2, 3}, {3, 4}, {4, 5}, {5, 0}}, [][]int64{{0, 1, 2, 3, 4, 5}}, []int64{2}}},
		{circles(6, 0, []int64{0, 1, 2, 3, 4, 5}, []int64{2, 3, 4}), criticalParts{[][]int64{{0, 1}, {1, 2}, {2, 3}, {3, 4}, {4, 2}, {4, 5}, {5, 0}}, [][]int64{{0, 1, 2, 3, 4, 5}}, []int64{3}}},
		// Several components, whose nodes are no neighbours, and cyclicities greater than the
		// number of nodes.
		{circles(4, 2, []int64{0, 3}, []int64{1, 2}), criticalParts{[][]int64{{0, 3}, {1, 2}, {2, 1}, {3, 0}}, [][]int64{{0, 3}, {1, 2}}, []int64{2, 2}}},
		{circles(5, 0, []int64{0, 3}, []int64{1, 4, 2}), criticalParts{[][]int64{{0, 3}, {1, 4}, {2, 1}, {3, 0}, {4, 2}}, [][]int64{{0, 3}, {1, 2, 4}}, []int64{2, 3}}},
		{between(circles(5, 0, []int64{0, 3}, []int64{1, 4, 2}), -1), criticalParts{[][]int64{{0, 3}, {1, 4}, {2, 1}, {3, 0}, {4, 2}}, [][]int64{{0, 3}, {1, 2, 4}}, []int64{2, 3}}},
		{with(circles(7, 8, []int64{2, 6, 4}, []int64{1, 3, 0, 5}), 1, 6, maxFinite), criticalParts{[][]int64{{0, 5}, {1, 3}, {2, 6}, {3, 0}, {4, 2}, {5, 1}, {6, 4}}, [][]int64{{0, 1, 3, 5}, {2, 4, 6}}, []int64{4, 3}}},
		{circles(10, -7, []int64{0, 6, 2, 9}, []int64{1, 3, 4, 5, 7, 8}), criticalParts{[][]int64{{0, 6}, {1, 3}, {2, 9}, {3, 4}, {4, 5}, {5, 7}, {6, 2}, {7, 8}, {8, 1}, {9, 0}}, [][]int64{{0, 2, 6, 9}, {1, 3, 4, 5, 7, 8}}, []int64{4, 6}}},
		{between(circles(10, maxFinite, []int64{9, 0}, []int64{7, 1, 4}, []int64{2, 8, 3, 6, 5}), maxFinite-1), criticalParts{[][]int64{{0, 9}, {1, 4}, {2, 8}, {3, 6}, {4, 7}, {5, 2}, {6, 5}, {7, 1}, {8, 3}, {9, 0}}, [][]int64{{0, 9}, {1, 4, 7}, {2, 3, 5, 6, 8}}, []int64{2, 3, 5}}},
		{circles(10, 0, []int64{5}, []int64{0, 7, 8, 9}), criticalParts{[][]int64{{0, 7}, {5, 5}, {7, 8}, {8, 9}, {9, 0}}, [][]int64{{0, 7, 8, 9}, {5}}, []int64{4, 1}}},
		// One way between two critical components, whatever it weighs.
		{[][]int64{{2, bottom}, {1, 2}}, criticalParts{[][]int64{{0, 0}, {1, 1}}, [][]int64{{0}, {1}}, []int64{1, 1}}},
		{[][]int64{{2, bottom}, {maxFinite, 2}}, criticalParts{[][]int64{{0, 0}, {1, 1}}, [][]int64{{0}, {1}}, []int64{1, 1}}},
		{[][]int64{{2, 1}, {bottom, 2}}, criticalParts{[][]int64{{0, 0}, {1, 1}}, [][]int64{{0}, {1}}, []int64{1, 1}}},
		{[][]int64{{2, 1}, {3, 2}}, criticalParts{[][]int64{{0, 0}, {0, 1}, {1, 0}, {1, 1}}, [][]int64{{0, 1}}, []int64{1}}},
		{[][]int64{{2, 1}, {2, 2}}, criticalParts{[][]int64{{0, 0}, {1, 1}}, [][]int64{{0}, {1}}, []int64{1, 1}}},
	}
	for _, c := range cases {
		checkParts(t, c.a, c.want)
		checkColumns(t, c.a, c.want.components)
	}
}

// All nodes or all arcs are critical, for every number of nodes.
func TestP06EvenGraphs(t *testing.T) {
	for n := int64(1); n <= maxSize; n++ {
		var all [][]int64
		complete, round, loops := criticalParts{periods: []int64{1}}, criticalParts{periods: []int64{n}}, criticalParts{}
		whole := make([]int64, n)
		for from := range n {
			whole[from] = from
			for to := range n {
				all = append(all, []int64{from, to})
			}
			round.arcs = append(round.arcs, []int64{from, (from + 1) % n})
			loops.arcs = append(loops.arcs, []int64{from, from})
			loops.components = append(loops.components, []int64{from})
			loops.periods = append(loops.periods, 1)
		}
		complete.arcs, complete.components, round.components = all, [][]int64{whole}, [][]int64{whole}
		for _, weight := range []int64{-maxFinite, -1, 0, 1, maxFinite} {
			checkParts(t, filled(int(n), int(n), weight), complete)
			checkParts(t, ring(int(n), weight), round)
			checkParts(t, plainShift(unitOf(int(n)), weight, 1), loops)
		}
		if n >= 3 { // cycles of two and of three nodes
			complete.arcs = slices.DeleteFunc(all, func(arc []int64) bool { return arc[0] == arc[1] })
			checkParts(t, noLoops(int(n), -3), complete)
		}
	}
}

// uneven has the mean num / den on many cycles: an arc can only be on one of them if the heights of
// its nodes allow for a whole number, and a part of these arcs is made lighter or left out.
func uneven(random *rand.Rand, n int, num, den int64) [][]int64 {
	heights := make([]int64, n)
	for i := range heights {
		heights[i] = random.Int64N(3 * den)
	}
	few := random.IntN(3) + 1
	a := filled(n, n, bottom)
	for i := range a {
		for j := range a {
			weight := big.NewInt(heights[i] - heights[j] + num)
			weight.Div(weight, big.NewInt(den))
			switch random.IntN(2 * few) {
			case 0, 1:
				a[i][j] = weight.Int64()
			case 2:
				a[i][j] = weight.Int64() - random.Int64N(5)
			}
		}
	}
	return a
}

// shuffled has arcs around parts of a random order of the nodes, and lighter ones elsewhere.
func shuffled(random *rand.Rand, n int, weight int64) [][]int64 {
	var cycles [][]int64
	order := make([]int64, n)
	for i, node := range random.Perm(n) {
		order[i] = int64(node)
	}
	for len(order) > 0 {
		size := random.IntN(len(order)) + 1
		cycles = append(cycles, order[:size])
		order = order[size:]
	}
	a := circles(n, weight, cycles...)
	for range random.IntN(2 * n) {
		i, j := random.IntN(n), random.IntN(n)
		if a[i][j] == bottom {
			a[i][j] = weight - random.Int64N(3)
		}
	}
	return a
}

// richGraphs are the graphs of stage 5, and graphs with many critical cycles.
func richGraphs(random *rand.Rand, n int) [][][]int64 {
	list := someGraphs(random, n)
	for _, den := range []int64{1, 2, 3, 4, 6} {
		for _, num := range []int64{-7, 0, 5} {
			list = append(list, uneven(random, n, num, den))
		}
		list = append(list, shuffled(random, n, den-3))
	}
	return list
}

// arcsAround are the arcs of a cycle.
func arcsAround(cycle []int64) [][]int64 {
	var arcs [][]int64
	for k, node := range cycle {
		arcs = append(arcs, []int64{node, cycle[(k+1)%len(cycle)]})
	}
	return arcs
}

// partsOf adds to critical arcs what follows from them: without a period yet.
func partsOf(n int, arcs [][]int64) criticalParts {
	slices.SortFunc(arcs, slices.Compare)
	arcs = slices.CompactFunc(arcs, slices.Equal)
	only := filled(n, n, bottom)
	hasArc := make([]bool, n)
	for _, arc := range arcs {
		only[arc[1]][arc[0]] = 0
		hasArc[arc[0]] = true
	}
	components := slices.DeleteFunc(plainComponents(only), func(component []int64) bool { return !hasArc[component[0]] })
	return criticalParts{arcs: arcs, components: components, periods: make([]int64, len(components))}
}

// plainParts compares all cycles. A mean is only nil where there are none.
func plainParts(a [][]int64) (criticalParts, *big.Rat) {
	_, greatest := plainBest(a)
	var best, arcs [][]int64
	simpleLists(len(a), func(list []int64) {
		weight, ok := plainCycle(a, list)
		if ok && list[0] == slices.Min(list) && big.NewRat(weight, int64(len(list))).Cmp(greatest) == 0 {
			best = append(best, slices.Clone(list))
			arcs = append(arcs, arcsAround(list)...)
		}
	})
	parts := partsOf(len(a), arcs)
	for k, component := range parts.components {
		for _, cycle := range best {
			if slices.Contains(component, cycle[0]) {
				parts.periods[k] = divisorOf(parts.periods[k], int64(len(cycle)))
			}
		}
	}
	return parts, greatest
}

func TestP06GraphsFollowTheDefinition(t *testing.T) {
	random := newRandom(61)
	signs, denominators, codes := map[int64]int{}, map[int64]int{}, map[int64]int{}
	for a := range manyGraphs(random, 1, 6, 8, richGraphs) {
		parts, mean := plainParts(a)
		if mean == nil {
			checkNoParts(t, a, impl.ErrNotFound)
			continue
		}
		checkParts(t, a, parts)
		codes[checkColumns(t, a, parts.components)]++
		signs[int64(mean.Sign())]++
		denominators[mean.Denom().Int64()]++
	}
	checkVaried(t, codes, map[int64]int{impl.ErrNone: 1000, impl.ErrLimit: 50})
	checkVaried(t, signs, map[int64]int{-1: 100, 0: 100, 1: 100})
	checkVaried(t, denominators, map[int64]int{1: 100, 2: 100, 3: 50, 4: 10})
}

// starParts follows the chapter's rule for arcs, with the mean of a best cycle. The closed walks at
// a node that are counted for its period are long enough to go to each cycle and around it.
func starParts(a [][]int64, best []int64) criticalParts {
	n := len(a)
	weight, _ := plainCycle(a, best)
	shifted := plainShift(plainShift(a, 0, int64(len(best))), weight, 1)
	star := plainSum(plainPowers(shifted), unitOf(n))
	var arcs [][]int64
	only := filled(n, n, bottom)
	for i, row := range shifted {
		for j, entry := range row {
			if entry != bottom && star[j][i] != bottom && entry+star[j][i] == 0 {
				arcs = append(arcs, []int64{int64(j), int64(i)})
				only[i][j] = 0
			}
		}
	}
	parts := partsOf(n, arcs)
	walks := only
	for k := range int64(3 * n) {
		for c, component := range parts.components {
			if node := component[0]; walks[node][node] == 0 {
				parts.periods[c] = divisorOf(parts.periods[c], k+1)
			}
		}
		walks, _ = plainProduct(walks, only)
	}
	return parts
}

func TestP06GreatGraphsFollowTheDefinition(t *testing.T) {
	random := newRandom(62)
	shorter, counts, cyclicities := map[int64]int{}, map[int64]int{}, map[int64]int{}
	greater := 0
	for a := range manyGraphs(random, 6, maxSize, 8, richGraphs) {
		best, code := impl.BestCycle(a)
		if code != impl.ErrNone {
			checkNoParts(t, a, code)
			continue
		}
		parts := starParts(a, best)
		checkParts(t, a, parts)
		checkColumns(t, a, parts.components)
		for k, component := range parts.components {
			if parts.periods[k] < int64(len(component)) {
				shorter[parts.periods[k]]++
			}
		}
		counts[int64(len(parts.components))]++
		cyclicity, _ := impl.Cyclicity(a)
		cyclicities[cyclicity]++
		if cyclicity > int64(len(a)) {
			greater++
		}
	}
	checkVaried(t, shorter, map[int64]int{1: 200, 2: 50, 3: 20})
	checkVaried(t, counts, map[int64]int{1: 500, 2: 100, 3: 20})
	checkVaried(t, cyclicities, map[int64]int{1: 500, 2: 100, 3: 50, 4: 20, 6: 10})
	if greater < 10 {
		t.Errorf("only %d cyclicities are greater than the number of nodes", greater)
	}
}

// checkColumns compares the columns, and looks whether they are eigenvectors. It returns the code.
func checkColumns(t *testing.T, a [][]int64, components [][]int64) int64 {
	t.Helper()
	what := "EigenColumns of " + impl.MatrixText(a)
	best, _ := impl.BestCycle(a)
	weight, _ := plainCycle(a, best)
	mean := big.NewRat(weight, int64(len(best)))
	shifted := plainShift(a, mean.Num().Int64(), mean.Denom().Int64())
	var want [][]int64
	for _, component := range components {
		want = append(want, plainColumn(shifted, component[0]))
	}
	wantCode := int64(impl.ErrNone)
	if !allValues(want) {
		want, wantCode = nil, impl.ErrLimit
	}
	columns, code := impl.EigenColumns(a)
	checkMatrix(t, what, columns, code, want, wantCode)
	if r, meanCode := wantRatio(mean); meanCode == impl.ErrNone {
		for _, column := range columns {
			checkVector(t, a, r, column, true, true)
		}
	}
	return code
}

func TestP06EigenColumns(t *testing.T) {
	odd := with(ring(2, maxFinite), 0, 1, maxFinite-1)
	long := [][]int64{{0, bottom, bottom}, {maxFinite, bottom, bottom}, {bottom, 1, bottom}}
	cases := []struct {
		a    [][]int64
		want [][]int64
		code int64
	}{
		{[][]int64{{7}}, [][]int64{{0}}, impl.ErrNone},
		{[][]int64{{-maxFinite}}, [][]int64{{0}}, impl.ErrNone},
		{[][]int64{{bottom, 2}, {3, bottom}}, [][]int64{{0, 1}}, impl.ErrNone},
		{[][]int64{{bottom, -3}, {-4, bottom}}, [][]int64{{0, -1}}, impl.ErrNone},
		{[][]int64{{2, 1}, {bottom, 2}}, [][]int64{{0, bottom}, {-1, 0}}, impl.ErrNone},
		{[][]int64{{2, 1}, {0, 2}}, [][]int64{{0, -2}, {-1, 0}}, impl.ErrNone},
		{[][]int64{{2, 1}, {3, 2}}, [][]int64{{0, 1}}, impl.ErrNone}, // one component
		{[][]int64{{1, 9, bottom}, {bottom, 2, 4}, {bottom, bottom, 2}}, [][]int64{{7, 0, bottom}, {9, 2, 0}}, impl.ErrNone},
		{unitOf(3), [][]int64{{0, bottom, bottom}, {bottom, 0, bottom}, {bottom, bottom, 0}}, impl.ErrNone},
		// The first node of the second component comes before others of the first one.
		{with(circles(4, 5, []int64{0, 3}, []int64{2, 1}), 0, 1, 3), [][]int64{{0, bottom, bottom, 0}, {-2, 0, 0, -2}}, impl.ErrNone},
		{between(circles(3, 0, []int64{0, 2}, []int64{1}), -1), [][]int64{{0, -1, 0}, {-1, 0, -1}}, impl.ErrNone},
		{filled(maxSize, maxSize, maxFinite), [][]int64{make([]int64, maxSize)}, impl.ErrNone},
		{filled(maxSize, maxSize, -maxFinite), [][]int64{make([]int64, maxSize)}, impl.ErrNone},
		{with(ring(maxSize, 0), 0, 9, -1), [][]int64{{0, 1, 2, 3, 4, 5, 6, 7, 8, 9}}, impl.ErrNone},
		{with(ring(maxSize, 0), 0, 9, 10), [][]int64{{0, -1, -2, -3, -4, -5, -6, -7, -8, -9}}, impl.ErrNone},
		// Numbers of the result that are values just so, and beyond on both sides.
		{[][]int64{{bottom, maxFinite}, {-maxFinite, bottom}}, [][]int64{{0, -maxFinite}}, impl.ErrNone},
		{[][]int64{{bottom, -maxFinite}, {maxFinite, bottom}}, [][]int64{{0, maxFinite}}, impl.ErrNone},
		{[][]int64{{bottom, maxFinite}, {-maxFinite + 1, bottom}}, nil, impl.ErrLimit},
		{[][]int64{{bottom, -maxFinite}, {maxFinite - 1, bottom}}, nil, impl.ErrLimit},
		{[][]int64{{0, bottom}, {maxFinite, bottom}}, [][]int64{{0, maxFinite}}, impl.ErrNone},
		{[][]int64{{-1, bottom}, {maxFinite, bottom}}, nil, impl.ErrLimit},
		{[][]int64{{1, bottom}, {-maxFinite, bottom}}, nil, impl.ErrLimit},
		{long, nil, impl.ErrLimit},
		{with(long, 2, 1, 0), [][]int64{{0, maxFinite, maxFinite}}, impl.ErrNone},
		// Only the column of the first component is none, and only that of the last one.
		{with(long, 2, 2, 0), nil, impl.ErrLimit},
		{[][]int64{{0, maxFinite, bottom}, {bottom, bottom, 1}, {bottom, bottom, 0}}, nil, impl.ErrLimit},
		// Elsewhere an entry of the star is no value.
		{[][]int64{{bottom, bottom, bottom}, {maxFinite, bottom, bottom}, {bottom, 1, 0}}, [][]int64{{bottom, bottom, 0}}, impl.ErrNone},
		{[][]int64{{maxFinite, -maxFinite}, {bottom, bottom}}, [][]int64{{0, bottom}}, impl.ErrNone},
		// The mean is no valid ratio.
		{odd, [][]int64{{0, 1}}, impl.ErrNone},
		{with(ring(2, -maxFinite), 1, 0, -maxFinite+1), [][]int64{{0, 1}}, impl.ErrNone},
	}
	for _, c := range cases {
		columns, code := impl.EigenColumns(c.a)
		checkMatrix(t, "EigenColumns of "+impl.MatrixText(c.a), columns, code, c.want, c.code)
		components, _ := impl.CriticalComponents(c.a)
		checkColumns(t, c.a, components)
	}
}

func TestP06IsCriticalCycle(t *testing.T) {
	a := [][]int64{{1, 2, bottom}, {3, bottom, 7}, {bottom, -2, 2}}
	odd := with(ring(2, maxFinite), 0, 1, maxFinite-1)
	whole := []int64{0, 1, 2, 3, 4, 5, 6, 7, 8, 9}
	// The nodes 0 and 3 are critical, and so is each node between, but not the arc 0 3.
	short := with(circles(4, 0, whole[:4]), 3, 0, -1)
	cases := []struct {
		a     [][]int64
		cycle []int64
		want  bool
	}{
		{a, []int64{0, 1}, true},
		{a, []int64{1, 0}, true}, // not written
		{a, []int64{1, 2}, true},
		{a, []int64{2, 1}, true},
		{a, []int64{0}, false}, // a smaller mean at a critical node
		{a, []int64{2}, false},
		{a, []int64{1}, false}, // no cycle
		{a, []int64{0, 2}, false},
		{a, []int64{0, 1, 2}, false},
		{a, []int64{0, 1, 2, 1}, false}, // all of its arcs are critical, but a node occurs twice
		{a, []int64{0, 1, 0, 1}, false},
		{a, []int64{0, 0}, false},
		{a, []int64{0, 3}, false},
		{a, []int64{3}, false},
		{a, []int64{-1, 0}, false},
		{a, []int64{0, math.MinInt64}, false},
		{a, []int64{math.MaxInt64}, false},
		{a, nil, false},
		{a, []int64{}, false},
		{a, slices.Repeat([]int64{0, 1}, 100), false},
		{short, []int64{0, 1, 2, 3}, true},
		{short, []int64{2, 3, 0, 1}, true},
		{short, []int64{3, 0}, false},
		{short, []int64{0, 3}, false},
		{short, []int64{3, 2, 1, 0}, false},
		{short, []int64{0, 1, 2}, false}, // the way back is missing
		{short, []int64{1, 2, 3}, false},
		{with(short, 3, 0, 0), []int64{3, 0}, true},
		{with(short, 3, 0, 0), []int64{0, 1, 2, 3}, true},
		{with(short, 3, 0, 1), []int64{3, 0}, true},
		{with(short, 3, 0, 1), []int64{0, 1, 2, 3}, false},
		{ring(maxSize, -maxFinite), whole, true},
		{ring(maxSize, maxFinite), []int64{7, 8, 9, 0, 1, 2, 3, 4, 5, 6}, true},
		{ring(maxSize, maxFinite), whole[:9], false},
		{filled(maxSize, maxSize, 3), []int64{9, 3, 5}, true},
		{filled(maxSize, maxSize, 3), []int64{9, 3, 5, 9}, false},
		{filled(maxSize, maxSize, 3), append(slices.Clone(whole), 0), false},
		{filled(maxSize, maxSize, 3), []int64{maxSize}, false},
		{with(filled(maxSize, maxSize, 3), 4, 8, 2), []int64{4, 8}, false},
		{with(filled(maxSize, maxSize, 3), 4, 8, 2), []int64{8}, true},
		{[][]int64{{-5}}, []int64{0}, true},
		{[][]int64{{-5}}, []int64{1}, false},
		{[][]int64{{-5}}, nil, false},
		{unitOf(3), []int64{2}, true},
		{unitOf(3), []int64{0, 1}, false},
		// The mean is no valid ratio.
		{odd, []int64{0, 1}, true},
		{odd, []int64{1, 0}, true},
		{odd, []int64{0}, false},
		{with(odd, 0, 0, maxFinite-1), []int64{0}, false},
		{with(odd, 0, 0, maxFinite), []int64{0}, true},
		{with(odd, 0, 0, maxFinite), []int64{0, 1}, false},
	}
	for _, c := range cases {
		is, code := impl.IsCriticalCycle(c.a, c.cycle)
		checkAnswer(t, "IsCriticalCycle of "+impl.MatrixText(c.a), is, code, c.want, impl.ErrNone)
	}
}

// TestP06Guarantee is the promise: a cycle has the greatest mean exactly if all of its arcs are
// critical.
func TestP06Guarantee(t *testing.T) {
	random := newRandom(63)
	answers := map[int64]int{}
	for a := range manyGraphs(random, 1, 5, 3, richGraphs) {
		_, greatest := plainBest(a)
		arcs, code := impl.CriticalArcs(a)
		if greatest == nil {
			checkMatrix(t, "CriticalArcs of "+impl.MatrixText(a), arcs, code, nil, impl.ErrNotFound)
			continue
		}
		simpleLists(len(a), func(list []int64) { answers[checkCycle(t, a, list, arcs, greatest)]++ })
		if len(a) <= 3 {
			lists(len(a), len(a)+1, func(list []int64) { checkCycle(t, a, list, arcs, greatest) })
		}
	}
	checkVaried(t, answers, map[int64]int{0: 1000, 1: 1000, 2: 1000})
}

// checkCycle returns 0 for a list that is no cycle, 1 for a cycle and 2 for a critical one.
func checkCycle(t *testing.T, a [][]int64, list []int64, arcs [][]int64, greatest *big.Rat) int64 {
	t.Helper()
	weight, ok := plainCycle(a, list)
	want := ok && big.NewRat(weight, int64(len(list))).Cmp(greatest) == 0
	allCritical := true
	for _, arc := range arcsAround(list) {
		_, found := slices.BinarySearchFunc(arcs, arc, slices.Compare)
		allCritical = allCritical && found
	}
	if ok && allCritical != want {
		t.Errorf("the cycle %v of %v has the greatest mean: %v, but critical arcs: %v", list, a, want, arcs)
	}
	is, code := impl.IsCriticalCycle(a, list)
	checkAnswer(t, "IsCriticalCycle of "+impl.MatrixText(a), is, code, want, impl.ErrNone)
	switch {
	case want:
		return 2
	case ok:
		return 1
	}
	return 0
}

// checkNoParts gives a matrix for which all functions return the same error, whatever else they
// are given.
func checkNoParts(t *testing.T, a [][]int64, want int64) {
	t.Helper()
	arcs, code := impl.CriticalArcs(a)
	checkMatrix(t, "CriticalArcs without a cycle", arcs, code, nil, want)
	nodes, code := impl.CriticalNodes(a)
	checkList(t, "CriticalNodes without a cycle", nodes, code, nil, want)
	components, code := impl.CriticalComponents(a)
	checkMatrix(t, "CriticalComponents without a cycle", components, code, nil, want)
	n, code := impl.Cyclicity(a)
	checkNumber(t, "Cyclicity without a cycle", n, code, 0, want)
	part, code := impl.CriticalMatrix(a)
	checkMatrix(t, "CriticalMatrix without a cycle", part, code, nil, want)
	columns, code := impl.EigenColumns(a)
	checkMatrix(t, "EigenColumns without a cycle", columns, code, nil, want)
	for _, node := range append(notNodes(len(a)), 0, 1, int64(len(a))-1) {
		n, code := impl.PeriodAt(a, node)
		checkNumber(t, "PeriodAt without a cycle", n, code, 0, want)
	}
	for _, list := range [][]int64{nil, {0}, {1, 0}, {0, 0}, {-1}, {0, 99}, {math.MinInt64}, slices.Repeat([]int64{0}, maxPath+1)} {
		is, code := impl.IsCriticalCycle(a, list)
		checkAnswer(t, "IsCriticalCycle without a cycle", is, code, false, want)
	}
}

func TestP06WrongGraphs(t *testing.T) {
	for _, bad := range notSquares() {
		checkNoParts(t, bad, impl.ErrInvalid)
	}
	for n := 1; n <= maxSize; n++ {
		turned, _ := impl.TransposeMatrix(forward(n, 3))
		for _, a := range [][][]int64{filled(n, n, bottom), forward(n, maxFinite), forward(n, -maxFinite), turned} {
			checkNoParts(t, a, impl.ErrNotFound)
		}
	}
}

func TestP06ResultsShareNoMemory(t *testing.T) {
	before := between(circles(5, 4, []int64{0, 3}, []int64{1, 4, 2}), 3)
	calls := map[string]func(a [][]int64) ([][]int64, int64){
		"CriticalArcs":       impl.CriticalArcs,
		"CriticalNodes":      oneRow(impl.CriticalNodes),
		"CriticalComponents": impl.CriticalComponents,
		"CriticalMatrix":     impl.CriticalMatrix,
		"EigenColumns":       impl.EigenColumns,
		"Cyclicity":          numbers(impl.Cyclicity),
		"PeriodAt":           numbers(func(a [][]int64) (int64, int64) { return impl.PeriodAt(a, 4) }),
		"IsCriticalCycle":    answers(func(a [][]int64) bool { is, _ := impl.IsCriticalCycle(a, []int64{4, 2, 1}); return is }),
	}
	checkCalls(t, calls, before)
	checkCalls(t, map[string]func(rows [][]int64) ([][]int64, int64){
		"IsCriticalCycle of a list": answers(func(rows [][]int64) bool { is, _ := impl.IsCriticalCycle(before, rows[0]); return is }),
	}, [][]int64{{4, 2, 1}})
	// All arcs are critical, so that nothing of the argument is left out.
	checkCalls(t, map[string]func(a [][]int64) ([][]int64, int64){"CriticalMatrix of a ring": impl.CriticalMatrix}, ring(maxSize, 1))
}

// numbers lets checkCalls look at a function whose result is a number.
func numbers(call func(a [][]int64) (int64, int64)) func(a [][]int64) ([][]int64, int64) {
	return func(a [][]int64) ([][]int64, int64) {
		n, code := call(a)
		return [][]int64{{n}}, code
	}
}
