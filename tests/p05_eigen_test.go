package tests

import (
	"math"
	"math/big"
	"math/rand/v2"
	"slices"
	"testing"

	"loop.example/g00941/impl"
)

func checkAnswer(t *testing.T, what string, is bool, code int64, want bool, wantCode int64) {
	t.Helper()
	if is != want || code != wantCode {
		t.Errorf("%s = %v, %d, want %v, %d", what, is, code, want, wantCode)
	}
}

// plainReach tells of all pairs whether the first node reaches the second one: it grows by one arc
// after the other until nothing changes.
func plainReach(a [][]int64) [][]bool {
	reach := make([][]bool, len(a))
	for i := range reach {
		reach[i] = make([]bool, len(a))
		reach[i][i] = true
	}
	for grown := true; grown; {
		grown = false
		for from := range reach {
			for i, row := range a {
				for j, weight := range row {
					if weight != bottom && reach[from][j] && !reach[from][i] {
						reach[from][i], grown = true, true
					}
				}
			}
		}
	}
	return reach
}

// plainComponents puts each node to the first one with which it reaches each other.
func plainComponents(a [][]int64) [][]int64 {
	reach := plainReach(a)
	members := make([][]int64, len(a))
	for node := range a {
		first := 0
		for !reach[first][node] || !reach[node][first] {
			first++
		}
		members[first] = append(members[first], int64(node))
	}
	return slices.DeleteFunc(members, func(list []int64) bool { return len(list) == 0 })
}

// reduceTo is the matrix of some nodes only, numbered anew.
func reduceTo(a [][]int64, nodes []int64) [][]int64 {
	b := filled(len(nodes), len(nodes), bottom)
	for i := range b {
		for j := range b {
			b[i][j] = a[nodes[i]][nodes[j]]
		}
	}
	return b
}

// apart has the arcs of a between the nodes whose numbers have the same rest by d, and no others.
func apart(a [][]int64, d int) [][]int64 {
	b := cloneRows(a)
	for i := range b {
		for j := range b {
			if i%d != j%d {
				b[i][j] = bottom
			}
		}
	}
	return b
}

// someGraphs are the graphs of stage 3, and graphs with several components.
func someGraphs(random *rand.Rand, n int) [][][]int64 {
	list := graphs(random, n)
	for _, limit := range []int64{1, 50, maxFinite} {
		a := randomMatrix(random, n, n, limit)
		split := apart(a, 2)
		list = append(list, split, apart(a, 3), with(split, n-1, 0, limit))
		sparse := filled(n, n, bottom)
		for range n + 1 {
			sparse[random.IntN(n)][random.IntN(n)] = random.Int64N(2*limit+1) - limit
		}
		list = append(list, sparse)
	}
	return list
}

// Both ways round, and with the weights of arcs that a careless check could take for none.
func TestP05CanReach(t *testing.T) {
	a := [][]int64{{bottom, 2, bottom, bottom}, {3, bottom, bottom, bottom}, {1, bottom, 4, bottom}, {bottom, bottom, bottom, bottom}}
	cases := []struct {
		a        [][]int64
		from, to int64
		want     bool
		code     int64
	}{
		{a, 0, 2, true, impl.ErrNone},
		{a, 1, 2, true, impl.ErrNone}, // by 0
		{a, 2, 0, false, impl.ErrNone},
		{a, 2, 1, false, impl.ErrNone},
		{a, 0, 3, false, impl.ErrNone},
		{a, 3, 0, false, impl.ErrNone},
		{a, 3, 3, true, impl.ErrNone}, // without an arc
		{a, 2, 2, true, impl.ErrNone},
		{a, 0, 0, true, impl.ErrNone},
		{a, 0, 4, false, impl.ErrRange},
		{a, 4, 0, false, impl.ErrRange},
		{a, 4, 4, false, impl.ErrRange},
		{a, -1, -1, false, impl.ErrRange},
		{[][]int64{{bottom}}, 0, 0, true, impl.ErrNone},
		{[][]int64{{bottom}}, 0, 1, false, impl.ErrRange},
		{[][]int64{{bottom, bottom}, {0, bottom}}, 0, 1, true, impl.ErrNone},
		{[][]int64{{bottom, bottom}, {0, bottom}}, 1, 0, false, impl.ErrNone},
		{[][]int64{{bottom, bottom}, {-maxFinite, bottom}}, 0, 1, true, impl.ErrNone},
		{[][]int64{{bottom, bottom}, {-1, bottom}}, 0, 1, true, impl.ErrNone},
		{ring(maxSize, -maxFinite), 1, 0, true, impl.ErrNone},
		{ring(maxSize, maxFinite), 9, 8, true, impl.ErrNone},
		{forward(maxSize, 0), 0, 9, true, impl.ErrNone},
		{forward(maxSize, 0), 9, 0, false, impl.ErrNone},
		{filled(maxSize, maxSize, bottom), 4, 5, false, impl.ErrNone},
		{filled(maxSize, maxSize, bottom), 5, 5, true, impl.ErrNone},
	}
	for _, c := range cases {
		is, code := impl.CanReach(c.a, c.from, c.to)
		checkAnswer(t, "CanReach of "+impl.MatrixText(c.a), is, code, c.want, c.code)
	}
}

func TestP05ComponentsOf(t *testing.T) {
	single := make([][]int64, maxSize)
	for i := range single {
		single[i] = []int64{int64(i)}
	}
	whole := [][]int64{{0, 1, 2, 3, 4, 5, 6, 7, 8, 9}}
	cases := []struct {
		a    [][]int64
		want [][]int64
	}{
		{[][]int64{{bottom}}, [][]int64{{0}}},
		{[][]int64{{5}}, [][]int64{{0}}},
		{[][]int64{{bottom, 2, bottom, bottom}, {3, bottom, bottom, bottom}, {1, bottom, 4, bottom}, {bottom, bottom, bottom, bottom}}, [][]int64{{0, 1}, {2}, {3}}},
		{filled(maxSize, maxSize, bottom), single},
		{unitOf(maxSize), single},
		{forward(maxSize, 7), single},
		{with(forward(maxSize, 7), 3, 3, 0), single},
		{with(forward(maxSize, 7), 3, 5, 0), [][]int64{{0}, {1}, {2}, {3, 4, 5}, {6}, {7}, {8}, {9}}},
		{with(forward(maxSize, 7), 0, 9, 0), whole},
		{ring(maxSize, 0), whole},
		{ring(maxSize, -maxFinite), whole},
		{filled(maxSize, maxSize, maxFinite), whole},
		// The members are no neighbours, and a later component reaches an earlier one.
		{apart(filled(maxSize, maxSize, 0), 2), [][]int64{{0, 2, 4, 6, 8}, {1, 3, 5, 7, 9}}},
		{with(apart(filled(maxSize, maxSize, 0), 2), 0, 9, 1), [][]int64{{0, 2, 4, 6, 8}, {1, 3, 5, 7, 9}}},
		{with(with(apart(filled(maxSize, maxSize, 0), 2), 0, 9, 1), 3, 6, 1), whole},
		{apart(filled(maxSize, maxSize, 0), 3), [][]int64{{0, 3, 6, 9}, {1, 4, 7}, {2, 5, 8}}},
		{[][]int64{{bottom, bottom, bottom, -1}, {bottom, bottom, -2, bottom}, {bottom, -3, bottom, bottom}, {-4, bottom, bottom, bottom}}, [][]int64{{0, 3}, {1, 2}}},
		// The cycle goes through its nodes in another order than that of the numbers.
		{[][]int64{{bottom, 0, bottom, bottom}, {bottom, bottom, bottom, 0}, {0, bottom, bottom, bottom}, {bottom, bottom, 0, bottom}}, [][]int64{{0, 1, 2, 3}}},
	}
	for _, c := range cases {
		list, code := impl.ComponentsOf(c.a)
		checkMatrix(t, "ComponentsOf of "+impl.MatrixText(c.a), list, code, c.want, impl.ErrNone)
		is, code := impl.IsIrreducible(c.a)
		checkAnswer(t, "IsIrreducible of "+impl.MatrixText(c.a), is, code, len(c.want) == 1, impl.ErrNone)
	}
}

func TestP05ComponentsFollowTheDefinition(t *testing.T) {
	random := newRandom(51)
	counts := map[int]int{}
	for a := range manyGraphs(random, 1, maxSize, 10, someGraphs) {
		want := plainComponents(a)
		counts[len(want)]++
		list, code := impl.ComponentsOf(a)
		checkMatrix(t, "ComponentsOf of "+impl.MatrixText(a), list, code, want, impl.ErrNone)
		is, code := impl.IsIrreducible(a)
		checkAnswer(t, "IsIrreducible of "+impl.MatrixText(a), is, code, len(want) == 1, impl.ErrNone)
		for from, row := range plainReach(a) {
			for to, reached := range row {
				is, code := impl.CanReach(a, int64(from), int64(to))
				checkAnswer(t, "CanReach of "+impl.MatrixText(a), is, code, reached, impl.ErrNone)
			}
		}
	}
	for count := 1; count <= maxSize; count++ {
		if counts[count] < 10 {
			t.Errorf("only %d graphs have %d components", counts[count], count)
		}
	}
}

func TestP05UpstreamMean(t *testing.T) {
	none := impl.Ratio{}
	a := [][]int64{{bottom, 2, bottom, bottom}, {3, bottom, bottom, bottom}, {1, bottom, 4, bottom}, {bottom, bottom, bottom, bottom}}
	// Each cycle has a greater mean than those before it, and the last one reaches only its node 8.
	line := with(with(with(forward(maxSize, 1), 0, 0, -7), 4, 4, -3), 8, 8, 6)
	line[9][8] = bottom
	odd := with(ring(2, maxFinite), 0, 1, maxFinite-1)
	beside := [][]int64{{bottom, maxFinite, bottom, bottom}, {maxFinite - 1, bottom, bottom, bottom}, {bottom, bottom, 5, bottom}, {bottom, bottom, 0, bottom}}
	cases := []struct {
		a    [][]int64
		node int64
		want impl.Ratio
		code int64
	}{
		{a, 0, ratio(5, 2), impl.ErrNone},
		{a, 1, ratio(5, 2), impl.ErrNone},
		{a, 2, ratio(4, 1), impl.ErrNone},
		{a, 3, none, impl.ErrNotFound},
		{a, 4, none, impl.ErrRange},
		{a, -1, none, impl.ErrRange},
		{with(a, 3, 1, 0), 3, ratio(5, 2), impl.ErrNone},
		{with(a, 3, 2, 0), 3, ratio(4, 1), impl.ErrNone},
		{with(a, 2, 2, 2), 2, ratio(5, 2), impl.ErrNone}, // its own cycle is not the best one
		{with(a, 2, 2, bottom), 2, ratio(5, 2), impl.ErrNone},
		{with(a, 1, 0, -2), 1, ratio(0, 1), impl.ErrNone},
		{with(a, 1, 0, -7), 0, ratio(-5, 2), impl.ErrNone},
		{with(a, 0, 2, -9), 0, ratio(4, 1), impl.ErrNone}, // 2 reaches all but 3 now
		{with(a, 0, 2, 5), 1, ratio(4, 1), impl.ErrNone},
		{with(a, 0, 2, 8), 1, ratio(9, 2), impl.ErrNone},
		{[][]int64{{bottom}}, 0, none, impl.ErrNotFound},
		{[][]int64{{bottom}}, 1, none, impl.ErrRange},
		{[][]int64{{-maxFinite}}, 0, ratio(-maxFinite, 1), impl.ErrNone},
		{[][]int64{{maxFinite}}, 0, ratio(maxFinite, 1), impl.ErrNone},
		{forward(maxSize, maxFinite), 9, none, impl.ErrNotFound},
		{forward(maxSize, maxFinite), 10, none, impl.ErrRange},
		{line, 0, ratio(-7, 1), impl.ErrNone},
		{line, 3, ratio(-7, 1), impl.ErrNone},
		{line, 4, ratio(-3, 1), impl.ErrNone},
		{line, 7, ratio(-3, 1), impl.ErrNone},
		{line, 8, ratio(6, 1), impl.ErrNone},
		{line, 9, ratio(-3, 1), impl.ErrNone},
		{with(ring(maxSize, 0), 0, 9, -1), 5, ratio(-1, 10), impl.ErrNone},
		{with(ring(maxSize, maxFinite), 4, 4, -maxFinite), 0, ratio(maxFinite, 1), impl.ErrNone},
		// A mean that is no valid ratio is only told to those that it reaches.
		{odd, 0, none, impl.ErrLimit},
		{odd, 1, none, impl.ErrLimit},
		{odd, 2, none, impl.ErrRange},
		{with(odd, 0, 0, maxFinite), 1, ratio(maxFinite, 1), impl.ErrNone},
		{beside, 0, none, impl.ErrLimit},
		{beside, 2, ratio(5, 1), impl.ErrNone},
		{beside, 3, ratio(5, 1), impl.ErrNone},
		{with(beside, 3, 1, -5), 3, none, impl.ErrLimit},
		{with(beside, 2, 2, bottom), 3, none, impl.ErrNotFound},
	}
	for _, c := range cases {
		r, code := impl.UpstreamMean(c.a, c.node)
		checkRatio(t, "UpstreamMean of "+impl.MatrixText(c.a), r, code, c.want, c.code)
	}
}

// plainUpstream compares all cycles whose first node reaches a node; then the others do so too.
func plainUpstream(a [][]int64, reach [][]bool, node int) *big.Rat {
	var greatest *big.Rat
	simpleLists(len(a), func(list []int64) {
		weight, ok := plainCycle(a, list)
		if !ok || !reach[list[0]][node] {
			return
		}
		if mean := big.NewRat(weight, int64(len(list))); greatest == nil || mean.Cmp(greatest) > 0 {
			greatest = mean
		}
	})
	return greatest
}

func TestP05UpstreamMeansFollowTheDefinition(t *testing.T) {
	random := newRandom(52)
	codes := map[int64]int{}
	for a := range manyGraphs(random, 1, 5, 10, someGraphs) {
		reach := plainReach(a)
		for node := range len(a) {
			want, wantCode := impl.Ratio{}, int64(impl.ErrNotFound)
			if mean := plainUpstream(a, reach, node); mean != nil {
				want, wantCode = wantRatio(mean)
			}
			r, code := impl.UpstreamMean(a, int64(node))
			checkRatio(t, "UpstreamMean of "+impl.MatrixText(a), r, code, want, wantCode)
			codes[code]++
		}
	}
	checkVaried(t, codes, map[int64]int{impl.ErrNone: 1000, impl.ErrNotFound: 200, impl.ErrLimit: 40})
}

// The graph of the nodes that reach a node has just the cycles that count.
func TestP05UpstreamMeansOfGreatGraphs(t *testing.T) {
	random := newRandom(53)
	for a := range manyGraphs(random, 6, maxSize, 5, someGraphs) {
		reach := plainReach(a)
		for node := range len(a) {
			var upstream []int64
			for other := range reach {
				if reach[other][node] {
					upstream = append(upstream, int64(other))
				}
			}
			want, wantCode := impl.CycleMean(reduceTo(a, upstream))
			r, code := impl.UpstreamMean(a, int64(node))
			checkRatio(t, "UpstreamMean of "+impl.MatrixText(a), r, code, want, wantCode)
		}
	}
}

// plainEigen follows the definitions of both kinds of vectors.
func plainEigen(a [][]int64, r impl.Ratio, x []int64) (eigen, sub bool) {
	if len(x) != len(a) || !allValues([][]int64{x}) || slices.Max(x) == bottom {
		return false, false
	}
	eigen, sub = true, true
	for i, row := range a {
		sum := int64(math.MinInt64)
		for j, entry := range row {
			if entry != bottom && x[j] != bottom {
				sum = max(sum, r.Den*entry+x[j])
			}
		}
		product := int64(math.MinInt64)
		if x[i] != bottom {
			product = r.Num + x[i]
		}
		eigen = eigen && sum == product
		sub = sub && sum <= product
	}
	return eigen, sub
}

func checkVector(t *testing.T, a [][]int64, r impl.Ratio, x []int64, eigen, sub bool) {
	t.Helper()
	if is := impl.IsEigenVector(a, r, x); is != eigen {
		t.Errorf("IsEigenVector(%.200v, %v, %.200v) = %v", a, r, x, is)
	}
	if is := impl.IsSubEigen(a, r, x); is != sub {
		t.Errorf("IsSubEigen(%.200v, %v, %.200v) = %v", a, r, x, is)
	}
}

func TestP05Vectors(t *testing.T) {
	a := [][]int64{{bottom, 2}, {3, bottom}}
	half := ratio(5, 2)
	down := [][]int64{{4, bottom, bottom}, {1, 2, bottom}, {bottom, 0, bottom}}
	cases := []struct {
		a          [][]int64
		r          impl.Ratio
		x          []int64
		eigen, sub bool
	}{
		{a, half, []int64{0, 1}, true, true},
		{a, half, []int64{7, 8}, true, true},
		{a, half, []int64{-maxFinite, -maxFinite + 1}, true, true},
		{a, half, []int64{maxFinite - 1, maxFinite}, true, true},
		{a, half, []int64{maxFinite, maxFinite + 1}, false, false},
		{a, half, []int64{0, 0}, false, false}, // fails at 1 alone
		{a, half, []int64{0, 2}, false, false}, // fails at 0 alone
		{a, half, []int64{bottom, bottom}, false, false},
		{a, half, []int64{0, bottom}, false, false},
		{a, half, []int64{bottom, 1}, false, false},
		{a, half, []int64{0}, false, false},
		{a, half, []int64{0, 1, 0}, false, false},
		{a, half, []int64{0, 1, bottom}, false, false},
		{a, half, nil, false, false},
		{a, half, []int64{}, false, false},
		{a, ratio(2, 1), []int64{0, 0}, false, false},
		{a, ratio(2, 1), []int64{0, 1}, false, false},
		{a, ratio(3, 1), []int64{0, 0}, false, true}, // a subeigenvector that is no eigenvector
		{a, ratio(3, 1), []int64{0, 1}, false, true},
		{a, ratio(3, 1), []int64{1, 0}, false, false},
		{a, ratio(maxFinite, 1), []int64{0, 1}, false, true},
		{a, ratio(-maxFinite, 1), []int64{0, 1}, false, false},
		{[][]int64{{-4}}, ratio(-4, 1), []int64{3}, true, true},
		{[][]int64{{-4}}, ratio(-3, 1), []int64{3}, false, true},
		{[][]int64{{-4}}, ratio(-5, 1), []int64{3}, false, false},
		{[][]int64{{0}}, ratio(0, 1), []int64{-3}, true, true},
		{[][]int64{{0}}, ratio(1, 2), []int64{-3}, false, true},
		{[][]int64{{0}}, ratio(-1, 2), []int64{-3}, false, false},
		{[][]int64{{0}}, ratio(0, 1), []int64{bottom}, false, false},
		// Den * Bottom is Bottom, so that without an arc there is no eigenvector.
		{[][]int64{{bottom}}, ratio(0, 1), []int64{0}, false, true},
		{[][]int64{{bottom}}, ratio(-maxFinite, 1), []int64{-maxFinite}, false, true},
		{[][]int64{{bottom}}, ratio(maxFinite-1, maxFinite), []int64{maxFinite}, false, true},
		{[][]int64{{bottom}}, ratio(1, 2), []int64{bottom}, false, false},
		{filled(maxSize, maxSize, bottom), ratio(1, maxFinite), slices.Repeat([]int64{0}, maxSize), false, true},
		{filled(maxSize, maxSize, bottom), ratio(1, maxFinite), slices.Repeat([]int64{bottom}, maxSize), false, false},
		{filled(maxSize, maxSize, bottom), ratio(1, 1), append(slices.Repeat([]int64{bottom}, maxSize-1), 0), false, true},
		// Some elements are Bottom: where nothing arrives, on both sides.
		{down, ratio(4, 1), []int64{0, -3, -7}, true, true},
		{down, ratio(2, 1), []int64{bottom, 0, -2}, true, true},
		{down, ratio(2, 1), []int64{bottom, 0, bottom}, false, false},
		{down, ratio(2, 1), []int64{bottom, 0, -1}, false, true},
		{down, ratio(2, 1), []int64{bottom, 0, -3}, false, false},
		{down, ratio(2, 1), []int64{bottom, bottom, 0}, false, true},
		{down, ratio(3, 1), []int64{bottom, 0, -3}, false, true},
		{down, ratio(2, 1), []int64{-maxFinite, 0, -2}, false, false},
		{down, ratio(4, 1), []int64{0, bottom, bottom}, false, false},
		{down, ratio(4, 1), []int64{0, -2, -6}, false, true},
		{unitOf(3), ratio(0, 1), []int64{5, bottom, -maxFinite}, true, true},
		{with(unitOf(3), 1, 1, bottom), ratio(0, 1), []int64{5, bottom, -maxFinite}, true, true},
		{with(unitOf(3), 1, 1, bottom), ratio(0, 1), []int64{5, 0, -maxFinite}, false, true},
		// Numbers on the way that are no values count as they are.
		{[][]int64{{maxFinite}}, ratio(maxFinite, 1), []int64{maxFinite}, true, true},
		{[][]int64{{-maxFinite}}, ratio(-maxFinite, 1), []int64{-maxFinite}, true, true},
		{[][]int64{{-maxFinite}}, ratio(maxFinite-1, maxFinite), []int64{-maxFinite}, false, true},
		{[][]int64{{maxFinite}}, ratio(maxFinite-1, maxFinite), []int64{-maxFinite}, false, false},
		{[][]int64{{bottom, maxFinite}, {-maxFinite, bottom}}, ratio(0, 1), []int64{maxFinite, 0}, true, true},
		{[][]int64{{bottom, maxFinite}, {-maxFinite, bottom}}, ratio(0, 1), []int64{0, -maxFinite}, true, true},
		{[][]int64{{bottom, maxFinite}, {-maxFinite, bottom}}, ratio(0, 1), []int64{maxFinite, 1}, false, false},
		{[][]int64{{bottom, maxFinite}, {-maxFinite, bottom}}, ratio(1, 2), []int64{maxFinite, -maxFinite}, false, true},
		// A ratio that is not valid, though it has the value of one.
		{a, ratio(10, 4), []int64{0, 2}, false, false},
		{a, ratio(-5, -2), []int64{0, 1}, false, false},
		{[][]int64{{0}}, ratio(0, 2), []int64{0}, false, false},
		{[][]int64{{0}}, impl.Ratio{}, []int64{0}, false, false},
	}
	for _, c := range cases {
		checkVector(t, c.a, c.r, c.x, c.eigen, c.sub)
		if eigen, sub := plainEigen(c.a, c.r, c.x); impl.IsRatio(c.r) && (eigen != c.eigen || sub != c.sub) {
			t.Errorf("the case %v, %v, %v is wrong", c.a, c.r, c.x)
		}
	}
}

func TestP05LengthsOfVectors(t *testing.T) {
	for n := 1; n <= maxSize; n++ {
		for m := 0; m <= maxSize+1; m++ {
			x := make([]int64, m)
			checkVector(t, filled(n, n, 4), ratio(4, 1), x, m == n, m == n)
			for i := range x {
				for _, bad := range notValues() {
					y := slices.Clone(x)
					y[i] = bad
					checkVector(t, filled(n, n, bottom), ratio(4, 1), y, false, false)
					checkVector(t, unitOf(n), ratio(0, 1), y, false, false)
				}
			}
		}
	}
}

// nearVectors are x and vectors that differ from it in little.
func nearVectors(random *rand.Rand, x []int64) [][]int64 {
	list := [][]int64{x, randomMatrix(random, 1, len(x), 5)[0], edgeMatrix(random, 1, len(x))[0]}
	for _, change := range []int64{-3, 1, maxFinite} {
		moved := slices.Clone(x)
		for i := range moved {
			if moved[i] != bottom {
				moved[i] += change
			}
		}
		list = append(list, moved)
	}
	for i := range x {
		for _, change := range []int64{-1, 1, bottom} {
			y := slices.Clone(x)
			if change == bottom || y[i] == bottom {
				y[i] = change
			} else {
				y[i] += change
			}
			list = append(list, y)
		}
	}
	return list
}

func TestP05VectorsFollowTheDefinition(t *testing.T) {
	random := newRandom(54)
	eigens, subs, neither := 0, 0, 0
	for a := range manyGraphs(random, 1, maxSize, 4, someGraphs) {
		ratios := someRatios(random)
		x, mean, code := impl.EigenVector(a)
		if code == impl.ErrNone {
			ratios = append(ratios, mean, mean, mean)
		} else {
			x = make([]int64, len(a))
		}
		for _, r := range ratios {
			for _, y := range nearVectors(random, x) {
				eigen, sub := plainEigen(a, r, y)
				checkVector(t, a, r, y, eigen, sub)
				switch {
				case eigen:
					eigens++
				case sub:
					subs++
				default:
					neither++
				}
			}
		}
	}
	if eigens < 1000 || subs < 1000 || neither < 1000 {
		t.Errorf("the vectors are too much alike: %d, %d and %d", eigens, subs, neither)
	}
}

func checkEigen(t *testing.T, a [][]int64, want []int64, wantMean impl.Ratio, wantCode int64) {
	t.Helper()
	what := "EigenVector of " + impl.MatrixText(a)
	x, mean, code := impl.EigenVector(a)
	checkList(t, what, x, code, want, wantCode)
	checkRatio(t, what, mean, code, wantMean, wantCode)
}

func TestP05EigenVector(t *testing.T) {
	none := impl.Ratio{}
	odd := with(ring(2, maxFinite), 0, 1, maxFinite-1)
	long := [][]int64{{0, bottom, bottom}, {maxFinite, bottom, bottom}, {bottom, 1, bottom}}
	back := [][]int64{{bottom, bottom, bottom}, {maxFinite, bottom, bottom}, {bottom, 1, 0}}
	cases := []struct {
		a    [][]int64
		x    []int64
		mean impl.Ratio
		code int64
	}{
		{[][]int64{{bottom, 2}, {3, bottom}}, []int64{0, 1}, ratio(5, 2), impl.ErrNone},
		{[][]int64{{bottom, 3}, {2, bottom}}, []int64{0, -1}, ratio(5, 2), impl.ErrNone},
		{[][]int64{{bottom, -3}, {-4, bottom}}, []int64{0, -1}, ratio(-7, 2), impl.ErrNone},
		{[][]int64{{bottom, 5}, {-5, bottom}}, []int64{0, -5}, ratio(0, 1), impl.ErrNone},
		{[][]int64{{7}}, []int64{0}, ratio(7, 1), impl.ErrNone},
		{[][]int64{{-7}}, []int64{0}, ratio(-7, 1), impl.ErrNone},
		{[][]int64{{bottom}}, nil, none, impl.ErrNotFound},
		{filled(maxSize, maxSize, bottom), nil, none, impl.ErrNotFound},
		{forward(maxSize, maxFinite), nil, none, impl.ErrNotFound},
		{filled(maxSize, maxSize, maxFinite), make([]int64, maxSize), ratio(maxFinite, 1), impl.ErrNone},
		{filled(maxSize, maxSize, -maxFinite), make([]int64, maxSize), ratio(-maxFinite, 1), impl.ErrNone},
		{with(ring(maxSize, 0), 0, 9, -1), []int64{0, 1, 2, 3, 4, 5, 6, 7, 8, 9}, ratio(-1, 10), impl.ErrNone},
		{with(ring(maxSize, 0), 0, 9, 10), []int64{0, -1, -2, -3, -4, -5, -6, -7, -8, -9}, ratio(1, 1), impl.ErrNone},
		// Several best cycles: the column of the least node on one of them.
		{unitOf(3), []int64{0, bottom, bottom}, ratio(0, 1), impl.ErrNone},
		{with(unitOf(3), 0, 0, -1), []int64{bottom, 0, bottom}, ratio(0, 1), impl.ErrNone},
		{with(unitOf(3), 2, 2, 1), []int64{bottom, bottom, 0}, ratio(1, 1), impl.ErrNone},
		{[][]int64{{1, 2, bottom}, {3, bottom, 7}, {bottom, -2, 2}}, []int64{0, 1, -8}, ratio(5, 2), impl.ErrNone},
		// The best cycle begins at 1, and does not reach 0, or reaches it as well.
		{[][]int64{{1, bottom, bottom}, {9, bottom, 4}, {9, 6, bottom}}, []int64{bottom, 0, 1}, ratio(5, 1), impl.ErrNone},
		{[][]int64{{1, -9, bottom}, {9, bottom, 4}, {9, 6, bottom}}, []int64{-14, 0, 1}, ratio(5, 1), impl.ErrNone},
		// The column is that of the first node, not the row.
		{[][]int64{{2, bottom}, {5, 1}}, []int64{0, 3}, ratio(2, 1), impl.ErrNone},
		{[][]int64{{2, 5}, {bottom, 1}}, []int64{0, bottom}, ratio(2, 1), impl.ErrNone},
		// Beyond the limit: the mean, and elements on both sides.
		{odd, nil, none, impl.ErrLimit},
		{with(odd, 0, 0, maxFinite), []int64{0, 0}, ratio(maxFinite, 1), impl.ErrNone},
		{[][]int64{{0, bottom}, {maxFinite, bottom}}, []int64{0, maxFinite}, ratio(0, 1), impl.ErrNone},
		{[][]int64{{0, bottom}, {-maxFinite, bottom}}, []int64{0, -maxFinite}, ratio(0, 1), impl.ErrNone},
		{[][]int64{{-1, bottom}, {maxFinite, bottom}}, nil, none, impl.ErrLimit},
		{[][]int64{{1, bottom}, {-maxFinite, bottom}}, nil, none, impl.ErrLimit},
		{long, nil, none, impl.ErrLimit},
		{with(with(long, 1, 0, -maxFinite), 2, 1, -1), nil, none, impl.ErrLimit},
		{with(long, 2, 0, maxFinite), nil, none, impl.ErrLimit},
		{with(long, 2, 1, 0), []int64{0, maxFinite, maxFinite}, ratio(0, 1), impl.ErrNone},
		{[][]int64{{bottom, maxFinite}, {-maxFinite, bottom}}, []int64{0, -maxFinite}, ratio(0, 1), impl.ErrNone},
		{[][]int64{{bottom, maxFinite}, {-maxFinite + 1, bottom}}, nil, none, impl.ErrLimit},
		// Elsewhere a shifted entry or one of the star is no value.
		{back, []int64{bottom, bottom, 0}, ratio(0, 1), impl.ErrNone},
		{[][]int64{{maxFinite, -maxFinite}, {bottom, bottom}}, []int64{0, bottom}, ratio(maxFinite, 1), impl.ErrNone},
		{[][]int64{{0, bottom, bottom}, {maxFinite, bottom, bottom}, {bottom, -maxFinite, -maxFinite}}, []int64{0, maxFinite, 0}, ratio(0, 1), impl.ErrNone},
	}
	for _, c := range cases {
		checkEigen(t, c.a, c.x, c.mean, c.code)
		if c.code == impl.ErrNone {
			checkVector(t, c.a, c.mean, c.x, true, true)
		}
	}
}

// plainColumn is the column of a node in the star of a shifted matrix without a positive cycle.
func plainColumn(shifted [][]int64, node int64) []int64 {
	star := plainSum(plainPowers(shifted), unitOf(len(shifted)))
	column := make([]int64, len(star))
	for i := range column {
		column[i] = star[i][node]
	}
	return column
}

func TestP05EigenVectorsFollowTheDefinition(t *testing.T) {
	random := newRandom(55)
	codes := map[int64]int{}
	for a := range manyGraphs(random, 1, 6, 10, someGraphs) {
		best, mean := plainBest(a)
		if mean == nil {
			checkEigen(t, a, nil, impl.Ratio{}, impl.ErrNotFound)
			codes[impl.ErrNotFound]++
			continue
		}
		want, code := wantRatio(mean)
		column := plainColumn(plainShift(a, mean.Num().Int64(), mean.Denom().Int64()), best[0])
		if code != impl.ErrNone || !allValues([][]int64{column}) {
			column, want, code = nil, impl.Ratio{}, impl.ErrLimit
		}
		checkEigen(t, a, column, want, code)
		codes[code]++
	}
	checkVaried(t, codes, map[int64]int{impl.ErrNone: 1000, impl.ErrNotFound: 50, impl.ErrLimit: 50})
}

// TestP05Guarantee is the promise: an eigenvector is told for the cycle mean, and every node has
// an upstream mean of at most the cycle mean.
func TestP05Guarantee(t *testing.T) {
	checkEach(t, manyGraphs(newRandom(56), 1, maxSize, 15, someGraphs), checkPromise, map[int64]int{impl.ErrNone: 1000, impl.ErrNotFound: 50, impl.ErrLimit: 500})
}

func checkPromise(t *testing.T, a [][]int64) int64 {
	t.Helper()
	what := " of " + impl.MatrixText(a)
	cycleMean, meanCode := impl.CycleMean(a)
	x, mean, code := impl.EigenVector(a)
	if code == impl.ErrNone {
		checkRatio(t, "EigenVector"+what, mean, code, cycleMean, meanCode)
		checkVector(t, a, mean, x, true, true)
	} else if meanCode != impl.ErrNone {
		checkEigen(t, a, nil, impl.Ratio{}, meanCode)
	} else {
		checkEigen(t, a, nil, impl.Ratio{}, impl.ErrLimit)
	}
	if meanCode != impl.ErrNone {
		return meanCode
	}
	reached := 0
	for node := range a {
		r, code := impl.UpstreamMean(a, int64(node))
		if code != impl.ErrNone {
			continue
		}
		order, _ := impl.CompareRatios(r, cycleMean)
		if order > 0 {
			t.Errorf("UpstreamMean of %d%s is %v, greater than %v", node, what, r, cycleMean)
		}
		if order == 0 {
			reached++
		}
	}
	best, _ := impl.BestCycle(a)
	if reached < len(best) {
		t.Errorf("only %d upstream means%s are the cycle mean", reached, what)
	}
	return code
}

func TestP05StretchMatrix(t *testing.T) {
	a := [][]int64{{bottom, 2}, {-3, 0}}
	all := filled(maxSize, maxSize, maxFinite)
	cases := []struct {
		a    [][]int64
		n    int64
		want [][]int64
		code int64
	}{
		{a, 1, a, impl.ErrNone},
		{a, 3, [][]int64{{bottom, 6}, {-9, 0}}, impl.ErrNone},
		{a, 333333, [][]int64{{bottom, 666666}, {-999999, 0}}, impl.ErrNone},
		{a, 333334, nil, impl.ErrLimit},
		{a, maxFinite, nil, impl.ErrLimit},
		{a, 0, nil, impl.ErrRange},
		{a, -1, nil, impl.ErrRange},
		{a, maxFinite + 1, nil, impl.ErrRange},
		{a, math.MaxInt64, nil, impl.ErrRange},
		{a, math.MinInt64, nil, impl.ErrRange},
		{a, bottom, nil, impl.ErrRange},
		{a, 1 << 32, nil, impl.ErrRange},
		{[][]int64{{1}}, maxFinite, [][]int64{{maxFinite}}, impl.ErrNone},
		{[][]int64{{-1}}, maxFinite, [][]int64{{-maxFinite}}, impl.ErrNone},
		{[][]int64{{1}}, maxFinite - 1, [][]int64{{maxFinite - 1}}, impl.ErrNone},
		{[][]int64{{2}}, maxFinite, nil, impl.ErrLimit},
		{[][]int64{{0}}, maxFinite, [][]int64{{0}}, impl.ErrNone},
		{[][]int64{{0}}, maxFinite + 1, nil, impl.ErrRange},
		{[][]int64{{bottom}}, maxFinite, [][]int64{{bottom}}, impl.ErrNone},
		{[][]int64{{bottom}}, 2, [][]int64{{bottom}}, impl.ErrNone},
		{[][]int64{{bottom}}, 0, nil, impl.ErrRange},
		{[][]int64{{500000, -500000}, {bottom, 1}}, 2, [][]int64{{maxFinite, -maxFinite}, {bottom, 2}}, impl.ErrNone},
		{[][]int64{{500001, 0}, {0, 0}}, 2, nil, impl.ErrLimit},
		{[][]int64{{0, 0}, {0, -500001}}, 2, nil, impl.ErrLimit},
		{all, 1, all, impl.ErrNone},
		{all, 2, nil, impl.ErrLimit},
		{all, maxFinite, nil, impl.ErrLimit},
		{filled(maxSize, maxSize, -maxFinite), 1, filled(maxSize, maxSize, -maxFinite), impl.ErrNone},
		{filled(maxSize, maxSize, -maxFinite), 2, nil, impl.ErrLimit},
		{filled(maxSize, maxSize, -maxFinite), maxFinite, nil, impl.ErrLimit},
		{filled(maxSize, maxSize, bottom), maxFinite, filled(maxSize, maxSize, bottom), impl.ErrNone},
		{with(filled(maxSize, maxSize, bottom), 9, 9, -11), 90909, with(filled(maxSize, maxSize, bottom), 9, 9, -999999), impl.ErrNone},
		{with(filled(maxSize, maxSize, bottom), 9, 9, -11), 90910, nil, impl.ErrLimit},
	}
	for _, c := range cases {
		b, code := impl.StretchMatrix(c.a, c.n)
		checkMatrix(t, "StretchMatrix of "+impl.MatrixText(c.a), b, code, c.want, c.code)
	}
}

func TestP05StretchesFollowTheDefinition(t *testing.T) {
	random := newRandom(57)
	for n := 1; n <= maxSize; n++ {
		for _, a := range someGraphs(random, n) {
			for _, factor := range []int64{1, 2, 3, 17, 999, random.Int64N(maxFinite) + 1} {
				want, wantCode := plainShift(a, 0, factor), int64(impl.ErrNone)
				if !allValues(want) {
					want, wantCode = nil, impl.ErrLimit
				}
				b, code := impl.StretchMatrix(a, factor)
				checkMatrix(t, "StretchMatrix of "+impl.MatrixText(a), b, code, want, wantCode)
			}
		}
	}
}

// A node that is none is told before a cycle that is missing or a mean that is no ratio.
func TestP05WrongNodes(t *testing.T) {
	for n := 1; n <= maxSize; n++ {
		for _, a := range [][][]int64{filled(n, n, bottom), filled(n, n, maxFinite), unitOf(n), with(filled(n, n, maxFinite), 0, n-1, maxFinite-1)} {
			for _, bad := range notNodes(n) {
				if bad >= 0 && bad < int64(n) {
					continue
				}
				for _, other := range append(notNodes(n), 0, int64(n-1)) {
					is, code := impl.CanReach(a, bad, other)
					checkAnswer(t, "CanReach from no node", is, code, false, impl.ErrRange)
					is, code = impl.CanReach(a, other, bad)
					checkAnswer(t, "CanReach to no node", is, code, false, impl.ErrRange)
				}
				r, code := impl.UpstreamMean(a, bad)
				checkRatio(t, "UpstreamMean of no node", r, code, impl.Ratio{}, impl.ErrRange)
			}
		}
	}
}

// TestP05InvalidArguments gives invalid graphs and ratios together with all that is checked after
// them.
func TestP05InvalidArguments(t *testing.T) {
	numbers := []int64{0, 1, 2, maxFinite, -1, maxSize, maxFinite + 1, math.MinInt64, math.MaxInt64}
	for _, bad := range notSquares() {
		for _, n := range numbers {
			for _, m := range numbers {
				is, code := impl.CanReach(bad, n, m)
				checkAnswer(t, "CanReach of no graph", is, code, false, impl.ErrInvalid)
			}
			r, code := impl.UpstreamMean(bad, n)
			checkRatio(t, "UpstreamMean of no graph", r, code, impl.Ratio{}, impl.ErrInvalid)
			b, code := impl.StretchMatrix(bad, n)
			checkMatrix(t, "StretchMatrix of no graph", b, code, nil, impl.ErrInvalid)
		}
		list, code := impl.ComponentsOf(bad)
		checkMatrix(t, "ComponentsOf of no graph", list, code, nil, impl.ErrInvalid)
		is, code := impl.IsIrreducible(bad)
		checkAnswer(t, "IsIrreducible of no graph", is, code, false, impl.ErrInvalid)
		checkEigen(t, bad, nil, impl.Ratio{}, impl.ErrInvalid)
		for _, r := range append(notRatios(), ratio(0, 1), ratio(maxFinite, 1)) {
			for _, x := range [][]int64{nil, {0}, {0, 0}, {0, 0, 0}, {bottom}, {math.MinInt64}, make([]int64, len(bad))} {
				checkVector(t, bad, r, x, false, false)
			}
		}
	}
	for _, bad := range notRatios() {
		for _, a := range [][][]int64{{{0}}, {{bottom}}, unitOf(2), filled(maxSize, maxSize, bottom)} {
			for _, x := range append(notVectors(), make([]int64, len(a))) {
				checkVector(t, a, bad, x, false, false)
			}
		}
	}
}

func TestP05ResultsShareNoMemory(t *testing.T) {
	before := [][]int64{{bottom, 2, bottom, 1}, {3, bottom, bottom, bottom}, {1, bottom, 2, bottom}, {bottom, bottom, bottom, bottom}}
	half := ratio(5, 2)
	calls := map[string]func(a [][]int64) ([][]int64, int64){
		"ComponentsOf":     impl.ComponentsOf,
		"StretchMatrix":    func(a [][]int64) ([][]int64, int64) { return impl.StretchMatrix(a, 7) },
		"StretchMatrix 1":  func(a [][]int64) ([][]int64, int64) { return impl.StretchMatrix(a, 1) },
		"UpstreamMean":     means(func(a [][]int64) (impl.Ratio, int64) { return impl.UpstreamMean(a, 2) }),
		"UpstreamMean all": means(func(a [][]int64) (impl.Ratio, int64) { return impl.UpstreamMean(a, 0) }),
		"IsEigenVector":    answers(func(a [][]int64) bool { return impl.IsEigenVector(a, half, []int64{0, 1, -3, bottom}) }),
		"IsSubEigen":       answers(func(a [][]int64) bool { return impl.IsSubEigen(a, half, []int64{0, 1, 0, bottom}) }),
		"CanReach": answers(func(a [][]int64) bool {
			is, _ := impl.CanReach(a, 3, 2)
			return is
		}),
		"IsIrreducible": answers(func(a [][]int64) bool {
			is, _ := impl.IsIrreducible(a)
			return !is
		}),
		"EigenVector": oneRow(func(a [][]int64) ([]int64, int64) {
			x, _, code := impl.EigenVector(a)
			return x, code
		}),
	}
	checkCalls(t, calls, before)
	checkCalls(t, map[string]func(rows [][]int64) ([][]int64, int64){
		"IsEigenVector of a list": answers(func(rows [][]int64) bool { return impl.IsEigenVector(before, half, rows[0]) }),
		"IsSubEigen of a list":    answers(func(rows [][]int64) bool { return impl.IsSubEigen(before, half, rows[1]) }),
	}, [][]int64{{0, 1, -3, bottom}, {0, 1, 0, bottom}})
}
