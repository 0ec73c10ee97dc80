package tests

import (
	"fmt"
	"iter"
	"math/rand/v2"
	"slices"
	"strings"
	"testing"

	"loop.example/g00941/impl"
)

const maxFirings = 50

// plainFirings raises times, from the starts on, until they satisfy all places. It knows no order of the
// events, and does not end for a graph that is not live and has delays.
func plainFirings(g impl.EventGraph, n int, starts []int64) [][]int64 {
	x := make([][]int64, n)
	for k := range x {
		x[k] = slices.Clone(starts)
	}
	for changed := true; changed; {
		changed = false
		for _, p := range g.Places {
			for k := int(p.Tokens); k < n; k++ {
				if ready := x[k-int(p.Tokens)][p.From] + p.Delay; x[k][p.To] < ready {
					x[k][p.To], changed = ready, true
				}
			}
		}
	}
	return x
}

func plainTimesOf(g impl.EventGraph, n int) [][]int64 {
	return plainFirings(g, n, zeros(int(g.Events)))
}

// satisfies reports whether no event fires before its start, or takes a token before it is ready.
func satisfies(g impl.EventGraph, starts []int64, x [][]int64) bool {
	for k := range x {
		for event, start := range starts {
			if x[k][event] < start {
				return false
			}
		}
		for _, p := range g.Places {
			if from := k - int(p.Tokens); from >= 0 && x[k][p.To] < x[from][p.From]+p.Delay {
				return false
			}
		}
	}
	return true
}

// recurrenceTable computes each time from the times that a table has, as the recurrence does.
func recurrenceTable(g impl.EventGraph, starts []int64, x [][]int64) [][]int64 {
	y := cloneRows(x)
	for k := range y {
		for event, start := range starts {
			y[k][event] = start
			for _, p := range g.Places {
				if from := k - int(p.Tokens); p.To == int64(event) && from >= 0 {
					y[k][event] = max(y[k][event], x[from][p.From]+p.Delay)
				}
			}
		}
	}
	return y
}

func isLivePlain(g impl.EventGraph) bool {
	return int64(len(plainOrder(leastTokens(g)))) == g.Events
}

// liveNets are those of manyNets that are live.
func liveNets(random *rand.Rand, times int) iter.Seq[impl.EventGraph] {
	return func(yield func(impl.EventGraph) bool) {
		for g := range manyNets(random, times) {
			if isLivePlain(g) && !yield(g) {
				return
			}
		}
	}
}

func checkTimes(t *testing.T, g impl.EventGraph, want [][]int64) {
	t.Helper()
	of := fmt.Sprint(" of ", plainGraphText(g), " for ", len(want))
	x, code := impl.FiringTimes(g, int64(len(want)))
	checkMatrix(t, "FiringTimes"+of, x, code, want, impl.ErrNone)
	x, code = impl.StartedTimes(g, int64(len(want)), zeros(int(g.Events)))
	checkMatrix(t, "StartedTimes"+of, x, code, want, impl.ErrNone)
	if !impl.IsFiringTable(g, want) {
		t.Errorf("IsFiringTable%s = false", of)
	}
}

// checkFirings looks at each time of a table, and at its beginnings.
func checkFirings(t *testing.T, g impl.EventGraph, want [][]int64) {
	t.Helper()
	for n := range len(want) + 1 {
		checkTimes(t, g, want[:n])
	}
	for k, row := range want {
		for event := range row {
			time, code := impl.FiringTime(g, int64(event), int64(k+1))
			checkNumber(t, fmt.Sprint("FiringTime of ", plainGraphText(g), " at ", event, " and ", k+1), time, code, row[event], impl.ErrNone)
		}
	}
}

func TestP13Constants(t *testing.T) {
	if impl.MaxFirings != maxFirings {
		t.Errorf("MaxFirings is %d", impl.MaxFirings)
	}
}

func TestP13FiringTimes(t *testing.T) {
	cases := []struct {
		text string
		want [][]int64
	}{
		{"1", nil},
		{"1", [][]int64{{0}}},
		{"1", [][]int64{{0}, {0}, {0}}},
		{"10", filled(4, maxEvents, 0)},
		{"1 0>0:3*1", [][]int64{{0}, {3}, {6}, {9}}},
		{"1 0>0:0*1", [][]int64{{0}, {0}, {0}}},
		// The first firings find the tokens at hand, however great the delay is.
		{"1 0>0:3*2", [][]int64{{0}, {0}, {3}, {3}, {6}}},
		{"1 0>0:1000*5", [][]int64{{0}, {0}, {0}, {0}, {0}, {1000}, {1000}}},
		{"2 0>1:5*0", [][]int64{{0, 5}, {0, 5}}},
		{"2 0>1:5*1", [][]int64{{0, 0}, {0, 5}, {0, 5}}},
		{"2 0>1:5*5", [][]int64{{0, 0}, {0, 0}, {0, 0}, {0, 0}, {0, 0}, {0, 5}}},
		{"2 1>0:5*0", [][]int64{{5, 0}, {5, 0}}},
		{"2 0>0:4*1 0>1:5*2", [][]int64{{0, 0}, {4, 0}, {8, 5}, {12, 9}}},
		{"2 0>0:4*1 0>1:0*0", [][]int64{{0, 0}, {4, 4}, {8, 8}}},
		// Of several places the one counts that is ready last, which may change.
		{"1 0>0:3*1 0>0:5*1", [][]int64{{0}, {5}, {10}}},
		{"1 0>0:5*1 0>0:3*1", [][]int64{{0}, {5}, {10}}},
		{"1 0>0:3*2 0>0:5*3", [][]int64{{0}, {0}, {3}, {5}, {6}, {8}, {10}, {11}}},
		{"2 0>1:5*0 0>1:9*0 0>1:7*0", [][]int64{{0, 9}, {0, 9}}},
		{"2 0>1:9*1 0>1:5*0", [][]int64{{0, 5}, {0, 9}, {0, 9}}},
		{"3 0>0:1*1 1>1:4*1 0>2:9*0 1>2:0*0", [][]int64{{0, 0, 9}, {1, 4, 10}, {2, 8, 11}, {3, 12, 12}, {4, 16, 16}}},
		{"2 0>1:5*0 1>0:2*1 0>0:3*1", [][]int64{{0, 5}, {7, 12}, {14, 19}}},
		{"2 0>1:5*0 1>0:2*2 0>0:3*1", [][]int64{{0, 5}, {3, 8}, {7, 12}, {10, 15}}},
		// The events are not taken in the order of their numbers.
		{"3 2>1:4*0 1>0:3*0 0>2:2*1", [][]int64{{7, 4, 0}, {16, 13, 9}, {25, 22, 18}}},
		{"3 1>0:4*0 2>0:6*0 1>2:3*0 0>1:1*1", [][]int64{{9, 0, 3}, {19, 10, 13}}},
		{line(upTo(maxEvents), 0), [][]int64{curve(maxEvents, func(i int64) int64 { return 7 * i }), curve(maxEvents, func(i int64) int64 { return 7 * i })}},
		{line(down(maxEvents), 0), [][]int64{curve(maxEvents, func(i int64) int64 { return 63 - 7*i })}},
		{line(upTo(maxEvents), 1), [][]int64{zeros(maxEvents), curve(maxEvents, func(i int64) int64 { return min(7*i, 7) }), curve(maxEvents, func(i int64) int64 { return min(7*i, 14) })}},
		{"1" + strings.Repeat(" 0>0:6*1 0>0:8*2", maxPlaces/2), [][]int64{{0}, {6}, {12}, {18}}},
		{"1" + strings.Repeat(" 0>0:6*2", maxPlaces-1) + " 0>0:7*1", [][]int64{{0}, {7}, {14}}},
	}
	for _, c := range cases {
		checkFirings(t, graphOf(t, c.text), c.want)
	}
}

// The greatest times that there can be, and the least ones, for as many firings as there can be.
func TestP13FiringTimesOfManyFirings(t *testing.T) {
	around := strings.ReplaceAll(line(upTo(maxEvents), 0), ":7", ":1000") + " 9>0:1000*1"
	back := strings.ReplaceAll(line(down(maxEvents), 0), ":7", ":1000") + " 0>9:1000*5"
	cases := []struct {
		text string
		time func(k, event int64) int64 // k counts from 0
	}{
		{"1", func(k, event int64) int64 { return 0 }},
		{"10", func(k, event int64) int64 { return 0 }},
		{"1 0>0:1000*1", func(k, event int64) int64 { return 1000 * k }},
		{"1 0>0:7*5", func(k, event int64) int64 { return k / 5 * 7 }},
		{"3 0>0:9*4 1>1:9*1 2>2:9*2", func(k, event int64) int64 { return k / []int64{4, 1, 2}[event] * 9 }},
		{around, func(k, event int64) int64 { return 10000*k + 1000*event }},
		{back, func(k, event int64) int64 { return k/5*10000 + 1000*(9-event) }},
		{strings.ReplaceAll(around, "1000", "0"), func(k, event int64) int64 { return 0 }},
		{around + strings.Repeat(" 9>0:999*1", maxPlaces-10), func(k, event int64) int64 { return 10000*k + 1000*event }},
	}
	for _, c := range cases {
		g := graphOf(t, c.text)
		var want [][]int64
		for k := range int64(maxFirings) {
			want = append(want, curve(g.Events, func(event int64) int64 { return c.time(k, event) }))
		}
		checkFirings(t, g, want)
	}
}

func TestP13StartedTimes(t *testing.T) {
	top := int64(maxFinite)
	ringed := "2 0>1:5*0 1>0:2*1 0>0:3*1"
	cases := []struct {
		text   string
		n      int64
		starts []int64
		want   [][]int64
		code   int64
	}{
		{ringed, 2, []int64{0, 9}, [][]int64{{0, 9}, {11, 16}}, impl.ErrNone},
		{ringed, 2, []int64{0, 0}, [][]int64{{0, 5}, {7, 12}}, impl.ErrNone},
		{ringed, 2, []int64{0, 5}, [][]int64{{0, 5}, {7, 12}}, impl.ErrNone},
		{ringed, 2, []int64{0, 6}, [][]int64{{0, 6}, {8, 13}}, impl.ErrNone},
		{ringed, 3, []int64{10, 0}, [][]int64{{10, 15}, {17, 22}, {24, 29}}, impl.ErrNone},
		{ringed, 0, []int64{4, 4}, nil, impl.ErrNone},
		{"1", 1, []int64{0}, [][]int64{{0}}, impl.ErrNone},
		{"1", 3, []int64{top}, [][]int64{{top}, {top}, {top}}, impl.ErrNone},
		{"3", 2, []int64{5, 0, top}, [][]int64{{5, 0, top}, {5, 0, top}}, impl.ErrNone},
		// A start holds for each firing, but is waited for only until it is reached.
		{"1 0>0:3*1", 4, []int64{1}, [][]int64{{1}, {4}, {7}, {10}}, impl.ErrNone},
		{"2 0>0:3*1 0>1:1*0", 5, []int64{0, 8}, [][]int64{{0, 8}, {3, 8}, {6, 8}, {9, 10}, {12, 13}}, impl.ErrNone},
		{"1 0>0:3*2", 4, []int64{2}, [][]int64{{2}, {2}, {5}, {5}}, impl.ErrNone},
		{"2 1>0:4*0", 2, []int64{3, 2}, [][]int64{{6, 2}, {6, 2}}, impl.ErrNone},
		{"2 1>0:4*0", 2, []int64{3, 0}, [][]int64{{4, 0}, {4, 0}}, impl.ErrNone},
		{"2 1>0:4*1", 2, []int64{3, 2}, [][]int64{{3, 2}, {6, 2}}, impl.ErrNone},
		// Times that are not finite, of the first or only of a later firing.
		{"2 0>1:1*0", 1, []int64{top, 0}, nil, impl.ErrLimit},
		{"2 0>1:1*0", 1, []int64{top - 1, 0}, [][]int64{{top - 1, top}}, impl.ErrNone},
		{"2 0>1:1*0", 0, []int64{top, 0}, nil, impl.ErrNone},
		{"2 0>1:0*0", 1, []int64{top, 0}, [][]int64{{top, top}}, impl.ErrNone},
		{"2 0>1:1*0", 1, []int64{0, top}, [][]int64{{0, top}}, impl.ErrNone},
		{"2 1>0:1*0", 1, []int64{0, top}, nil, impl.ErrLimit},
		{"2 0>1:1*1", 1, []int64{top, 0}, [][]int64{{top, 0}}, impl.ErrNone},
		{"2 0>1:1*1", 2, []int64{top, 0}, nil, impl.ErrLimit},
		{"1 0>0:1*1", 3, []int64{top - 2}, [][]int64{{top - 2}, {top - 1}, {top}}, impl.ErrNone},
		{"1 0>0:1*1", 4, []int64{top - 2}, nil, impl.ErrLimit},
		{"1 0>0:1000*5", 5, []int64{top}, filled(5, 1, top), impl.ErrNone},
		{"1 0>0:1000*5", 6, []int64{top}, nil, impl.ErrLimit},
		{"1 0>0:1000*1", maxFirings, []int64{top - 49000}, arithmeticColumn(top-49000, 1000, maxFirings), impl.ErrNone},
		{"1 0>0:1000*1", maxFirings, []int64{top - 48999}, nil, impl.ErrLimit},
		{"10", 1, constant(maxEvents, top), [][]int64{constant(maxEvents, top)}, impl.ErrNone},
	}
	for _, c := range cases {
		g := graphOf(t, c.text)
		x, code := impl.StartedTimes(g, c.n, c.starts)
		checkMatrix(t, fmt.Sprint("StartedTimes of ", c.text, ", ", c.n, " and ", c.starts), x, code, c.want, c.code)
	}
}

// arithmeticColumn is a table of one event whose times have the same difference.
func arithmeticColumn(first, difference, n int64) [][]int64 {
	return columnOf(curve(n, func(k int64) int64 { return first + difference*k }))
}

// checkStarted returns the code of StartedTimes.
func checkStarted(t *testing.T, g impl.EventGraph, n int, starts []int64) int64 {
	t.Helper()
	want, wantCode := plainFirings(g, n, starts), int64(impl.ErrNone)
	for _, row := range want {
		if slices.Max(row) > maxFinite {
			want, wantCode = nil, impl.ErrLimit
			break
		}
	}
	x, code := impl.StartedTimes(g, int64(n), starts)
	checkMatrix(t, fmt.Sprint("StartedTimes of ", plainGraphText(g), ", ", n, " and ", starts), x, code, want, wantCode)
	return code
}

func TestP13StartedTimesFollowTheDefinition(t *testing.T) {
	random := newRandom(131)
	codes := map[int64]int{}
	for g := range liveNets(random, 25) {
		events := int(g.Events)
		for _, n := range []int{0, 1, 2, random.IntN(maxFirings), maxFirings} {
			for _, limit := range []int64{1, 10, 5000, maxFinite} {
				codes[checkStarted(t, g, n, curve(g.Events, func(int64) int64 { return random.Int64N(limit + 1) }))]++
				codes[checkStarted(t, g, n, curve(g.Events, func(int64) int64 { return maxFinite - random.Int64N(limit+1) }))]++
			}
			// One event starts later than all others.
			starts := zeros(events)
			starts[random.IntN(events)] = random.Int64N(maxFinite + 1)
			codes[checkStarted(t, g, n, starts)]++
		}
	}
	checkVaried(t, codes, map[int64]int{impl.ErrNone: 5000, impl.ErrLimit: 5000})
}

// If all starts are later by the same time, so are all firings.
func TestP13StartsShiftTimes(t *testing.T) {
	for g := range liveNets(newRandom(132), 5) {
		n := int64(1 + len(g.Places)%maxFirings)
		early, code := impl.StartedTimes(g, n, zeros(int(g.Events)))
		late, lateCode := impl.StartedTimes(g, n, constant(int(g.Events), 777))
		for k := range early {
			for event := range early[k] {
				early[k][event] += 777
			}
		}
		checkMatrix(t, "StartedTimes of later starts of "+plainGraphText(g), late, lateCode, early, code)
	}
}

// plainDelays is the delay matrix by the definition.
func plainDelays(g impl.EventGraph, m int64) [][]int64 {
	a := filled(int(g.Events), int(g.Events), bottom)
	for i := range a {
		for j := range a {
			for _, p := range g.Places {
				if p == place(int64(j), int64(i), p.Delay, m) && (a[i][j] == bottom || p.Delay > a[i][j]) {
					a[i][j] = p.Delay
				}
			}
		}
	}
	return a
}

// plainClosed multiplies with the sum of all powers that differ from Bottom.
func plainClosed(g impl.EventGraph, m int64) [][]int64 {
	star := plainSum(unitOf(int(g.Events)), plainPowers(plainDelays(g, 0)))
	closed, _ := plainProduct(star, plainDelays(g, m))
	return closed
}

// plainState joins the closed matrices, and is nil if there are too many rows.
func plainState(g impl.EventGraph) [][]int64 {
	blocks := int64(1)
	for _, p := range g.Places {
		blocks = max(blocks, p.Tokens)
	}
	events := int(g.Events)
	size := events * int(blocks)
	if size > maxSize {
		return nil
	}
	a := make([][]int64, events)
	for m := int64(1); m <= blocks; m++ {
		for i, row := range plainClosed(g, m) {
			a[i] = append(a[i], row...)
		}
	}
	for i := range size - events {
		row := bottoms(size)
		row[i] = 0
		a = append(a, row)
	}
	return a
}

func checkText(t *testing.T, what string, a [][]int64, code int64, want string, wantCode int64) {
	t.Helper()
	if s := impl.MatrixText(a); s != want || code != wantCode || code != impl.ErrNone && len(a) != 0 {
		t.Errorf("%s = %v, %d, want %q, %d", what, a, code, want, wantCode)
	}
}

func TestP13DelayMatrix(t *testing.T) {
	mixed := "2 0>1:5*0 1>0:2*2 0>0:3*1 0>1:1000*5 1>1:0*4"
	several := "2 0>1:5*1 0>1:9*1 0>1:7*1 0>1:1*2 0>1:0*2 1>0:2*3 1>0:3*3"
	cases := []struct {
		text string
		m    int64
		want string
	}{
		{"1", 0, "."},
		{"1", 5, "."},
		{"1 0>0:7*0", 0, "7"},
		{"1 0>0:7*0", 1, "."},
		{"1 0>0:0*5", 5, "0"},
		{"1 0>0:0*5", 4, "."},
		{mixed, 0, ".,.;5,."},
		{mixed, 1, "3,.;.,."},
		{mixed, 2, ".,2;.,."},
		{mixed, 3, ".,.;.,."},
		{mixed, 4, ".,.;.,0"},
		{mixed, 5, ".,.;1000,."},
		// The greatest delay counts, wherever it stands.
		{several, 0, ".,.;.,."},
		{several, 1, ".,.;9,."},
		{several, 2, ".,.;1,."},
		{several, 3, ".,3;.,."},
		// A graph that is not live has its delays as well.
		{"1 0>0:0*0", 0, "0"},
		{"2 0>1:3*0 1>0:4*0", 0, ".,4;3,."},
		{"2 0>1:3*0 1>0:4*0 1>0:8*1", 1, ".,8;.,."},
		{"3 0>2:1*3 2>1:2*3 1>1:6*3", 3, ".,.,.;.,6,2;1,.,."},
		{"1" + strings.Repeat(" 0>0:7*3", maxPlaces-1) + " 0>0:8*3", 3, "8"},
		{"1 0>0:8*3" + strings.Repeat(" 0>0:7*3", maxPlaces-1), 3, "8"},
	}
	for _, c := range cases {
		a, code := impl.DelayMatrix(graphOf(t, c.text), c.m)
		checkText(t, fmt.Sprint("DelayMatrix of ", c.text, " and ", c.m), a, code, c.want, impl.ErrNone)
	}
}

func TestP13ClosedMatrix(t *testing.T) {
	mixed := "2 0>1:5*0 1>0:2*2 0>0:3*1"
	ways := "3 0>1:4*0 1>2:3*0 0>2:8*0 2>0:1*1 1>1:6*5"
	cases := []struct {
		text string
		m    int64
		want string
	}{
		{"1", 1, "."},
		{"1", 5, "."},
		{"1 0>0:7*1", 1, "7"},
		{"1 0>0:7*1", 2, "."},
		{"1 0>0:0*5", 5, "0"},
		{"1 0>0:1000*5 0>0:999*5", 5, "1000"},
		{mixed, 1, "3,.;8,."},
		{mixed, 2, ".,2;.,7"},
		{mixed, 3, ".,.;.,."},
		{"2 0>1:5*0", 1, ".,.;.,."},
		{"2 0>1:5*0 1>1:2*1", 1, ".,.;.,2"},
		// The ways behind the place count, not those before it.
		{"3 0>1:5*0 1>2:7*1", 1, ".,.,.;.,.,.;.,7,."},
		{"3 0>1:5*1 1>2:7*0", 1, ".,.,.;5,.,.;12,.,."},
		{ways, 1, ".,.,1;.,.,5;.,.,9"},
		{strings.Replace(ways, "0>2:8", "0>2:6", 1), 1, ".,.,1;.,.,5;.,.,8"},
		{ways, 5, ".,.,.;.,6,.;.,9,."},
		{ways, 4, ".,.,.;.,.,.;.,.,."},
	}
	for _, c := range cases {
		a, code := impl.ClosedMatrix(graphOf(t, c.text), c.m)
		checkText(t, fmt.Sprint("ClosedMatrix of ", c.text, " and ", c.m), a, code, c.want, impl.ErrNone)
	}
	// The greatest entry comes from ten places.
	a, code := impl.ClosedMatrix(graphOf(t, strings.ReplaceAll(line(upTo(maxEvents), 0), ":7", ":1000")+" 9>0:1000*5"), 5)
	want := filled(maxEvents, maxEvents, bottom)
	for i := range want {
		want[i][9] = 1000 * int64(i+1)
	}
	checkMatrix(t, "ClosedMatrix of ten events", a, code, want, impl.ErrNone)
}

func TestP13StateMatrix(t *testing.T) {
	cases := []struct {
		text, want string
	}{
		{"1", "."},
		{"2", ".,.;.,."},
		{"2 0>1:5*0", ".,.;.,."},
		{"1 0>0:3*1", "3"},
		{"1 0>0:3*2", ".,3;0,."},
		{"1 0>0:3*1 0>0:4*2", "3,4;0,."},
		{"1 0>0:3*5", ".,.,.,.,3;0,.,.,.,.;.,0,.,.,.;.,.,0,.,.;.,.,.,0,."},
		{"1 0>0:3*4 0>0:2*2 0>0:1*1", "1,2,.,3;0,.,.,.;.,0,.,.;.,.,0,."},
		{"2 0>1:5*0 1>0:2*1", ".,2;.,7"},
		{"2 0>1:5*0 1>0:2*1 0>0:3*1", "3,2;8,7"},
		{"2 0>1:5*0 1>0:2*2 0>0:3*1", "3,.,.,2;8,.,.,7;0,.,.,.;.,0,.,."},
		{"2 0>1:5*0 1>0:2*2", ".,.,.,2;.,.,.,7;0,.,.,.;.,0,.,."},
		{"3 2>1:4*3 1>0:1*0", ".,.,.,.,.,.,.,.,5;.,.,.,.,.,.,.,.,4;.,.,.,.,.,.,.,.,.;0,.,.,.,.,.,.,.,.;.,0,.,.,.,.,.,.,.;.,.,0,.,.,.,.,.,.;.,.,.,0,.,.,.,.,.;.,.,.,.,0,.,.,.,.;.,.,.,.,.,0,.,.,."},
	}
	for _, c := range cases {
		a, code := impl.StateMatrix(graphOf(t, c.text))
		checkText(t, "StateMatrix of "+c.text, a, code, c.want, impl.ErrNone)
	}
}

// Up to MaxSize rows there is a state matrix, whatever they are made of.
func TestP13StateMatrixSizes(t *testing.T) {
	for events := int64(1); events <= maxEvents; events++ {
		for tokens := int64(1); tokens <= maxTokens; tokens++ {
			g := eventGraph(events, place(0, events-1, 3, 1), place(events-1, 0, 4, tokens), place(0, 0, 2, 1))
			want, wantCode := plainState(g), int64(impl.ErrNone)
			if events*tokens > maxSize {
				wantCode = impl.ErrLimit
			}
			a, code := impl.StateMatrix(g)
			checkMatrix(t, "StateMatrix of "+plainGraphText(g), a, code, want, wantCode)
			if code == impl.ErrNone && int64(len(a)) != events*tokens {
				t.Errorf("StateMatrix of %v has %d rows", g, len(a))
			}
		}
		for _, g := range []impl.EventGraph{eventGraph(events), eventGraph(events, place(events-1, 0, 4, 1))} {
			a, code := impl.StateMatrix(g)
			checkMatrix(t, "StateMatrix of "+plainGraphText(g), a, code, plainState(g), impl.ErrNone)
		}
	}
}

// fewTokens lets no place have more than some tokens.
func fewTokens(g impl.EventGraph, tokens int64) impl.EventGraph {
	h := copyGraph(g)
	for i, p := range h.Places {
		h.Places[i].Tokens = min(p.Tokens, tokens)
	}
	return h
}

func TestP13MatricesFollowTheDefinition(t *testing.T) {
	codes := map[int64]int{}
	for g := range manyNets(newRandom(133), 12) {
		of := " of " + plainGraphText(g)
		live := isLivePlain(g)
		for m := range int64(maxTokens + 1) {
			a, code := impl.DelayMatrix(g, m)
			checkMatrix(t, fmt.Sprint("DelayMatrix", of, " and ", m), a, code, plainDelays(g, m), impl.ErrNone)
			if live && m > 0 {
				a, code = impl.ClosedMatrix(g, m)
				checkMatrix(t, fmt.Sprint("ClosedMatrix", of, " and ", m), a, code, plainClosed(g, m), impl.ErrNone)
			}
		}
		for tokens := int64(1); live && tokens <= maxTokens; tokens++ {
			h := fewTokens(g, tokens)
			want, wantCode := plainState(h), int64(impl.ErrNone)
			if want == nil {
				wantCode = impl.ErrLimit
			}
			a, code := impl.StateMatrix(h)
			checkMatrix(t, "StateMatrix of "+plainGraphText(h), a, code, want, wantCode)
			codes[code]++
		}
	}
	checkVaried(t, codes, map[int64]int{impl.ErrNone: 500, impl.ErrLimit: 500})
}

// The state matrix leads from the last times to the next ones, once no first token is left. What the
// first firing waits for, without any tokens, each one waits for.
func TestP13StateMatrixGivesTimes(t *testing.T) {
	found := map[int]int{}
	for g := range liveNets(newRandom(134), 30) {
		a, code := impl.StateMatrix(g)
		if code != impl.ErrNone {
			continue
		}
		x, _ := impl.FiringTimes(g, 20)
		blocks := len(a) / int(g.Events)
		for k := blocks; k < len(x); k++ {
			var state []int64
			for m := 1; m <= blocks; m++ {
				state = append(state, x[k-m]...)
			}
			next := plainMax(plainTimes(a, state)[:g.Events], x[0])
			checkList(t, fmt.Sprint("the times ", k+1, " of ", plainGraphText(g)), next, impl.ErrNone, x[k], impl.ErrNone)
		}
		found[blocks]++
	}
	for blocks := 1; blocks <= maxTokens; blocks++ {
		if found[blocks] < 15 {
			t.Errorf("the graphs are too much alike: %v", found)
		}
	}
}

// eachUpTo calls try with every list whose elements are at most those of another one.
func eachUpTo(limits []int64, try func(list []int64)) {
	list := make([]int64, len(limits))
	var set func(k int)
	set = func(k int) {
		if k == len(limits) {
			try(list)
			return
		}
		for n := range limits[k] + 1 {
			list[k] = n
			set(k + 1)
		}
	}
	set(0)
}

// checkLeast compares a table with all smaller ones, and with those that are greater by one somewhere.
func checkLeast(t *testing.T, g impl.EventGraph, starts []int64, x [][]int64) {
	t.Helper()
	if !satisfies(g, starts, x) {
		t.Errorf("the times %v with the starts %v do not satisfy %v", x, starts, g)
	}
	least := slices.Concat(x...)
	limits := slices.Clone(least)
	for i := range limits {
		limits[i]++
	}
	eachUpTo(limits, func(list []int64) {
		rows := slices.Collect(slices.Chunk(list, int(g.Events)))
		isAbove := true
		for i, time := range list {
			isAbove = isAbove && time >= least[i]
		}
		if !isAbove && satisfies(g, starts, rows) {
			t.Fatalf("the times %v with the starts %v satisfy %v, which are not greater than %v", rows, starts, g, x)
		}
	})
}

func TestP13AllSmallerTimes(t *testing.T) {
	sizes := []struct {
		events, tokens int
		n              int64
	}{{1, maxTokens, 6}, {2, 2, 3}, {2, 3, 2}, {3, 0, 2}}
	for _, size := range sizes {
		count := 0
		for g := range smallGraphs(size.events, size.tokens) {
			// The delays are the indices of pairs, of which great ones would make too many tables.
			for i, p := range g.Places {
				g.Places[i].Delay = []int64{1, 2, 0, 3, 1, 0, 0, 2, 1}[p.Delay]
			}
			if !isLivePlain(g) {
				continue
			}
			x, code := impl.FiringTimes(g, size.n)
			checkMatrix(t, "FiringTimes of "+plainGraphText(g), x, code, plainTimesOf(g, int(size.n)), impl.ErrNone)
			checkLeast(t, g, zeros(size.events), x)
			starts := curve(int64(size.events), func(i int64) int64 { return (i + int64(count)) % 3 })
			x, code = impl.StartedTimes(g, size.n, starts)
			checkMatrix(t, "StartedTimes of "+plainGraphText(g), x, code, plainFirings(g, int(size.n), starts), impl.ErrNone)
			checkLeast(t, g, starts, x)
			count++
		}
		if count < 5 {
			t.Errorf("only %d graphs of %d events are live", count, size.events)
		}
	}
}

// checkPromised looks at times without computing them: each one is told by the recurrence from the others, which
// makes them the least ones, and none falls.
func checkPromised(t *testing.T, g impl.EventGraph, starts []int64, x [][]int64) {
	t.Helper()
	if !satisfies(g, starts, x) || !equalRows(recurrenceTable(g, starts, x), x) {
		t.Errorf("the times %v with the starts %v do not follow the recurrence of %v", x, starts, g)
	}
	for k := 1; k < len(x); k++ {
		for event, time := range x[k] {
			if time < x[k-1][event] {
				t.Errorf("the times %v of %v fall", x, g)
			}
		}
	}
}

func TestP13Promise(t *testing.T) {
	random := newRandom(135)
	waiting := 0
	for g := range liveNets(random, 40) {
		x, code := impl.FiringTimes(g, maxFirings)
		if code != impl.ErrNone || len(x) != maxFirings {
			t.Fatalf("FiringTimes of %v = %v, %d", g, x, code)
		}
		checkPromised(t, g, zeros(int(g.Events)), x)
		starts := curve(g.Events, func(int64) int64 { return random.Int64N(3000) })
		y, code := impl.StartedTimes(g, maxFirings, starts)
		if code != impl.ErrNone || len(y) != maxFirings {
			t.Fatalf("StartedTimes of %v = %v, %d", g, y, code)
		}
		checkPromised(t, g, starts, y)
		for k := range x {
			if !equalRows(plainSum(x[k:k+1], y[k:k+1]), y[k:k+1]) {
				t.Errorf("StartedTimes of %v and %v are less than FiringTimes", g, starts)
			}
		}
		if x[maxFirings-1][0] > 0 {
			waiting++
		}
	}
	if waiting < 300 {
		t.Errorf("only %d graphs let their events wait", waiting)
	}
}

func TestP13FiringTimesFollowTheDefinition(t *testing.T) {
	random := newRandom(136)
	for g := range liveNets(random, 12) {
		x := plainTimesOf(g, maxFirings)
		for _, n := range []int{0, 1, 2, random.IntN(maxFirings), maxFirings} {
			checkTimes(t, g, x[:n])
		}
		for range 5 {
			k, event := random.Int64N(maxFirings), random.Int64N(g.Events)
			time, code := impl.FiringTime(g, event, k+1)
			checkNumber(t, fmt.Sprint("FiringTime of ", plainGraphText(g), " at ", event, " and ", k+1), time, code, x[k][event], impl.ErrNone)
		}
		// Neither the order of the places nor the smaller delays beside greater ones matter.
		random.Shuffle(len(g.Places), func(i, j int) { g.Places[i], g.Places[j] = g.Places[j], g.Places[i] })
		checkTimes(t, g, x)
		simple, _ := impl.SimplifyGraph(g)
		checkTimes(t, simple, x)
	}
}

// checkNoTable looks at a table that is not that of the firing times.
func checkNoTable(t *testing.T, g impl.EventGraph, table [][]int64) {
	t.Helper()
	if impl.IsFiringTable(g, table) {
		t.Errorf("IsFiringTable of %v and %v = true", plainGraphText(g), table)
	}
}

func TestP13IsFiringTable(t *testing.T) {
	random := newRandom(137)
	texts := []string{"1", "1 0>0:3*1", "2 0>1:5*0 1>0:2*1 0>0:3*1", "3 2>1:4*0 1>0:3*0 0>2:2*1", "10 0>9:3*2 9>0:0*1", line(down(maxEvents), 0) + " 0>9:1*5"}
	for _, text := range texts {
		g := graphOf(t, text)
		if !impl.IsFiringTable(g, nil) || !impl.IsFiringTable(g, [][]int64{}) {
			t.Errorf("IsFiringTable of %s without rows = false", text)
		}
		for _, n := range []int{1, 2, 3, maxFirings - 1, maxFirings} {
			table := plainTimesOf(g, n)
			if !impl.IsFiringTable(g, table) {
				t.Errorf("IsFiringTable of %s with %d rows = false", text, n)
			}
			for k := range table {
				for event, time := range table[k] {
					for _, other := range []int64{time + 1, time - 1, -time - 1, time + 1<<32, bottom} {
						checkNoTable(t, g, with(table, k, event, other))
					}
				}
				for _, row := range [][]int64{nil, {}, table[k][1:], table[k][:g.Events-1], append(slices.Clone(table[k]), 0), append(slices.Clone(table[k]), table[k][0]), append([]int64{0}, table[k]...)} {
					other := cloneRows(table)
					other[k] = row
					checkNoTable(t, g, other)
				}
			}
			// One row more, which is no list of times.
			checkNoTable(t, g, append(cloneRows(table), nil))
			checkNoTable(t, g, append([][]int64{nil}, table...))
		}
		// The next rows follow from the rule, but there are too many of them.
		for _, n := range []int{maxFirings + 1, maxFirings + 2, 300} {
			checkNoTable(t, g, plainTimesOf(g, n))
		}
		checkNoTable(t, g, filled(maxFirings+1, int(g.Events), 0))
	}
	// Rows that change places.
	g := graphOf(t, "2 0>0:3*1 0>1:1*0")
	checkNoTable(t, g, [][]int64{{3, 4}, {0, 1}})
	checkNoTable(t, g, [][]int64{{1, 0}, {4, 3}})
	checkNoTable(t, g, [][]int64{{3, 4}, {6, 7}})
	checkNoTable(t, g, [][]int64{{0, 1}, {3, 4}, {3, 4}})
	for g := range liveNets(random, 5) {
		table := plainTimesOf(g, 1+random.IntN(maxFirings))
		k, event := random.IntN(len(table)), random.IntN(int(g.Events))
		checkNoTable(t, g, with(table, k, event, table[k][event]+1-2*random.Int64N(2)))
	}
}

// A table that satisfies all places is not enough, if a time could be less.
func TestP13IsFiringTableOfLaterTimes(t *testing.T) {
	for g := range liveNets(newRandom(138), 3) {
		starts := zeros(int(g.Events))
		starts[0] = 100000
		x, code := impl.StartedTimes(g, 5, starts)
		if code != impl.ErrNone || !satisfies(g, zeros(int(g.Events)), x) {
			t.Errorf("StartedTimes of %v = %v, %d", g, x, code)
		}
		checkNoTable(t, g, x)
	}
}

// plainHolding lays the tokens of each place in a line, and takes them one by one.
func plainHolding(g impl.EventGraph, n int) []int64 {
	x := plainTimesOf(g, n)
	var holdings []int64
	for _, p := range g.Places {
		var ready []int64
		for range p.Tokens {
			ready = append(ready, -1) // a first token
		}
		for k := range x {
			ready = append(ready, x[k][p.From]+p.Delay)
		}
		longest := int64(-1)
		for k := range x {
			if ready[k] >= 0 {
				longest = max(longest, x[k][p.To]-ready[k])
			}
		}
		holdings = append(holdings, longest)
	}
	return holdings
}

func TestP13HoldingOf(t *testing.T) {
	ringed := "2 0>1:5*0 1>0:2*1 0>0:3*1"
	// The event 2 holds back the first firings of 1, and 0 fires more slowly later on.
	eased := "3 0>1:4*0 2>1:24*0 0>0:9*1"
	cases := []struct {
		text string
		n    int64
		want []int64
	}{
		{"1", 0, nil},
		{"1", maxFirings, nil},
		{ringed, 0, []int64{-1, -1, -1}},
		{ringed, 1, []int64{0, -1, -1}},
		{ringed, 2, []int64{0, 0, 4}},
		{ringed, 3, []int64{0, 0, 4}},
		{"1 0>0:3*1", 1, []int64{-1}},
		{"1 0>0:3*1", 2, []int64{0}},
		{"1 0>0:3*1", maxFirings, []int64{0}},
		// From an event to itself.
		{"1 0>0:3*1 0>0:5*1", 4, []int64{2, 0}},
		{"1 0>0:3*2 0>0:5*1", 2, []int64{-1, 0}},
		{"1 0>0:3*2 0>0:5*1", 3, []int64{7, 0}},
		{"1 0>0:0*5 0>0:5*1", 5, []int64{-1, 0}},
		{"1 0>0:0*5 0>0:5*1", 6, []int64{25, 0}},
		// None of the tokens of a place is taken, as its first ones are enough.
		{"2 0>1:5*5", 5, []int64{-1}},
		{"2 0>1:5*5", 6, []int64{0}},
		{"2 0>1:5*5 0>1:5*4", 5, []int64{-1, 0}},
		{"2 0>1:5*1", 1, []int64{-1}},
		{"2 0>1:5*0", 1, []int64{0}},
		// Tokens wait.
		{"2 0>1:5*0 0>1:9*0", 1, []int64{4, 0}},
		{"3 0>2:5*0 1>2:9*0", 2, []int64{4, 0}},
		{"3 0>2:5*1 1>2:9*0", 2, []int64{4, 0}},
		{"3 0>2:5*1 1>2:9*0", 1, []int64{-1, 0}},
		// Longer and longer, or shorter and shorter.
		{"2 0>1:0*0 1>1:9*1 0>0:1*1", 1, []int64{0, -1, -1}},
		{"2 0>1:0*0 1>1:9*1 0>0:1*1", 2, []int64{8, 0, 0}},
		{"2 0>1:0*0 1>1:9*1 0>0:1*1", maxFirings, []int64{392, 0, 0}},
		{"2 0>1:0*0 1>1:1000*1 0>0:0*1", maxFirings, []int64{49000, 0, 0}},
		{eased, 1, []int64{20, 0, -1}},
		{eased, 4, []int64{20, 7, 0}},
		{eased, 5, []int64{20, 16, 0}},
		{"2" + strings.Repeat(" 0>1:5*0", maxPlaces-1) + " 0>1:6*0", 1, append(constant(maxPlaces-1, 1), 0)},
	}
	for _, c := range cases {
		g := graphOf(t, c.text)
		list, code := impl.HoldingOf(g, c.n)
		checkList(t, fmt.Sprint("HoldingOf of ", c.text, " and ", c.n), list, code, c.want, impl.ErrNone)
		checkList(t, fmt.Sprint("the queues of ", c.text, " and ", c.n), plainHolding(g, int(c.n)), impl.ErrNone, c.want, impl.ErrNone)
	}
}

func TestP13HoldingFollowsTheDefinition(t *testing.T) {
	random := newRandom(139)
	found := map[string]int{}
	for g := range liveNets(random, 25) {
		for _, n := range []int{0, 1, 2, 1 + random.IntN(maxTokens+1), random.IntN(maxFirings), maxFirings} {
			list, code := impl.HoldingOf(g, int64(n))
			checkList(t, fmt.Sprint("HoldingOf of ", plainGraphText(g), " and ", n), list, code, plainHolding(g, n), impl.ErrNone)
			for i, holding := range list {
				p := g.Places[i]
				if holding < 0 != (p.Tokens >= int64(n)) {
					t.Errorf("HoldingOf of %v and %d = %v at %d", g, n, list, i)
				}
				found[fmt.Sprint(min(holding, 1), " ", p.From == p.To)]++
			}
		}
	}
	for _, what := range []string{"-1 true", "-1 false", "0 true", "0 false", "1 true", "1 false"} {
		if found[what] < 500 {
			t.Errorf("the places are too much alike: %v", found)
		}
	}
}

// rowsCall is a call with a graph, whose result is a table.
type rowsCall func(g impl.EventGraph) ([][]int64, int64)

// rowsOfList makes the list beside a code a table.
func rowsOfList(list []int64, code int64) ([][]int64, int64) {
	if len(list) == 0 {
		return nil, code
	}
	return [][]int64{list}, code
}

// rowsOfNumber is the same for a number.
func rowsOfNumber(n int64, code int64) ([][]int64, int64) {
	if n == 0 {
		return nil, code
	}
	return [][]int64{{n}}, code
}

// rowsCalls are calls of all functions of the chapter that return a code, with the same other arguments
// for all graphs.
func rowsCalls(n, event, k, m int64, starts []int64) map[string]rowsCall {
	return map[string]rowsCall{
		"DelayMatrix":  func(g impl.EventGraph) ([][]int64, int64) { return impl.DelayMatrix(g, m) },
		"ClosedMatrix": func(g impl.EventGraph) ([][]int64, int64) { return impl.ClosedMatrix(g, m) },
		"FiringTimes":  func(g impl.EventGraph) ([][]int64, int64) { return impl.FiringTimes(g, n) },
		"FiringTime":   func(g impl.EventGraph) ([][]int64, int64) { return rowsOfNumber(impl.FiringTime(g, event, k)) },
		"StartedTimes": func(g impl.EventGraph) ([][]int64, int64) { return impl.StartedTimes(g, n, starts) },
		"StateMatrix":  impl.StateMatrix,
		"HoldingOf":    func(g impl.EventGraph) ([][]int64, int64) { return rowsOfList(impl.HoldingOf(g, n)) },
	}
}

// checkNoRows makes all calls but those that are left out.
func checkNoRows(t *testing.T, g impl.EventGraph, calls map[string]rowsCall, wantCode int64, without ...string) {
	t.Helper()
	for name, call := range calls {
		if !slices.Contains(without, name) {
			rows, code := call(g)
			checkMatrix(t, name+" of "+plainGraphText(g), rows, code, nil, wantCode)
		}
	}
}

// The graph is looked at before all else.
func TestP13InvalidGraphs(t *testing.T) {
	for _, bad := range notEventGraphs() {
		checkNoTable(t, bad, nil)
		checkNoTable(t, bad, [][]int64{{0}})
		checkNoTable(t, bad, filled(maxFirings+1, 1, 0))
		checkNoTable(t, bad, filled(2, maxEvents+1, 0))
		for _, n := range append(notUpTo(maxFirings), 0, 1, 5, maxFirings, bad.Events-1, bad.Events) {
			for _, starts := range [][]int64{nil, {0}, {-1}, {0, 0}, zeros(maxEvents), zeros(maxEvents + 1)} {
				checkNoRows(t, bad, rowsCalls(n, n, n, n, starts), impl.ErrInvalid)
			}
			checkNoRows(t, bad, rowsCalls(1, 0, n, 1, []int64{0}), impl.ErrInvalid)
			checkNoRows(t, bad, rowsCalls(1, n, 1, 1, []int64{0}), impl.ErrInvalid)
		}
	}
}

// deadGraphs are graphs that are not live, each for another reason.
func deadGraphs(t *testing.T) []impl.EventGraph {
	texts := []string{
		"1 0>0:3*0", "1 0>0:0*0", "1 0>0:3*1 0>0:3*0", "1" + strings.Repeat(" 0>0:3*0", maxPlaces),
		"2 0>1:5*0 1>0:2*0", "2 0>1:0*0 1>0:0*0", "2 0>1:1000*0 1>0:1000*0 1>0:1*5", "2 1>1:3*0",
		"3 0>1:5*0 1>0:2*1 2>2:0*0", "3 0>1:5*0 1>2:2*0 2>0:0*0 0>0:3*5",
		"10 9>8:3*0 8>9:3*0", "10 9>9:0*0 0>0:3*5", line(upTo(maxEvents), 0) + " 9>0:1*0", line(down(maxEvents), 0) + " 0>9:0*0",
	}
	var list []impl.EventGraph
	for _, text := range texts {
		list = append(list, graphOf(t, text))
	}
	return list
}

// Without a firing order there are no times, also none of events that could fire or of no firings, and the
// state matrix is not missed because of its size.
func TestP13DeadGraphs(t *testing.T) {
	for _, g := range deadGraphs(t) {
		for _, n := range []int64{0, 1, 2, maxFirings} {
			for event := range g.Events {
				for _, start := range []int64{0, 1, maxFinite} {
					checkNoRows(t, g, rowsCalls(n, event, max(n, 1), 1+n%maxTokens, constant(int(g.Events), start)), impl.ErrState, "DelayMatrix")
				}
			}
			checkNoTable(t, g, filled(int(n), int(g.Events), 0))
		}
		checkNoTable(t, g, nil)
		checkNoTable(t, g, filled(maxFirings+1, int(g.Events), 0))
	}
	for g := range manyNets(newRandom(140), 20) {
		if !isLivePlain(g) {
			checkNoRows(t, g, rowsCalls(3, 0, 3, 1, zeros(int(g.Events))), impl.ErrState, "DelayMatrix")
			checkNoTable(t, g, nil)
		}
	}
}

// The other arguments are looked at before it matters whether the graph is live.
func TestP13NotInRange(t *testing.T) {
	list := deadGraphs(t)
	for _, text := range []string{"1", "1 0>0:1000*1", "2 0>1:5*0 1>0:2*1 0>0:3*1", "10", "10 0>9:1000*5", line(upTo(maxEvents), 0) + " 9>0:1*1"} {
		list = append(list, graphOf(t, text))
	}
	for _, g := range list {
		starts := zeros(int(g.Events))
		for _, bad := range notUpTo(maxFirings) {
			checkNoRows(t, g, rowsCalls(bad, 0, bad, 1, starts), impl.ErrRange, "DelayMatrix", "ClosedMatrix", "StateMatrix")
			checkNoRows(t, g, rowsCalls(bad, 0, 1, 1, constant(int(g.Events), maxFinite)), impl.ErrRange, "DelayMatrix", "ClosedMatrix", "FiringTime", "StateMatrix")
		}
		for _, bad := range notUpTo(maxTokens) {
			checkNoRows(t, g, rowsCalls(bad, 0, bad, bad, starts), impl.ErrRange, "FiringTimes", "FiringTime", "StartedTimes", "StateMatrix", "HoldingOf")
		}
		for _, bad := range notUpTo(g.Events - 1) {
			checkNoTime(t, g, bad, 1)
			checkNoTime(t, g, bad, maxFirings)
			checkNoTime(t, g, bad, 0)
		}
		// There is no firing with the number 0, and no closed matrix.
		for event := range g.Events {
			checkNoTime(t, g, event, 0)
			checkNoTime(t, g, event, maxFirings+1)
		}
		a, code := impl.ClosedMatrix(g, 0)
		checkMatrix(t, "ClosedMatrix of 0", a, code, nil, impl.ErrRange)
		checkBadStarts(t, g)
	}
}

func checkNoTime(t *testing.T, g impl.EventGraph, event, k int64) {
	t.Helper()
	time, code := impl.FiringTime(g, event, k)
	checkNumber(t, fmt.Sprint("FiringTime of ", plainGraphText(g), " at ", event, " and ", k), time, code, 0, impl.ErrRange)
}

// checkBadStarts looks at starts of which there are too few or too many, or one is out of its range.
func checkBadStarts(t *testing.T, g impl.EventGraph) {
	t.Helper()
	events := int(g.Events)
	list := [][]int64{nil, {}, zeros(events - 1), zeros(events + 1), zeros(events + 300), constant(events-1, maxFinite), constant(events+1, maxFinite), constant(events, -1)}
	for event := range events {
		for _, bad := range notUpTo(maxFinite) {
			starts := zeros(events)
			starts[event] = bad
			list = append(list, starts, append(slices.Clone(starts), 0), append([]int64{0}, starts...))
		}
	}
	for _, starts := range list {
		for _, n := range []int64{0, 1, maxFirings, maxFirings + 1, -1} {
			x, code := impl.StartedTimes(g, n, starts)
			checkMatrix(t, fmt.Sprint("StartedTimes of ", plainGraphText(g), " and ", starts), x, code, nil, impl.ErrRange)
		}
	}
}

// checkRowsCalls looks at the memory of results: each call is made twice with a copy of the graph that
// has to stay as it is, whatever is written into the first result.
func checkRowsCalls(t *testing.T, calls map[string]rowsCall, before impl.EventGraph) {
	t.Helper()
	for name, call := range calls {
		g := withSparePlaces(before)
		rows, code := call(g)
		want := cloneRows(rows)
		if !isUnchangedGraph(g, before) {
			t.Errorf("%s changed its argument %v", name, before)
		}
		checkRowsApart(t, name, rows)
		if !isUnchangedGraph(g, before) {
			t.Errorf("%s: the result shares memory with the argument %v", name, before)
		}
		rows, again := call(g)
		checkMatrix(t, name+" for a second time", rows, again, want, code)
	}
}

func TestP13ResultsShareNoMemory(t *testing.T) {
	random := newRandom(141)
	for g := range manyNets(random, 4) {
		calls := rowsCalls(random.Int64N(maxFirings+1), random.Int64N(g.Events), 1+random.Int64N(maxFirings), 1+random.Int64N(maxTokens), constant(int(g.Events), 5))
		calls["IsFiringTable"] = func(g impl.EventGraph) ([][]int64, int64) {
			return rowsOfNumber(int64(slices.Index([]bool{false, true}, impl.IsFiringTable(g, filled(1, int(g.Events), 0)))), impl.ErrNone)
		}
		checkRowsCalls(t, calls, g)
		checkRowsCalls(t, calls, fewTokens(g, 1))
		// A graph that is none stays as it is as well.
		checkRowsCalls(t, calls, eventGraph(g.Events, append(slices.Clone(g.Places), place(g.Events, 0, 0, 0))...))
	}
	// Neither the starts nor a table are changed or kept.
	for _, text := range []string{"3", "3 0>0:3*1", "3 2>1:0*0"} {
		g := graphOf(t, text)
		checkCalls(t, map[string]func(rows [][]int64) ([][]int64, int64){
			"StartedTimes once":  func(rows [][]int64) ([][]int64, int64) { return impl.StartedTimes(g, 1, rows[0]) },
			"StartedTimes":       func(rows [][]int64) ([][]int64, int64) { return impl.StartedTimes(g, maxFirings, rows[0]) },
			"StartedTimes later": func(rows [][]int64) ([][]int64, int64) { return impl.StartedTimes(g, 2, rows[2]) },
			"IsFiringTable":      answers(func(rows [][]int64) bool { return impl.IsFiringTable(g, rows) }),
		}, plainTimesOf(g, 4))
	}
}
