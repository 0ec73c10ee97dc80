package tests

import (
	"fmt"
	"iter"
	"math/rand/v2"
	"slices"
	"strings"
	"testing"

	"loop.example/g00941/impl"
)

// noWay stands for the token distance where there is no way, and for the tokens between events that no
// place joins.
const noWay = -1

// livenessParts are the answers of the chapter for one graph: either an order and levels, or a cycle.
type livenessParts struct {
	order     []int64
	levels    []int64
	cycle     []int64
	sources   []int64
	strong    bool
	distances [][]int64 // at from and to
}

// leastTokens has at from and to the least number of tokens of a place that joins them.
func leastTokens(g impl.EventGraph) [][]int64 {
	least := filled(int(g.Events), int(g.Events), noWay)
	for _, p := range g.Places {
		if found := &least[p.From][p.To]; *found == noWay || p.Tokens < *found {
			*found = p.Tokens
		}
	}
	return least
}

// eachWay calls try with every list of different events that are joined one after the other, and with
// the least number of tokens along it.
func eachWay(least [][]int64, try func(list []int64, tokens int64)) {
	var list []int64
	var extend func(tokens int64)
	extend = func(tokens int64) {
		try(list, tokens)
		last := list[len(list)-1]
		for next, more := range least[last] {
			if more != noWay && !slices.Contains(list, int64(next)) {
				list = append(list, int64(next))
				extend(tokens + more)
				list = list[:len(list)-1]
			}
		}
	}
	for first := range least {
		list = []int64{int64(first)}
		extend(0)
	}
}

// plainOrder takes the events as the definition says, until none can be taken.
func plainOrder(least [][]int64) []int64 {
	var order []int64
	left := upTo(len(least))
	for {
		i := slices.IndexFunc(left, func(event int64) bool {
			return !slices.ContainsFunc(left, func(from int64) bool { return least[from][event] == 0 })
		})
		if i < 0 {
			return order
		}
		order = append(order, left[i])
		left = slices.Delete(left, i, i+1)
	}
}

// plainLiveness compares all ways and all cycles of a graph.
func plainLiveness(g impl.EventGraph) livenessParts {
	n := int(g.Events)
	least := leastTokens(g)
	parts := livenessParts{levels: zeros(n), strong: true, distances: filled(n, n, noWay)}
	eachWay(least, func(list []int64, tokens int64) {
		first, last := list[0], list[len(list)-1]
		if distance := &parts.distances[first][last]; *distance == noWay || tokens < *distance {
			*distance = tokens
		}
		if tokens > 0 {
			return
		}
		parts.levels[last] = max(parts.levels[last], int64(len(list))-1)
		if least[last][first] == 0 && first == slices.Min(list) && (parts.cycle == nil || slices.Compare(list, parts.cycle) < 0) {
			parts.cycle = slices.Clone(list)
		}
	})
	for event := range g.Events {
		if !slices.ContainsFunc(g.Places, func(p impl.Place) bool { return p.To == event }) {
			parts.sources = append(parts.sources, event)
		}
		parts.strong = parts.strong && !slices.Contains(parts.distances[event], noWay)
	}
	if parts.cycle == nil {
		parts.order = plainOrder(least)
	} else {
		parts.levels = nil
	}
	return parts
}

func checkLive(t *testing.T, g impl.EventGraph, want livenessParts) {
	t.Helper()
	of := " of " + plainGraphText(g)
	cycleCode, orderCode := int64(impl.ErrNotFound), int64(impl.ErrNone)
	if want.cycle != nil {
		cycleCode, orderCode = impl.ErrNone, impl.ErrState
	}
	live, code := impl.IsLive(g)
	checkAnswer(t, "IsLive"+of, live, code, want.cycle == nil, impl.ErrNone)
	list, code := impl.DeadCycle(g)
	checkList(t, "DeadCycle"+of, list, code, want.cycle, cycleCode)
	list, code = impl.FiringOrder(g)
	checkList(t, "FiringOrder"+of, list, code, want.order, orderCode)
	list, code = impl.LevelsOf(g)
	checkList(t, "LevelsOf"+of, list, code, want.levels, orderCode)
}

func checkJoined(t *testing.T, g impl.EventGraph, want livenessParts) {
	t.Helper()
	of := " of " + plainGraphText(g)
	list, code := impl.SourcesOf(g)
	checkList(t, "SourcesOf"+of, list, code, want.sources, impl.ErrNone)
	strong, code := impl.IsStrong(g)
	checkAnswer(t, "IsStrong"+of, strong, code, want.strong, impl.ErrNone)
}

// wayResult is what a function that looks for a way returns, and its code.
func wayResult(tokens int64) (int64, int64) {
	if tokens == noWay {
		return 0, impl.ErrNotFound
	}
	return tokens, impl.ErrNone
}

func checkDistances(t *testing.T, g impl.EventGraph, distances [][]int64) {
	t.Helper()
	of := " of " + plainGraphText(g)
	for from, row := range distances {
		for to := range row {
			want, wantCode := wayResult(row[to])
			n, code := impl.TokenDistance(g, int64(from), int64(to))
			checkNumber(t, fmt.Sprint("TokenDistance", of, " from ", from, " to ", to), n, code, want, wantCode)
		}
	}
	for i, p := range g.Places {
		want, wantCode := wayResult(distances[p.To][p.From])
		if wantCode == impl.ErrNone {
			want += p.Tokens
		}
		n, code := impl.TokenBound(g, int64(i))
		checkNumber(t, fmt.Sprint("TokenBound", of, " at ", i), n, code, want, wantCode)
	}
}

func checkLiveness(t *testing.T, g impl.EventGraph, want livenessParts) {
	t.Helper()
	checkLive(t, g, want)
	checkJoined(t, g, want)
	checkDistances(t, g, want.distances)
}

func graphOf(t *testing.T, text string) impl.EventGraph {
	t.Helper()
	g, ok := impl.ReadGraph(text)
	if !ok {
		t.Fatalf("ReadGraph(%q) = %v, %v", text, g, ok)
	}
	return g
}

// line is the text of a graph with MaxEvents events, each joined to the next one in some list.
func line(list []int64, tokens int64) string {
	text := fmt.Sprint(maxEvents)
	for k, event := range list[1:] {
		text += fmt.Sprintf(" %d>%d:7*%d", list[k], event, tokens)
	}
	return text
}

// down are the numbers below n, the greatest first.
func down(n int) []int64 {
	list := upTo(n)
	slices.Reverse(list)
	return list
}

func TestP12Live(t *testing.T) {
	mixed := []int64{3, 0, 8, 5, 9, 1, 7, 2, 6, 4}
	cases := []struct {
		text          string
		order, levels []int64
	}{
		{"1", []int64{0}, []int64{0}},
		{"1 0>0:0*1", []int64{0}, []int64{0}},
		{"1" + strings.Repeat(" 0>0:3*5", maxPlaces), []int64{0}, []int64{0}},
		{"2", []int64{0, 1}, []int64{0, 0}},
		{"2 0>1:0*0", []int64{0, 1}, []int64{0, 1}},
		{"2 1>0:0*0", []int64{1, 0}, []int64{1, 0}},
		{"2 1>0:0*1", []int64{0, 1}, []int64{0, 0}},
		{"2 1>0:1000*0 0>1:1000*1", []int64{1, 0}, []int64{1, 0}},
		{"2" + strings.Repeat(" 1>0:4*0", maxPlaces), []int64{1, 0}, []int64{1, 0}},
		// One place without tokens is enough, wherever it stands among those with some.
		{"2 1>0:4*0 1>0:4*1 1>0:9*5", []int64{1, 0}, []int64{1, 0}},
		{"2 1>0:4*1 1>0:9*5 1>0:4*0", []int64{1, 0}, []int64{1, 0}},
		{"2 1>0:4*1 1>0:4*0 1>0:9*5", []int64{1, 0}, []int64{1, 0}},
		{"2 1>0:4*1 1>0:4*2 1>0:9*5", []int64{0, 1}, []int64{0, 0}},
		// The least event is taken that can be next, not the one that became free first.
		{"4 2>0:1*0 0>1:5*0 1>2:2*1 2>3:4*0 0>3:1*2", []int64{2, 0, 1, 3}, []int64{1, 2, 0, 1}},
		{"4 3>0:1*0", []int64{1, 2, 3, 0}, []int64{1, 0, 0, 0}},
		{"4 1>0:1*0", []int64{1, 0, 2, 3}, []int64{1, 0, 0, 0}},
		{"5 1>0:1*0 3>2:1*0 2>4:1*0", []int64{1, 0, 3, 2, 4}, []int64{1, 0, 1, 0, 2}},
		{"5 4>0:1*0 4>1:1*0 0>2:1*0", []int64{3, 4, 0, 1, 2}, []int64{1, 1, 2, 0, 0}},
		{"5 4>2:1*0 2>0:1*0 4>3:1*0 3>1:1*0", []int64{4, 2, 0, 3, 1}, []int64{2, 2, 1, 1, 0}},
		// All places have to be waited for.
		{"4 1>0:1*0 2>0:1*0 3>0:1*0", []int64{1, 2, 3, 0}, []int64{1, 0, 0, 0}},
		{"4 3>0:1*0 2>0:1*0 2>1:1*0", []int64{2, 1, 3, 0}, []int64{1, 1, 0, 0}},
		// Levels along ways of different lengths: the longest one counts.
		{"4 0>3:1*0 0>1:1*0 1>2:1*0 2>3:1*0", []int64{0, 1, 2, 3}, []int64{0, 1, 2, 3}},
		{"4 0>1:1*0 1>2:1*0 2>3:1*0 1>3:1*0 0>3:1*0 0>2:1*0", []int64{0, 1, 2, 3}, []int64{0, 1, 2, 3}},
		{"4 3>2:1*0 2>1:1*1 1>0:1*0 3>0:1*0", []int64{1, 3, 0, 2}, []int64{1, 0, 1, 0}},
		{"5 0>4:1*0 1>2:1*0 2>4:1*0 3>2:1*0 0>3:1*0", []int64{0, 1, 3, 2, 4}, []int64{0, 0, 2, 1, 3}},
		// The delays do not matter.
		{"3 2>1:0*0 2>1:1000*1 1>0:0*0 0>2:1000*1", []int64{2, 1, 0}, []int64{2, 1, 0}},
		{"10", upTo(maxEvents), zeros(maxEvents)},
		{line(upTo(maxEvents), 0), upTo(maxEvents), upTo(maxEvents)},
		{line(down(maxEvents), 0), down(maxEvents), down(maxEvents)},
		{line(down(maxEvents), 1), upTo(maxEvents), zeros(maxEvents)},
		{line(down(maxEvents), 0) + " 0>9:1*1", down(maxEvents), down(maxEvents)},
		{line(mixed, 0) + " 4>3:2*5 0>4:1*0", mixed, []int64{1, 5, 7, 0, 9, 3, 8, 6, 2, 4}},
		{"10 9>4:1*0", []int64{0, 1, 2, 3, 5, 6, 7, 8, 9, 4}, []int64{0, 0, 0, 0, 1, 0, 0, 0, 0, 0}},
	}
	for _, c := range cases {
		g := graphOf(t, c.text)
		checkLive(t, g, livenessParts{order: c.order, levels: c.levels})
		checkLiveness(t, g, plainLiveness(g))
	}
}

func TestP12Dead(t *testing.T) {
	cases := []struct {
		text  string
		cycle []int64
	}{
		{"1 0>0:0*0", []int64{0}},
		{"1 0>0:1000*0 0>0:1000*5", []int64{0}},
		{"1 0>0:1000*5 0>0:1000*0", []int64{0}},
		{"1" + strings.Repeat(" 0>0:3*0", maxPlaces), []int64{0}},
		{"2 1>1:3*0", []int64{1}},
		{"2 0>1:3*0 1>0:3*0", []int64{0, 1}},
		{"2 1>0:3*0 0>1:3*0", []int64{0, 1}},
		{"2 0>1:3*1 1>0:3*0 0>1:3*0 1>0:3*5", []int64{0, 1}},
		{"3 2>1:3*0 1>2:3*0", []int64{1, 2}},
		{"3 0>1:3*0 1>2:3*0 2>0:3*0", []int64{0, 1, 2}},
		{"3 0>2:3*0 2>1:3*0 1>0:3*0", []int64{0, 2, 1}},
		// What is joined to a dead cycle is not on it.
		{"3 0>1:3*0 1>1:3*0 1>2:3*0", []int64{1}},
		{"4 0>2:3*0 2>3:3*0 3>2:3*0 3>1:3*0", []int64{2, 3}},
		{"4 0>3:3*0 3>2:3*0 2>1:3*0 1>3:3*0", []int64{1, 3, 2}},
		// Several dead cycles.
		{"3 2>2:3*0 0>1:3*0 1>0:3*0", []int64{0, 1}},
		{"3 2>2:3*0 1>1:3*0", []int64{1}},
		{"3 2>2:3*0 1>1:3*0 0>0:3*0", []int64{0}},
		{"2 0>0:3*0 0>1:3*0 1>0:3*0", []int64{0}},
		{"2 1>1:3*0 0>1:3*0 1>0:3*0", []int64{0, 1}},
		{"3 0>2:3*0 2>0:3*0 0>1:3*0 1>0:3*0", []int64{0, 1}},
		{"3 0>2:3*0 2>0:3*0 1>1:3*0", []int64{0, 2}},
		{"3 0>1:3*0 1>0:3*0 1>2:3*0 2>0:3*0", []int64{0, 1}},
		{"4 0>3:3*0 3>0:3*0 1>2:3*0 2>1:3*0", []int64{0, 3}},
		// A longer one is smaller than a shorter one.
		{"3 0>2:3*0 2>0:3*0 0>1:3*0 1>2:3*0", []int64{0, 1, 2}},
		{"4 0>3:3*0 3>0:3*0 0>1:3*0 1>2:3*0 2>3:3*0 1>3:3*0", []int64{0, 1, 2, 3}},
		{"4 0>3:3*0 3>0:3*0 0>2:3*0 2>1:3*0 1>3:3*0", []int64{0, 2, 1, 3}},
		{"4 3>3:3*0 0>1:3*0 1>2:3*0 2>0:3*0", []int64{0, 1, 2}},
		{"5 0>4:3*0 4>0:3*0 0>1:3*0 1>2:3*1 2>0:3*0 1>3:3*0 3>2:3*0", []int64{0, 1, 3, 2}},
		// A place with tokens opens the smaller one.
		{"3 0>1:3*1 1>0:3*0 1>2:3*0 2>1:3*0", []int64{1, 2}},
		{"3 0>1:3*0 1>0:3*5 0>2:3*0 2>0:3*0", []int64{0, 2}},
		{"3 0>0:3*1 1>1:3*0", []int64{1}},
		{"10 9>9:3*0", []int64{9}},
		{"10 9>8:3*0 8>9:3*0", []int64{8, 9}},
		{line(upTo(maxEvents), 0) + " 9>0:1*0", upTo(maxEvents)},
		{line(down(maxEvents), 0) + " 0>9:1*0", append([]int64{0}, down(maxEvents)[:9]...)},
		{line(upTo(maxEvents), 0) + " 9>1:1*0 9>0:1*1", upTo(maxEvents)[1:]},
		{line(upTo(maxEvents), 0) + " 9>5:1*0 5>4:1*0", []int64{4, 5}},
	}
	for _, c := range cases {
		g := graphOf(t, c.text)
		checkLive(t, g, livenessParts{cycle: c.cycle})
		checkLiveness(t, g, plainLiveness(g))
	}
}

func TestP12Joined(t *testing.T) {
	ringed := line(upTo(maxEvents), 1) + " 9>0:1*1"
	cases := []struct {
		text    string
		sources []int64
		strong  bool
	}{
		{"1", []int64{0}, true},
		{"1 0>0:1*0", nil, true},
		{"1 0>0:1*1", nil, true},
		{"1" + strings.Repeat(" 0>0:1*0", maxPlaces), nil, true},
		{"2", []int64{0, 1}, false},
		{"2 0>0:1*1", []int64{1}, false},
		{"2 1>1:1*0", []int64{0}, false},
		{"2 0>0:1*1 1>1:1*1", nil, false},
		// Places with tokens lead to an event as well.
		{"2 0>1:5*1", []int64{0}, false},
		{"2 0>1:5*0", []int64{0}, false},
		{"2 1>0:5*5", []int64{1}, false},
		{"2 0>1:5*0 1>0:5*0", nil, true},
		{"2 0>1:5*5 1>0:5*0", nil, true},
		{"2 0>1:5*5 1>0:5*1", nil, true},
		{"2" + strings.Repeat(" 0>1:5*1", maxPlaces), []int64{0}, false},
		{"3 0>1:5*1 1>0:2*2 0>1:9*3 1>2:1*1", nil, false},
		{"3 0>1:5*1 1>0:2*2 2>1:1*1", []int64{2}, false},
		{"3 0>1:5*1 1>2:2*2 2>0:1*1", nil, true},
		{"3 0>1:5*1 1>0:2*2 2>0:1*1 1>2:1*0", nil, true},
		{"3 1>2:5*1 2>1:2*2", []int64{0}, false},
		{"4 0>1:1*0 1>0:1*1 2>3:1*0 3>2:1*1", nil, false},
		{"4 0>1:1*0 1>0:1*1 2>3:1*0 3>2:1*1 1>2:1*1", nil, false},
		{"4 0>1:1*0 1>0:1*1 2>3:1*0 3>2:1*1 2>1:1*1", nil, false},
		{"4 0>1:1*0 1>0:1*1 2>3:1*0 3>2:1*1 1>2:1*1 3>0:1*1", nil, true},
		{"4 3>1:1*0 3>2:1*0", []int64{0, 3}, false},
		{"10", upTo(maxEvents), false},
		{line(upTo(maxEvents), 1), []int64{0}, false},
		{line(down(maxEvents), 0), []int64{9}, false},
		{ringed, nil, true},
		{strings.Replace(ringed, "8>9", "9>9", 1), nil, false},
		{strings.Replace(ringed, "8>9", "8>8", 1), []int64{9}, false},
		{ringed + strings.Repeat(" 4>2:1*0", 20), nil, true},
	}
	for _, c := range cases {
		g := graphOf(t, c.text)
		checkJoined(t, g, livenessParts{sources: c.sources, strong: c.strong})
		checkLiveness(t, g, plainLiveness(g))
	}
}

func TestP12TokenDistance(t *testing.T) {
	// The ways from 0 to 3 have one, two and three places.
	ways := "4 0>3:1*5 0>2:1*2 2>3:1*2 0>1:1*1 1>2:1*0 2>0:1*4"
	far := line(upTo(maxEvents), 5)
	cases := []struct {
		text           string
		from, to, want int64
	}{
		{"1", 0, 0, 0},
		// From an event to itself it is 0, whatever joins it to itself.
		{"1 0>0:1*5", 0, 0, 0},
		{"1 0>0:1*0", 0, 0, 0},
		{"3 0>1:1*2 1>0:1*3", 0, 0, 0},
		{"3 0>1:1*2 1>0:1*3", 2, 2, 0},
		{"2 0>1:1*2 1>1:1*3", 0, 1, 2},
		{"2 0>1:1*0", 0, 1, 0},
		{"2 0>1:1*0", 1, 0, noWay},
		{"2", 0, 1, noWay},
		{"2 1>0:1*5", 1, 0, 5},
		{"2 1>0:1*5", 0, 1, noWay},
		// Of several places the one with the fewest tokens counts, wherever it stands.
		{"2 0>1:1*3 0>1:9*4 0>1:5*5", 0, 1, 3},
		{"2 0>1:1*4 0>1:9*3 0>1:5*5", 0, 1, 3},
		{"2 0>1:1*5 0>1:9*4 0>1:5*3", 0, 1, 3},
		{"2 0>1:1*5 0>1:9*0 0>1:5*3", 0, 1, 0},
		// The direct way, and ways over other events.
		{ways, 0, 3, 3},
		{ways, 0, 2, 1},
		{ways, 0, 1, 1},
		{ways, 1, 3, 2},
		{ways, 1, 0, 4},
		{ways, 2, 1, 5},
		{ways, 3, 0, noWay},
		{strings.Replace(ways, "0>3:1*5", "0>3:1*3", 1), 0, 3, 3},
		{strings.Replace(ways, "0>3:1*5", "0>3:1*2", 1), 0, 3, 2},
		{strings.Replace(ways, "0>1:1*1", "0>1:1*3", 1), 0, 3, 4},
		// Delays and dead cycles do not matter.
		{"3 0>1:1000*0 1>2:1000*0 0>2:0*1 2>0:1*0", 0, 2, 0},
		{"3 0>1:0*1 1>2:0*1 0>2:1000*1", 0, 2, 1},
		{"3 0>0:1*0 0>1:1*2 1>1:1*0 1>2:1*3", 0, 2, 5},
		{far, 0, 9, 45},
		{far, 9, 0, noWay},
		{far, 3, 4, 5},
		{far + " 9>0:1*5", 5, 4, 45},
		{far + " 9>0:1*5", 9, 8, 45},
		{far + " 0>9:1*5", 0, 9, 5},
		{line(upTo(maxEvents), 0) + " 0>9:1*1", 0, 9, 0},
	}
	for _, c := range cases {
		g := graphOf(t, c.text)
		want, wantCode := wayResult(c.want)
		n, code := impl.TokenDistance(g, c.from, c.to)
		checkNumber(t, fmt.Sprint("TokenDistance of ", c.text, " from ", c.from, " to ", c.to), n, code, want, wantCode)
		checkLiveness(t, g, plainLiveness(g))
	}
}

func TestP12TokenBound(t *testing.T) {
	// From 1 back to 0 three ways lead.
	ways := "3 0>1:5*1 1>0:2*4 1>2:1*1 2>0:3*2 1>0:1*5"
	far := line(upTo(maxEvents), 5)
	cases := []struct {
		text    string
		i, want int64
	}{
		// A place from an event to itself keeps its tokens.
		{"1 0>0:1*5", 0, 5},
		{"1 0>0:1*0", 0, 0},
		{"1 0>0:1*5 0>0:2*3", 1, 3},
		{"2 0>1:1*1 1>0:1*1 1>1:9*2", 2, 2},
		{"2 0>1:1*1", 0, noWay},
		{"2 0>1:1*1 1>0:1*0", 0, 1},
		{"2 0>1:1*1 1>0:1*0", 1, 1},
		{"2 0>1:1*4 1>0:1*5", 0, 9},
		{"2 0>1:1*0 1>0:1*0", 0, 0},
		{"2 0>1:1*3 0>1:1*0 1>0:1*2", 0, 5},
		{"2 0>1:1*3 0>1:1*0 1>0:1*2", 2, 2},
		{"3 0>1:5*1 1>0:2*2 0>1:9*3 1>2:1*1", 2, 5},
		{"3 0>1:5*1 1>0:2*2 0>1:9*3 1>2:1*1", 3, noWay},
		{ways, 0, 4},
		{ways, 1, 5},
		{ways, 2, 4},
		{ways, 3, 4},
		{ways, 4, 6},
		{strings.Replace(ways, "1>0:2*4", "1>0:2*2", 1), 0, 3},
		{strings.Replace(ways, "1>0:1*5", "1>0:1*0", 1), 0, 1},
		{far, 0, noWay},
		{far + " 9>0:1*5", 0, 50},
		{far + " 9>0:1*5", 9, 50},
		{far + " 0>9:1*5", 9, noWay},
		{"2 0>1:1*1" + strings.Repeat(" 1>0:1*3", maxPlaces-1), maxPlaces - 1, 4},
		{"1" + strings.Repeat(" 0>0:1*3", maxPlaces-1) + " 0>0:1*2", maxPlaces - 1, 2},
	}
	for _, c := range cases {
		g := graphOf(t, c.text)
		want, wantCode := wayResult(c.want)
		n, code := impl.TokenBound(g, c.i)
		checkNumber(t, fmt.Sprint("TokenBound of ", c.text, " at ", c.i), n, code, want, wantCode)
		checkLiveness(t, g, plainLiveness(g))
	}
}

// smallGraphs are all graphs with n events in which any two are joined by no place or by one with at
// most so many tokens.
func smallGraphs(n int, tokens int) iter.Seq[impl.EventGraph] {
	return func(yield func(impl.EventGraph) bool) {
		lists(tokens+2, n*n, func(list []int64) {
			g := eventGraph(int64(n))
			for pair, choice := range list {
				if choice > 0 {
					g.Places = append(g.Places, place(int64(pair/n), int64(pair%n), int64(pair), choice-1))
				}
			}
			yield(g)
		})
	}
}

func TestP12SmallGraphsFollowTheDefinition(t *testing.T) {
	for n, tokens := range map[int]int{1: maxTokens, 2: maxTokens, 3: 1, 4: 0} {
		dead := map[bool]int{}
		for g := range smallGraphs(n, tokens) {
			parts := plainLiveness(g)
			checkLiveness(t, g, parts)
			dead[parts.cycle != nil]++
		}
		if dead[true] == 0 || dead[false] == 0 {
			t.Errorf("all graphs of %d events are alike: %v", n, dead)
		}
	}
}

// isForward reports whether all places without tokens lead forward in a list of events.
func isForward(g impl.EventGraph, list []int64) bool {
	return !slices.ContainsFunc(g.Places, func(p impl.Place) bool {
		return p.Tokens == 0 && slices.Index(list, p.From) >= slices.Index(list, p.To)
	})
}

// The firing order is the smallest one of all orders in which no event comes before one that it has to
// wait for.
func TestP12FiringOrderIsTheSmallest(t *testing.T) {
	random := newRandom(121)
	codes := map[int64]int{}
	for range 300 {
		g := mostlyLive(random, 1+random.Int64N(6), random.IntN(9))
		var smallest []int64
		simpleLists(int(g.Events), func(list []int64) {
			if smallest == nil && int64(len(list)) == g.Events && isForward(g, list) {
				smallest = slices.Clone(list)
			}
		})
		wantCode := int64(impl.ErrNone)
		if smallest == nil {
			wantCode = impl.ErrState
		}
		list, code := impl.FiringOrder(g)
		checkList(t, "FiringOrder of "+plainGraphText(g), list, code, smallest, wantCode)
		codes[code]++
	}
	checkVaried(t, codes, map[int64]int{impl.ErrNone: 100, impl.ErrState: 50})
}

// mostlyLive lets the places without tokens follow some order of the events, but for one in some graphs.
func mostlyLive(random *rand.Rand, events int64, size int) impl.EventGraph {
	g := eventGraph(events)
	rank := random.Perm(int(events))
	rare := random.IntN(4)
	for range size {
		p := place(random.Int64N(events), random.Int64N(events), random.Int64N(maxDelay+1), 1+random.Int64N(maxTokens))
		if rank[p.From] < rank[p.To] && random.IntN(4) >= rare {
			p.Tokens = 0
		}
		g.Places = append(g.Places, p)
	}
	if size > 0 && random.IntN(2) == 0 {
		g.Places[random.IntN(size)].Tokens = 0
	}
	return g
}

// withoutLoops has no place from an event to itself unless there is only one event, and every second place or so has no tokens.
func withoutLoops(random *rand.Rand, events int64, size int) impl.EventGraph {
	g := eventGraph(events)
	for range size {
		from, step := random.Int64N(events), 1+random.Int64N(max(events-1, 1))
		g.Places = append(g.Places, place(from, (from+step)%events, random.Int64N(maxDelay+1), max(0, random.Int64N(2*maxTokens+1)-maxTokens)))
	}
	return g
}

// manyNets are graphs of several kinds with all numbers of events, some of which have as many places as
// there can be.
func manyNets(random *rand.Rand, times int) iter.Seq[impl.EventGraph] {
	return func(yield func(impl.EventGraph) bool) {
		for events := int64(1); events <= maxEvents; events++ {
			for range times {
				size := random.IntN(maxPlaces + 1)
				nets := []impl.EventGraph{
					mostlyLive(random, events, size),
					mostlyLive(random, events, min(size, int(2*events))),
					mostlyLive(random, events, maxPlaces),
					withoutLoops(random, events, size),
					withoutLoops(random, events, min(size, int(2*events))),
					someEventGraph(random, events, size, maxEvents),
				}
				for _, g := range nets {
					if !yield(g) {
						return
					}
				}
			}
		}
	}
}

// Neither the order of the places nor their delays matter.
func TestP12GraphsFollowTheDefinition(t *testing.T) {
	random := newRandom(122)
	found := map[string]int{}
	for g := range manyNets(random, 40) {
		parts := plainLiveness(g)
		checkLiveness(t, g, parts)
		random.Shuffle(len(g.Places), func(i, j int) { g.Places[i], g.Places[j] = g.Places[j], g.Places[i] })
		for i := range g.Places {
			g.Places[i].Delay = random.Int64N(maxDelay + 1)
		}
		checkLiveness(t, g, parts)
		found[fmt.Sprint("dead ", parts.cycle != nil)]++
		found[fmt.Sprint("strong ", parts.strong)]++
		found[fmt.Sprint("source ", len(parts.sources) > 0)]++
		found[fmt.Sprint("cycle of ", len(parts.cycle))]++
		found[fmt.Sprint("other order ", parts.order != nil && !slices.IsSorted(parts.order))]++
	}
	for _, what := range []string{"dead true", "dead false", "strong true", "strong false", "source true", "source false", "cycle of 2", "cycle of 3", "cycle of 4", "other order true"} {
		if found[what] < 25 {
			t.Errorf("the graphs are too much alike: %v", found)
		}
	}
}

func isDeadCycle(g impl.EventGraph, cycle []int64) bool {
	for k, from := range cycle {
		to := cycle[(k+1)%len(cycle)]
		if !slices.ContainsFunc(g.Places, func(p impl.Place) bool { return p.From == from && p.To == to && p.Tokens == 0 }) {
			return false
		}
	}
	return len(cycle) > 0 && !hasRepeats(cycle)
}

// checkOrderOrCycle looks at what is told as the definitions do, without looking for it. It returns the
// code of the firing order.
func checkOrderOrCycle(t *testing.T, g impl.EventGraph) int64 {
	t.Helper()
	live, _ := impl.IsLive(g)
	order, orderCode := impl.FiringOrder(g)
	cycle, cycleCode := impl.DeadCycle(g)
	if live {
		if orderCode != impl.ErrNone || cycleCode != impl.ErrNotFound || !slices.Equal(slices.Sorted(slices.Values(order)), upTo(int(g.Events))) || !isForward(g, order) {
			t.Errorf("the order %v, %d and the cycle %v, %d of the live %v", order, orderCode, cycle, cycleCode, g)
		}
		return orderCode
	}
	if orderCode != impl.ErrState || cycleCode != impl.ErrNone || !isDeadCycle(g, cycle) {
		t.Errorf("the order %v, %d and the cycle %v, %d of the dead %v", order, orderCode, cycle, cycleCode, g)
	}
	return orderCode
}

func TestP12Promise(t *testing.T) {
	codes := map[int64]int{}
	for g := range manyNets(newRandom(123), 300) {
		codes[checkOrderOrCycle(t, g)]++
	}
	checkVaried(t, codes, map[int64]int{impl.ErrNone: 1000, impl.ErrState: 1000})
}

// A place without tokens kills a live graph exactly if its ends are joined back without tokens.
func TestP12OnePlaceMoreKills(t *testing.T) {
	for g := range manyNets(newRandom(124), 10) {
		if live, _ := impl.IsLive(g); !live || len(g.Places) == maxPlaces {
			continue
		}
		for from := range g.Events {
			for to := range g.Events {
				tokens, code := impl.TokenDistance(g, to, from)
				added, _ := impl.AddPlace(g, place(from, to, 1, 0))
				live, liveCode := impl.IsLive(added)
				checkAnswer(t, "IsLive of "+plainGraphText(added), live, liveCode, code == impl.ErrNotFound || tokens > 0, impl.ErrNone)
			}
		}
	}
}

// A graph lives if all places that lead back or to the same event have tokens.
func TestP12TokensGiveLife(t *testing.T) {
	for g := range manyNets(newRandom(129), 20) {
		for i, p := range g.Places {
			if p.From >= p.To {
				g.Places[i].Tokens = max(p.Tokens, 1)
			}
		}
		checkLive(t, g, livenessParts{order: upTo(int(g.Events)), levels: plainLiveness(g).levels})
	}
}

// reachedMarkings are the tokens in all places that can come about, or nil if these are too many.
func reachedMarkings(g impl.EventGraph, limit int) [][]int64 {
	first := make([]int64, len(g.Places))
	for i, p := range g.Places {
		first[i] = p.Tokens
	}
	found := [][]int64{first}
	seen := map[string]bool{fmt.Sprint(first): true}
	for k := 0; k < len(found); k++ {
		for event := range g.Events {
			next := slices.Clone(found[k])
			enabled := true
			for i, p := range g.Places {
				enabled = enabled && (p.To != event || next[i] > 0)
			}
			for i, p := range g.Places {
				if p.To == event {
					next[i]--
				}
				if p.From == event {
					next[i]++
				}
			}
			if enabled && !seen[fmt.Sprint(next)] {
				seen[fmt.Sprint(next)] = true
				found = append(found, next)
			}
		}
		if len(found) > limit {
			return nil
		}
	}
	return found
}

// In a graph that is strong and live, each bound is reached and none is exceeded.
func TestP12TokenBoundsAreReached(t *testing.T) {
	random := newRandom(125)
	reached := 0
	for range 6000 {
		g := mostlyLive(random, 1+random.Int64N(4), 1+random.IntN(7))
		for i, p := range g.Places {
			g.Places[i].Tokens = min(p.Tokens, 2)
		}
		if !plainLiveness(g).strong {
			continue
		}
		markings := reachedMarkings(g, 400)
		live, _ := impl.IsLive(g)
		for i := range g.Places {
			most := int64(0)
			for _, marking := range markings {
				most = max(most, marking[i])
			}
			bound, code := impl.TokenBound(g, int64(i))
			if code != impl.ErrNone || markings != nil && (most > bound || live && most != bound) {
				t.Errorf("TokenBound of %v at %d = %d, %d, but there are %d tokens", g, i, bound, code, most)
			}
		}
		if markings != nil && live {
			reached++
		}
	}
	if reached < 300 {
		t.Errorf("only %d graphs are strong and live", reached)
	}
}

// The tokens along a way are never fewer than over an event between.
func TestP12DistancesAddUp(t *testing.T) {
	for g := range manyNets(newRandom(126), 3) {
		distance := func(from, to int64) int64 {
			n, code := impl.TokenDistance(g, from, to)
			if code != impl.ErrNone {
				return 1 << 20
			}
			return n
		}
		for _, p := range g.Places {
			if distance(p.From, p.To) > p.Tokens {
				t.Errorf("TokenDistance of %v along %v is greater than its tokens", g, p)
			}
			for event := range g.Events {
				if distance(event, p.To) > distance(event, p.From)+p.Tokens {
					t.Errorf("TokenDistance of %v from %d grows by too much along %v", g, event, p)
				}
			}
		}
	}
}

// checkNoLiveness looks at the functions without other arguments.
func checkNoLiveness(t *testing.T, g impl.EventGraph) {
	t.Helper()
	for name, call := range map[string]func(g impl.EventGraph) ([]int64, int64){"DeadCycle": impl.DeadCycle, "FiringOrder": impl.FiringOrder, "LevelsOf": impl.LevelsOf, "SourcesOf": impl.SourcesOf} {
		list, code := call(g)
		checkList(t, name+" of no graph", list, code, nil, impl.ErrInvalid)
	}
	for name, call := range map[string]func(g impl.EventGraph) (bool, int64){"IsLive": impl.IsLive, "IsStrong": impl.IsStrong} {
		is, code := call(g)
		checkAnswer(t, name+" of no graph", is, code, false, impl.ErrInvalid)
	}
}

// The graph is looked at before all else.
func TestP12InvalidGraphs(t *testing.T) {
	for _, bad := range notEventGraphs() {
		checkNoLiveness(t, bad)
		size := int64(len(bad.Places))
		for _, i := range append(notUpTo(maxPlaces), 0, 1, size-1, size, bad.Events-1, bad.Events) {
			n, code := impl.TokenBound(bad, i)
			checkNumber(t, fmt.Sprint("TokenBound of no graph at ", i), n, code, 0, impl.ErrInvalid)
			for _, other := range []int64{-1, 0, i, maxEvents} {
				n, code := impl.TokenDistance(bad, i, other)
				checkNumber(t, fmt.Sprint("TokenDistance of no graph from ", i, " to ", other), n, code, 0, impl.ErrInvalid)
				n, code = impl.TokenDistance(bad, other, i)
				checkNumber(t, fmt.Sprint("TokenDistance of no graph from ", other, " to ", i), n, code, 0, impl.ErrInvalid)
			}
		}
	}
}

// Each event and each index is looked at before a way, of which there is none here but to itself.
func TestP12NotInRange(t *testing.T) {
	for events := int64(1); events <= maxEvents; events++ {
		for _, size := range []int{0, 1, 5, maxPlaces} {
			g := repeatedPlace(events, place(0, events-1, 3, 2), size)
			for _, bad := range notUpTo(events - 1) {
				for event := range events {
					n, code := impl.TokenDistance(g, bad, event)
					checkNumber(t, fmt.Sprint("TokenDistance of ", events, " events from ", bad, " to ", event), n, code, 0, impl.ErrRange)
					n, code = impl.TokenDistance(g, event, bad)
					checkNumber(t, fmt.Sprint("TokenDistance of ", events, " events from ", event, " to ", bad), n, code, 0, impl.ErrRange)
				}
				n, code := impl.TokenDistance(g, bad, bad)
				checkNumber(t, fmt.Sprint("TokenDistance of ", events, " events from ", bad, " to itself"), n, code, 0, impl.ErrRange)
			}
			for _, bad := range notUpTo(int64(size) - 1) {
				n, code := impl.TokenBound(g, bad)
				checkNumber(t, fmt.Sprint("TokenBound of ", size, " places at ", bad), n, code, 0, impl.ErrRange)
			}
		}
	}
}

// numberResult makes the number beside a code a list.
func numberResult(call func(g impl.EventGraph) (int64, int64)) graphCall {
	return listResult(func(g impl.EventGraph) ([]int64, int64) {
		n, code := call(g)
		if n == 0 {
			return nil, code
		}
		return []int64{n}, code
	})
}

func answerResult(call func(g impl.EventGraph) (bool, int64)) graphCall {
	return numberResult(func(g impl.EventGraph) (int64, int64) {
		is, code := call(g)
		return int64(slices.Index([]bool{false, true}, is)), code
	})
}

func TestP12ResultsShareNoMemory(t *testing.T) {
	calls := map[string]graphCall{
		"IsLive":        answerResult(impl.IsLive),
		"DeadCycle":     listResult(impl.DeadCycle),
		"FiringOrder":   listResult(impl.FiringOrder),
		"LevelsOf":      listResult(impl.LevelsOf),
		"SourcesOf":     listResult(impl.SourcesOf),
		"IsStrong":      answerResult(impl.IsStrong),
		"TokenDistance": numberResult(func(g impl.EventGraph) (int64, int64) { return impl.TokenDistance(g, g.Events-1, 0) }),
		"TokenBound":    numberResult(func(g impl.EventGraph) (int64, int64) { return impl.TokenBound(g, 0) }),
	}
	for g := range manyNets(newRandom(127), 3) {
		checkGraphCalls(t, calls, g)
		// A graph that is none stays as it is as well.
		checkGraphCalls(t, calls, eventGraph(0, g.Places...))
		checkGraphCalls(t, calls, eventGraph(g.Events, append(slices.Clone(g.Places), place(g.Events, 0, 0, 0))...))
	}
}
