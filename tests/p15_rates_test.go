package tests

import (
	"fmt"
	"math/big"
	"math/rand/v2"
	"slices"
	"strings"
	"testing"

	"loop.example/g00941/impl"
)

// rateParts are the answers of the chapter for one live graph. Where there is no circuit, there is no time.
type rateParts struct {
	best   []int64
	time   *big.Rat
	events []*big.Rat
}

func plainIsCircuit(g impl.EventGraph, list []int64) bool {
	if !plainIsGraph(g) || len(list) == 0 {
		return false
	}
	for _, i := range list {
		if !isWithin(i, 0, int64(len(g.Places))-1) {
			return false
		}
	}
	var events []int64
	for k, i := range list {
		next := list[(k+1)%len(list)]
		if g.Places[i].To != g.Places[next].From {
			return false
		}
		events = append(events, g.Places[i].From)
	}
	return !hasRepeats(events)
}

func isWritten(g impl.EventGraph, circuit []int64) bool {
	for _, i := range circuit {
		if g.Places[i].From < g.Places[circuit[0]].From {
			return false
		}
	}
	return true
}

func sumsAlong(g impl.EventGraph, list []int64) (delay, tokens int64) {
	for _, i := range list {
		delay += g.Places[i].Delay
		tokens += g.Places[i].Tokens
	}
	return delay, tokens
}

// circuitOf writes a set of places as a circuit, or returns nil if they are none. No two of the places lead
// from the same event, and no two to the same, so that only the first event can be met again.
func circuitOf(g impl.EventGraph, set int) []int64 {
	var from, to [maxEvents]int64
	count := int64(0)
	for i, p := range g.Places {
		if set>>i&1 == 0 {
			continue
		}
		if from[p.From] > 0 || to[p.To] > 0 {
			return nil
		}
		count++
		from[p.From], to[p.To] = int64(i+1), count
	}
	first := slices.IndexFunc(from[:], func(i int64) bool { return i > 0 })
	var circuit []int64
	for event := int64(first); from[event] > 0; {
		circuit = append(circuit, from[event]-1)
		event = g.Places[from[event]-1].To
		if event == int64(first) {
			break
		}
	}
	if int64(len(circuit)) < count || !plainIsCircuit(g, circuit) {
		return nil
	}
	return circuit
}

// plainCircuits are all written circuits in lexicographic order, found among all sets of places.
func plainCircuits(g impl.EventGraph) [][]int64 {
	var circuits [][]int64
	for set := 1; set < 1<<len(g.Places); set++ {
		if circuit := circuitOf(g, set); circuit != nil {
			circuits = append(circuits, circuit)
		}
	}
	slices.SortFunc(circuits, slices.Compare[[]int64])
	return circuits
}

// reachedEvents has at from and to whether places that follow one another lead from the one to the other.
func reachedEvents(g impl.EventGraph) [][]bool {
	reached := make([][]bool, g.Events)
	for from := range reached {
		reached[from] = make([]bool, g.Events)
		reached[from][from] = true
		for range g.Events {
			for _, p := range g.Places {
				reached[from][p.To] = reached[from][p.To] || reached[from][p.From]
			}
		}
	}
	return reached
}

func greaterTime(a, b *big.Rat) *big.Rat {
	if a == nil || b.Cmp(a) > 0 {
		return b
	}
	return a
}

// plainRates compares all circuits of a live graph.
func plainRates(g impl.EventGraph) rateParts {
	reached := reachedEvents(g)
	parts := rateParts{events: make([]*big.Rat, g.Events)}
	for _, circuit := range plainCircuits(g) {
		time := big.NewRat(sumsAlong(g, circuit))
		if parts.time == nil || time.Cmp(parts.time) > 0 {
			parts.best, parts.time = circuit, time
		}
		for event, isReached := range reached[g.Places[circuit[0]].From] {
			if isReached {
				parts.events[event] = greaterTime(parts.events[event], time)
			}
		}
	}
	return parts
}

// timeResult is what a function returns whose result is a time.
func timeResult(time *big.Rat) (impl.Ratio, int64) {
	if time == nil {
		return impl.Ratio{}, impl.ErrNotFound
	}
	return wantRatio(time)
}

func excessOf(p impl.Place, r impl.Ratio) int64 { return r.Den*p.Delay - r.Num*p.Tokens }

// holdsAll reports whether x satisfies the inequality of each place.
func holdsAll(g impl.EventGraph, r impl.Ratio, x []int64) bool {
	return !slices.ContainsFunc(g.Places, func(p impl.Place) bool { return x[p.To] < x[p.From]+excessOf(p, r) })
}

// plainTimePotential is what x grows to if all places are followed from 0 again and again, and whether this
// comes to an end.
func plainTimePotential(g impl.EventGraph, r impl.Ratio) ([]int64, bool) {
	x := zeros(int(g.Events))
	for range g.Events {
		for _, p := range g.Places {
			x[p.To] = max(x[p.To], x[p.From]+excessOf(p, r))
		}
	}
	return x, holdsAll(g, r, x)
}

// potentialResult is what TimePotential returns.
func potentialResult(g impl.EventGraph, r impl.Ratio) ([]int64, int64) {
	x, ok := plainTimePotential(g, r)
	if !ok {
		return nil, impl.ErrState
	}
	if slices.Max(x) > maxFinite {
		return nil, impl.ErrLimit
	}
	return x, impl.ErrNone
}

// tightPlaces are the indices of the places whose inequality holds with equality.
func tightPlaces(g impl.EventGraph, r impl.Ratio, x []int64) []int64 {
	var tight []int64
	for i, p := range g.Places {
		if x[p.To] == x[p.From]+excessOf(p, r) {
			tight = append(tight, int64(i))
		}
	}
	return tight
}

// isLeastPotential reports whether no element can be less: from an event at 0, tight places lead to each
// of the others, and add up to what stands there.
func isLeastPotential(g impl.EventGraph, r impl.Ratio, x []int64) bool {
	isBound := make([]bool, len(x))
	for event, element := range x {
		isBound[event] = element == 0
	}
	tight := tightPlaces(g, r, x)
	for range x {
		for _, i := range tight {
			p := g.Places[i]
			isBound[p.To] = isBound[p.To] || isBound[p.From]
		}
	}
	return holdsAll(g, r, x) && slices.Min(x) >= 0 && !slices.Contains(isBound, false)
}

// checkPotentialOf looks at the potential for r, and returns its code.
func checkPotentialOf(t *testing.T, g impl.EventGraph, r impl.Ratio) int64 {
	t.Helper()
	of := fmt.Sprint("TimePotential of ", plainGraphText(g), " for ", r)
	want, wantCode := potentialResult(g, r)
	x, code := impl.TimePotential(g, r)
	checkList(t, of, x, code, want, wantCode)
	if code == impl.ErrNone && (!isLeastPotential(g, r, x) || !impl.IsTimePotential(g, r, x)) {
		t.Errorf("%s = %v, which is not the least one", of, x)
	}
	return code
}

// checkCertified looks at a told cycle time from both sides, without knowing it.
func checkCertified(t *testing.T, g impl.EventGraph) {
	t.Helper()
	of := "CertifyTime of " + plainGraphText(g)
	r, circuit, x, code := impl.CertifyTime(g)
	if code != impl.ErrNone || int64(len(x)) != g.Events {
		t.Fatalf("%s = %v, %v, %v, %d", of, r, circuit, x, code)
	}
	if !plainIsCircuit(g, circuit) || !isWritten(g, circuit) {
		t.Fatalf("%s tells the circuit %v", of, circuit)
	}
	if delay, tokens := sumsAlong(g, circuit); !impl.IsRatio(r) || big.NewRat(delay, tokens).Cmp(big.NewRat(r.Num, r.Den)) != 0 {
		t.Errorf("%s tells %v and the circuit %v with the sums %d and %d", of, r, circuit, delay, tokens)
	}
	if !isLeastPotential(g, r, x) {
		t.Errorf("%s tells %v and the potential %v", of, r, x)
	}
	if !impl.IsCircuit(g, circuit) || !impl.IsTimePotential(g, r, x) {
		t.Errorf("%s = %v, %v, %v, which the other functions deny", of, r, circuit, x)
	}
	again, code := impl.CircuitRatio(g, circuit)
	checkRatio(t, "CircuitRatio of "+plainGraphText(g)+" and "+fmt.Sprint(circuit), again, code, r, impl.ErrNone)
}

// checkTimesOf looks at the times of a live graph and of its events.
func checkTimesOf(t *testing.T, g impl.EventGraph, want rateParts) {
	t.Helper()
	of := " of " + plainGraphText(g)
	wantTime, wantCode := timeResult(want.time)
	r, code := impl.CycleTime(g)
	checkRatio(t, "CycleTime"+of, r, code, wantTime, wantCode)
	circuit, code := impl.BestCircuit(g)
	checkList(t, "BestCircuit"+of, circuit, code, want.best, wantCode)
	r, circuit, x, code := impl.CertifyTime(g)
	checkRatio(t, "CertifyTime"+of, r, code, wantTime, wantCode)
	checkList(t, "CertifyTime"+of, circuit, code, want.best, wantCode)
	var wantPotential []int64
	if want.time != nil {
		wantPotential, _ = plainTimePotential(g, wantTime)
		checkCertified(t, g)
	}
	checkList(t, "CertifyTime"+of, x, code, wantPotential, wantCode)
	for event, time := range want.events {
		want, wantCode := timeResult(time)
		r, code := impl.EventTime(g, int64(event))
		checkRatio(t, fmt.Sprint("EventTime", of, " at ", event), r, code, want, wantCode)
	}
}

// around are places that lead from each event of a list to the next one and back to the first one, with the
// same delay and tokens.
func around(list []int64, delay, tokens int64) string {
	var text strings.Builder
	for k, event := range list {
		fmt.Fprintf(&text, " %d>%d:%d*%d", event, list[(k+1)%len(list)], delay, tokens)
	}
	return text.String()
}

func TestP15CycleTime(t *testing.T) {
	mixed := []int64{3, 0, 8, 5, 9, 1, 7, 2, 6, 4}
	cases := []struct {
		text     string
		best     []int64
		num, den int64
	}{
		{"1 0>0:3*1", []int64{0}, 3, 1},
		{"1 0>0:0*1", []int64{0}, 0, 1},
		{"1 0>0:0*5", []int64{0}, 0, 1},
		{"1 0>0:1000*1", []int64{0}, 1000, 1},
		{"1 0>0:1000*5", []int64{0}, 200, 1},
		{"1 0>0:3*5", []int64{0}, 3, 5},
		{"1 0>0:6*4", []int64{0}, 3, 2},
		{"1 0>0:1*5", []int64{0}, 1, 5},
		// Of several places from an event to itself the slowest one counts, which need not have the greatest
		// delay or the fewest tokens.
		{"1 0>0:3*1 0>0:5*2", []int64{0}, 3, 1},
		{"1 0>0:5*2 0>0:3*1", []int64{1}, 3, 1},
		{"1 0>0:7*2 0>0:3*1", []int64{0}, 7, 2},
		{"1 0>0:3*1 0>0:7*2 0>0:10*3", []int64{1}, 7, 2},
		{"1 0>0:6*2 0>0:3*1 0>0:9*3", []int64{0}, 3, 1},
		{"1 0>0:0*5 0>0:0*1 0>0:0*1", []int64{0}, 0, 1},
		{"1 0>0:0*1 0>0:1*5", []int64{1}, 1, 5},
		{"1" + strings.Repeat(" 0>0:6*4", maxPlaces), []int64{0}, 3, 2},
		{"1" + strings.Repeat(" 0>0:6*4", maxPlaces-1) + " 0>0:7*4", []int64{29}, 7, 4},
		{"2 0>1:5*0 1>0:2*1", []int64{0, 1}, 7, 1},
		{"2 1>0:2*1 0>1:5*0", []int64{1, 0}, 7, 1},
		{"2 1>0:5*0 0>1:2*1", []int64{1, 0}, 7, 1},
		{"2 0>1:5*1 1>0:2*1", []int64{0, 1}, 7, 2},
		{"2 0>1:5*5 1>0:2*5", []int64{0, 1}, 7, 10},
		{"2 0>1:0*0 1>0:0*1", []int64{0, 1}, 0, 1},
		{"2 0>1:5*0 1>0:2*2 0>0:3*1", []int64{0, 1}, 7, 2},
		{"2 0>1:5*0 1>0:2*2 0>0:4*1", []int64{2}, 4, 1},
		// Equal ratios of different circuits: the smallest list of places, whatever its events are.
		{"2 0>1:5*0 1>0:3*2 0>0:4*1", []int64{0, 1}, 4, 1},
		{"2 0>0:4*1 0>1:5*0 1>0:3*2", []int64{0}, 4, 1},
		{"2 1>1:4*1 0>1:5*0 1>0:3*2", []int64{0}, 4, 1},
		{"2 1>0:3*2 1>1:4*1 0>1:5*0", []int64{1}, 4, 1},
		{"2 1>0:3*2 0>1:5*0 1>1:4*1", []int64{1, 0}, 4, 1},
		{"3 2>2:1*1 1>1:1*1 0>0:1*1", []int64{0}, 1, 1},
		{"3 2>1:1*1 1>2:1*1 1>0:1*1 0>1:1*1", []int64{1, 0}, 1, 1},
		{"3 2>1:1*1 0>1:1*1 1>2:1*1 1>0:1*1", []int64{1, 3}, 1, 1},
		{"4 2>3:1*1 0>1:1*1 3>2:1*1 1>0:1*1", []int64{0, 2}, 1, 1},
		{"4 3>2:1*1 0>1:1*1 2>3:1*1 1>0:1*1", []int64{1, 3}, 1, 1},
		// A longer one may be smaller than a shorter one.
		{"3 0>1:1*1 1>2:1*1 2>0:1*1 1>0:1*1", []int64{0, 1, 2}, 1, 1},
		{"3 0>1:1*1 1>0:1*1 1>2:1*1 2>0:1*1", []int64{0, 1}, 1, 1},
		{"3 0>1:1*1 2>0:1*1 1>0:1*1 1>2:1*1", []int64{0, 2}, 1, 1},
		// Several places between the same events.
		{"2 0>1:5*0 0>1:6*0 1>0:2*1", []int64{1, 2}, 8, 1},
		{"2 0>1:6*0 0>1:6*0 1>0:2*1 1>0:2*1", []int64{0, 2}, 8, 1},
		{"2 0>1:5*0 0>1:6*0 1>0:2*1 1>0:1*1", []int64{1, 2}, 8, 1},
		{"2 1>0:2*1 1>0:3*1 0>1:5*0 0>1:5*0", []int64{2, 1}, 8, 1},
		{"2 0>1:5*1 0>1:9*2 1>0:1*1", []int64{1, 2}, 10, 3},
		{"2 0>1:5*1 0>1:8*2 1>0:1*1", []int64{0, 2}, 3, 1},
		{"2 1>0:3*1 0>1:1*1 0>1:5*3 1>0:7*3", []int64{1, 0}, 2, 1},
		// What no circuit goes through does not matter, nor do dead ends.
		{"2 0>0:1*1 0>1:1000*0", []int64{0}, 1, 1},
		{"2 0>1:1000*0 1>1:1*1", []int64{1}, 1, 1},
		{"4 0>1:9*0 1>2:9*0 1>3:9*0 2>1:1*1 3>2:1*0 0>2:9*0", []int64{2, 4, 3}, 11, 1},
		{"4 0>1:9*0 1>2:9*0 2>3:9*0 2>1:1*1", []int64{1, 3}, 10, 1},
		{"5 4>0:9*0 0>4:1*1 4>1:9*0 1>2:9*0 2>1:1*1 3>3:9*1", []int64{1, 0}, 10, 1},
		// A closed walk that goes through an event twice is no circuit.
		{"3 0>1:9*1 1>0:9*1 1>2:1*1 2>1:1*1", []int64{0, 1}, 9, 1},
		{"10" + around(upTo(maxEvents), 1000, 1), upTo(maxEvents), 1000, 1},
		{"10" + around(upTo(maxEvents), 1, 5), upTo(maxEvents), 1, 5},
		{"10" + around(down(maxEvents), 7, 5), append([]int64{9}, upTo(9)...), 7, 5},
		{"10" + around(mixed, 7, 2), append(curve(9, func(i int64) int64 { return i + 1 }), 0), 7, 2},
		{line(upTo(maxEvents), 0) + " 9>0:1*1", upTo(maxEvents), 64, 1},
		{line(upTo(maxEvents), 0) + " 9>0:0*5", upTo(maxEvents), 63, 5},
		{strings.ReplaceAll(line(upTo(maxEvents), 5), ":7", ":1000") + " 9>0:999*5", upTo(maxEvents), 9999, 50},
		{strings.ReplaceAll(line(upTo(maxEvents), 0), ":7", ":1000") + " 9>0:1000*1", upTo(maxEvents), 10000, 1},
		{strings.ReplaceAll(line(upTo(maxEvents), 5), ":7", ":0") + " 9>0:1*5", upTo(maxEvents), 1, 50},
	}
	for _, c := range cases {
		g := graphOf(t, c.text)
		want := rateParts{best: c.best, time: big.NewRat(c.num, c.den)}
		if want.time.Denom().Int64() != c.den {
			t.Errorf("the time %d / %d of %s is not in lowest terms", c.num, c.den, c.text)
		}
		checkTimesOf(t, g, want)
		if len(g.Places) <= 12 {
			checkTimesOf(t, g, plainRates(g))
		}
	}
}

func TestP15WithoutCircuits(t *testing.T) {
	texts := []string{
		"1", "2", "10", "2 0>1:3*0", "2 0>1:3*5", "2 1>0:0*1", "3 0>1:1*1 0>2:1*1 1>2:1*1", "3 2>1:1*1 2>0:1*1 1>0:1*0",
		"2" + strings.Repeat(" 1>0:9*1", maxPlaces), "4 0>3:1*1 1>3:1*1 2>3:1*1", "4 3>0:1*1 3>1:1*1 3>2:1*1",
		line(upTo(maxEvents), 0), line(upTo(maxEvents), 5), line(down(maxEvents), 1),
		strings.ReplaceAll(line(upTo(maxEvents), 5), ":7", ":0"), line(upTo(maxEvents), 1) + strings.Repeat(" 0>9:1000*1", 21),
	}
	for _, text := range texts {
		g := graphOf(t, text)
		checkTimesOf(t, g, rateParts{events: make([]*big.Rat, g.Events)})
	}
}

func TestP15EventTime(t *testing.T) {
	cases := []struct{ text, times string }{
		{"1 0>0:3*2", "3/2"},
		{"1 0>0:0*2", "0/1"},
		{"3 0>0:4*1 0>1:1*0 2>2:7*1 2>1:0*0", "4/1 7/1 7/1"},
		{"3 0>0:7*1 0>1:1*0 2>2:4*1 2>1:0*0", "7/1 7/1 4/1"},
		{"3 0>0:4*1 2>2:7*1", "4/1 - 7/1"},
		{"3 1>0:9*0 1>2:9*0 2>2:5*1", "- - 5/1"},
		{"3 1>0:9*0 0>2:9*0 1>1:5*1", "5/1 5/1 5/1"},
		// The tokens and delays on the way do not matter, nor does how long it is.
		{"2 0>0:4*1 0>1:0*5", "4/1 4/1"},
		{"2 0>0:4*1 0>1:1000*0", "4/1 4/1"},
		{"2 0>0:4*1 1>0:1000*0", "4/1 -"},
		{"2 0>0:4*1 1>0:1000*0 1>1:5*1", "5/1 5/1"},
		{"2 0>0:4*1 1>0:1000*0 1>1:3*1", "4/1 3/1"},
		{"2 0>0:0*1 1>0:1000*0", "0/1 -"},
		{"2 0>0:0*1 0>1:1000*0 1>1:1*5", "0/1 1/5"},
		{"2 0>0:1*5 0>1:1000*0 1>1:0*1", "1/5 1/5"},
		// An event beside the slowest circuit, in front of it, behind it, and on it.
		{"4 0>1:1*0 1>2:4*1 2>1:4*1 2>3:1*0", "- 4/1 4/1 4/1"},
		{"4 0>1:1*0 1>2:4*1 2>1:4*1 2>3:1*0 0>0:3*1 3>3:5*1", "3/1 4/1 4/1 5/1"},
		{"4 0>1:1*0 1>2:4*1 2>1:4*1 2>3:1*0 0>0:5*1 3>3:3*1", "5/1 5/1 5/1 5/1"},
		{"4 0>1:1*0 1>0:1*1 1>2:1*0 2>3:6*0 3>2:1*2", "2/1 2/1 7/2 7/2"},
		{"4 0>1:1*0 1>0:7*2 1>2:1*0 2>3:6*0 3>2:1*2", "4/1 4/1 4/1 4/1"},
		{"4 0>1:1*0 1>0:6*2 1>2:1*0 2>3:6*0 3>2:1*2", "7/2 7/2 7/2 7/2"},
		// All circuits of events that reach each other count, also those that miss the event.
		{"3 0>1:1*1 1>0:1*1 1>2:9*1 2>1:9*1", "9/1 9/1 9/1"},
		{"3 0>0:2*1 1>1:3*1 2>2:5*1 0>1:0*1 1>2:0*1", "2/1 3/1 5/1"},
		{"3 0>0:2*1 1>1:3*1 2>2:5*1 2>1:0*1 1>0:0*1", "5/1 5/1 5/1"},
		{"3 0>0:2*1 1>1:3*1 2>2:5*1 0>1:0*1 0>2:0*1", "2/1 3/1 5/1"},
		{line(upTo(maxEvents), 0) + " 0>0:9*1", strings.Repeat("9/1 ", 10)},
		{line(upTo(maxEvents), 0) + " 9>9:9*1", strings.Repeat("- ", 9) + "9/1"},
		{line(upTo(maxEvents), 0) + " 0>0:9*2 5>4:1*3 9>9:9*1", strings.Repeat("9/2 ", 9) + "9/1"},
		{line(down(maxEvents), 0) + " 5>5:9*2", strings.Repeat("9/2 ", 6) + strings.Repeat("- ", 4)},
		{"10" + around(upTo(maxEvents), 7, 2), strings.Repeat("7/2 ", 10)},
		{"10", strings.Repeat("- ", 10)},
		{"1", "-"},
	}
	for _, c := range cases {
		g := graphOf(t, c.text)
		times := strings.Fields(c.times)
		if int64(len(times)) != g.Events {
			t.Fatalf("%s has %d times", c.text, len(times))
		}
		for event, text := range times {
			time, isTime := new(big.Rat).SetString(text)
			if !isTime {
				time = nil
			}
			want, wantCode := timeResult(time)
			r, code := impl.EventTime(g, int64(event))
			checkRatio(t, fmt.Sprint("EventTime of ", c.text, " at ", event), r, code, want, wantCode)
		}
		if len(g.Places) <= 12 {
			checkTimesOf(t, g, plainRates(g))
		}
	}
}

// narrowNets are live graphs with so few events that many places lead between the same ones, and with so few
// numbers that many circuits are equally slow.
func narrowNets(random *rand.Rand, times int, try func(g impl.EventGraph)) {
	for range times {
		for events := int64(1); events <= 5; events++ {
			for size := range 11 {
				g := eventGraph(events)
				delays, tokens := 1+random.Int64N(6), 1+random.Int64N(3)
				for range size {
					p := place(random.Int64N(events), random.Int64N(events), random.Int64N(delays), random.Int64N(tokens+1))
					if p.From >= p.To {
						p.Tokens = max(p.Tokens, 1)
					}
					g.Places = append(g.Places, p)
				}
				try(g)
			}
		}
	}
}

func TestP15NarrowGraphsFollowTheDefinition(t *testing.T) {
	found := map[string]int{}
	narrowNets(newRandom(153), 12, func(g impl.EventGraph) {
		parts := plainRates(g)
		checkTimesOf(t, g, parts)
		if parts.time == nil {
			found["no circuit"]++
			return
		}
		equal := 0
		for _, circuit := range plainCircuits(g) {
			if big.NewRat(sumsAlong(g, circuit)).Cmp(parts.time) == 0 {
				equal++
			}
		}
		found[fmt.Sprint("several best ", equal > 1)]++
		found[fmt.Sprint("whole ", parts.time.IsInt())]++
		found[fmt.Sprint("best of ", len(parts.best))]++
		found[fmt.Sprint("zero ", parts.time.Sign() == 0)]++
		found[fmt.Sprint("first place ", parts.best[0] == slices.Min(parts.best))]++
	})
	for _, what := range []string{"no circuit", "several best true", "several best false", "whole false", "best of 1", "best of 2", "best of 3", "zero true", "zero false", "first place false"} {
		if found[what] < 20 {
			t.Errorf("the graphs are too much alike: %v", found)
		}
	}
}

func TestP15SmallGraphsFollowTheDefinition(t *testing.T) {
	for n, tokens := range map[int]int{1: maxTokens, 2: maxTokens, 3: 1} {
		live := 0
		for g := range smallGraphs(n, tokens) {
			if isLivePlain(g) {
				checkTimesOf(t, g, plainRates(g))
				live++
			} else {
				checkNoTimes(t, g, 0, impl.ErrState)
			}
		}
		if live < 5 {
			t.Errorf("only %d graphs of %d events are live", live, n)
		}
	}
}

// isGreatestTime reports whether a live graph has a circuit with the ratio r and none with a greater one. A
// place that is not tight for a potential lies on no circuit with the ratio r, and a tight one that lies on
// none is left out at last, when nothing leads to it any more.
func isGreatestTime(g impl.EventGraph, r impl.Ratio) bool {
	x, ok := plainTimePotential(g, r)
	if !ok {
		return false
	}
	left := tightPlaces(g, r, x)
	for range g.Places {
		left = slices.DeleteFunc(left, func(i int64) bool {
			return !slices.ContainsFunc(left, func(k int64) bool { return g.Places[k].To == g.Places[i].From })
		})
	}
	return len(left) > 0
}

// upstreamPart leaves only the places that lead to events from which an event can be reached.
func upstreamPart(g impl.EventGraph, event int64) impl.EventGraph {
	reached := reachedEvents(g)
	part := eventGraph(g.Events)
	for _, p := range g.Places {
		if reached[p.To][event] {
			part.Places = append(part.Places, p)
		}
	}
	return part
}

// tightCircuit is the smallest one of all best circuits, found among the tight places, or nil if these are
// too many.
func tightCircuit(g impl.EventGraph, r impl.Ratio) []int64 {
	x, _ := plainTimePotential(g, r)
	tight := tightPlaces(g, r, x)
	if len(tight) > 14 {
		return nil
	}
	part := eventGraph(g.Events)
	for _, i := range tight {
		part.Places = append(part.Places, g.Places[i])
	}
	circuit := plainCircuits(part)[0]
	for k := range circuit {
		circuit[k] = tight[circuit[k]]
	}
	return circuit
}

// isWithoutCircuits takes away places that lead from events to which none leads, as long as there are some.
func isWithoutCircuits(g impl.EventGraph) bool {
	left := slices.Clone(g.Places)
	for range g.Events {
		left = slices.DeleteFunc(left, func(p impl.Place) bool {
			return !slices.ContainsFunc(left, func(before impl.Place) bool { return before.To == p.From })
		})
	}
	return len(left) == 0
}

// checkGreatest looks at a time that is told of a graph, or of a part of one.
func checkGreatest(t *testing.T, what string, g impl.EventGraph, r impl.Ratio, code int64) int64 {
	t.Helper()
	if isWithoutCircuits(g) {
		checkRatio(t, what, r, code, impl.Ratio{}, impl.ErrNotFound)
	} else if code != impl.ErrNone || !impl.IsRatio(r) || !isGreatestTime(g, r) {
		t.Errorf("%s = %v, %d, which is not the greatest ratio", what, r, code)
	}
	return code
}

func TestP15Promise(t *testing.T) {
	codes := map[int64]int{}
	compared := 0
	for g := range liveNets(newRandom(154), 40) {
		of := " of " + plainGraphText(g)
		r, code := impl.CycleTime(g)
		codes[checkGreatest(t, "CycleTime"+of, g, r, code)]++
		for event := range g.Events {
			time, code := impl.EventTime(g, event)
			checkGreatest(t, fmt.Sprint("EventTime", of, " at ", event), upstreamPart(g, event), time, code)
		}
		if code != impl.ErrNone {
			checkNoTimes(t, g, 0, code)
			continue
		}
		checkCertified(t, g)
		best, code := impl.BestCircuit(g)
		if circuit := tightCircuit(g, r); circuit != nil {
			checkList(t, "BestCircuit"+of, best, code, circuit, impl.ErrNone)
			compared++
		}
	}
	checkVaried(t, codes, map[int64]int{impl.ErrNone: 700, impl.ErrNotFound: 100})
	if compared < 700 {
		t.Errorf("only %d best circuits are compared", compared)
	}
}

// A time is reached and not exceeded also where there are as many circuits as there can be.
func TestP15ManyCircuits(t *testing.T) {
	random := newRandom(155)
	for _, list := range [][]int64{upTo(maxEvents), down(maxEvents), {3, 0, 8, 5, 9, 1, 7, 2, 6, 4}} {
		for _, delays := range []int64{1, 2, maxDelay + 1} {
			g := graphOf(t, "10"+strings.Repeat(around(list, 0, 1), 3))
			for i := range g.Places {
				g.Places[i].Delay = random.Int64N(delays)
				g.Places[i].Tokens += random.Int64N(maxTokens)
			}
			checkCertified(t, g)
			r, code := impl.CycleTime(g)
			checkGreatest(t, "CycleTime of "+plainGraphText(g), g, r, code)
		}
	}
}

// The state matrix has cycles for the circuits, so that its means are the times of the graph.
func TestP15TimesAreMeansOfTheStateMatrix(t *testing.T) {
	codes := map[int64]int{}
	for g := range liveNets(newRandom(156), 60) {
		h := fewTokens(g, max(1, maxSize/g.Events))
		if !isLivePlain(h) {
			continue
		}
		a, code := impl.StateMatrix(h)
		if code != impl.ErrNone {
			continue
		}
		want, wantCode := impl.CycleMean(a)
		r, code := impl.CycleTime(h)
		checkRatio(t, "CycleTime of "+plainGraphText(h), r, code, want, wantCode)
		for event := range h.Events {
			want, wantCode := impl.UpstreamMean(a, event)
			r, code := impl.EventTime(h, event)
			checkRatio(t, fmt.Sprint("EventTime of ", plainGraphText(h), " at ", event), r, code, want, wantCode)
		}
		codes[code]++
	}
	checkVaried(t, codes, map[int64]int{impl.ErrNone: 500, impl.ErrNotFound: 100})
}

// checkGrowth compares firing times with the cycle time. They grow by no more than it, but for the potential;
// and on a circuit they grow by its delays while its tokens go round once.
func checkGrowth(t *testing.T, g impl.EventGraph) {
	t.Helper()
	times, code := impl.FiringTimes(g, maxFirings)
	r, circuit, x, timeCode := impl.CertifyTime(g)
	if code != impl.ErrNone || timeCode != impl.ErrNone {
		t.Fatalf("FiringTimes and CertifyTime of %s = %d, %d", plainGraphText(g), code, timeCode)
	}
	for k, row := range times {
		for event, time := range row {
			if r.Den*time > r.Num*int64(k)+x[event] {
				t.Errorf("the event %d of %s fires too late for the cycle time %v: %v", event, plainGraphText(g), r, times)
			}
		}
	}
	delay, tokens := sumsAlong(g, circuit)
	for _, i := range circuit {
		event := g.Places[i].From
		for k := range int64(maxFirings) - tokens {
			if times[k+tokens][event] < times[k][event]+delay {
				t.Errorf("the event %d of %s fires too early for the circuit %v: %v", event, plainGraphText(g), circuit, times)
			}
		}
	}
}

func TestP15FiringTimesGrowWithTheCycleTime(t *testing.T) {
	slow := 0
	for g := range liveNets(newRandom(157), 15) {
		if r, code := impl.CycleTime(g); code == impl.ErrNone {
			checkGrowth(t, g)
			if r.Num > 0 {
				slow++
			}
		}
	}
	if slow < 300 {
		t.Errorf("only %d graphs have a cycle time greater than 0", slow)
	}
}

// Neither the order of the places nor faster places beside slower ones change a time.
func TestP15TimesOfOtherOrders(t *testing.T) {
	random := newRandom(158)
	for g := range liveNets(random, 10) {
		want, wantCode := impl.CycleTime(g)
		shuffled := copyGraph(g)
		random.Shuffle(len(g.Places), func(i, j int) {
			shuffled.Places[i], shuffled.Places[j] = shuffled.Places[j], shuffled.Places[i]
		})
		simple, _ := impl.SimplifyGraph(g)
		for _, h := range []impl.EventGraph{shuffled, simple} {
			r, code := impl.CycleTime(h)
			checkRatio(t, "CycleTime of "+plainGraphText(h), r, code, want, wantCode)
			event := random.Int64N(g.Events)
			want, wantCode := impl.EventTime(g, event)
			r, code = impl.EventTime(h, event)
			checkRatio(t, fmt.Sprint("EventTime of ", plainGraphText(h), " at ", event), r, code, want, wantCode)
		}
	}
}

// checkCircuit looks at the answers about a list of places.
func checkCircuit(t *testing.T, g impl.EventGraph, list []int64, want impl.Ratio, wantCode int64) {
	t.Helper()
	of := fmt.Sprint(" of ", plainGraphText(g), " and ", list)
	isCircuit := wantCode == impl.ErrNone || wantCode == impl.ErrState
	if is := impl.IsCircuit(g, list); is != isCircuit {
		t.Errorf("IsCircuit%s = %v", of, is)
	}
	r, code := impl.CircuitRatio(g, list)
	checkRatio(t, "CircuitRatio"+of, r, code, want, wantCode)
}

// checkDefinedCircuit looks at the answers about a list of places of a valid graph by the definition, and
// returns whether it is a circuit.
func checkDefinedCircuit(t *testing.T, g impl.EventGraph, list []int64) bool {
	t.Helper()
	if !plainIsCircuit(g, list) {
		checkCircuit(t, g, list, impl.Ratio{}, impl.ErrNotFound)
		return false
	}
	delay, tokens := sumsAlong(g, list)
	if tokens == 0 {
		checkCircuit(t, g, list, impl.Ratio{}, impl.ErrState)
		return true
	}
	want, _ := wantRatio(big.NewRat(delay, tokens))
	checkCircuit(t, g, list, want, impl.ErrNone)
	return true
}

func TestP15CircuitRatio(t *testing.T) {
	net := "3 0>1:5*0 1>0:2*2 0>0:3*1 1>2:1*0 2>0:4*2 0>1:8*1 2>2:0*0 2>1:9*0"
	ringed := "10" + around(upTo(maxEvents), 1000, 5)
	none, still := impl.Ratio{}, int64(impl.ErrState)
	cases := []struct {
		text string
		list []int64
		want impl.Ratio
		code int64
	}{
		{net, []int64{0, 1}, ratio(7, 2), impl.ErrNone},
		{net, []int64{1, 0}, ratio(7, 2), impl.ErrNone},
		{net, []int64{5, 1}, ratio(10, 3), impl.ErrNone},
		{net, []int64{1, 5}, ratio(10, 3), impl.ErrNone},
		{net, []int64{2}, ratio(3, 1), impl.ErrNone},
		{net, []int64{0, 3, 4}, ratio(5, 1), impl.ErrNone},
		{net, []int64{3, 4, 0}, ratio(5, 1), impl.ErrNone},
		{net, []int64{4, 0, 3}, ratio(5, 1), impl.ErrNone},
		{net, []int64{4, 5, 3}, ratio(13, 3), impl.ErrNone},
		// Without tokens there is a circuit, but no ratio, whatever the delays are.
		{net, []int64{6}, none, still},
		{net, []int64{3, 7}, none, still},
		{net, []int64{7, 3}, none, still},
		{"1 0>0:0*0", []int64{0}, none, still},
		{"1 0>0:1000*0", []int64{0}, none, still},
		{"1 0>0:0*1", []int64{0}, ratio(0, 1), impl.ErrNone},
		{"1 0>0:0*5", []int64{0}, ratio(0, 1), impl.ErrNone},
		{"1 0>0:1000*5", []int64{0}, ratio(200, 1), impl.ErrNone},
		{"1 0>0:6*4", []int64{0}, ratio(3, 2), impl.ErrNone},
		{"1 0>0:3*0 0>0:6*4", []int64{1}, ratio(3, 2), impl.ErrNone},
		{"2 0>1:3*0 1>0:3*4", []int64{0, 1}, ratio(3, 2), impl.ErrNone},
		{"2 0>1:0*1 1>0:0*1", []int64{0, 1}, ratio(0, 1), impl.ErrNone},
		// Lists that do not lead on, do not lead back, or meet an event twice.
		{net, nil, none, impl.ErrNotFound},
		{net, []int64{0}, none, impl.ErrNotFound},
		{net, []int64{1}, none, impl.ErrNotFound},
		{net, []int64{0, 3}, none, impl.ErrNotFound},
		{net, []int64{3, 4}, none, impl.ErrNotFound},
		{net, []int64{0, 4, 3}, none, impl.ErrNotFound},
		{net, []int64{0, 5}, none, impl.ErrNotFound},
		{net, []int64{0, 1, 2}, none, impl.ErrNotFound},
		{net, []int64{2, 0, 1}, none, impl.ErrNotFound},
		{net, []int64{0, 1, 5, 1}, none, impl.ErrNotFound},
		{net, []int64{2, 2}, none, impl.ErrNotFound},
		{net, []int64{0, 3, 6, 4}, none, impl.ErrNotFound},
		{net, []int64{0, 1, 0, 1}, none, impl.ErrNotFound},
		{net, []int64{2, 6}, none, impl.ErrNotFound},
		// Indices that no place has.
		{net, []int64{8}, none, impl.ErrNotFound},
		{net, []int64{0, 8}, none, impl.ErrNotFound},
		{net, []int64{-1}, none, impl.ErrNotFound},
		{net, []int64{-1, 1}, none, impl.ErrNotFound},
		{net, []int64{0, 1, 8}, none, impl.ErrNotFound},
		{"1", []int64{0}, none, impl.ErrNotFound},
		{"1", nil, none, impl.ErrNotFound},
		{"10", []int64{0}, none, impl.ErrNotFound},
		{ringed, upTo(maxEvents), ratio(200, 1), impl.ErrNone},
		{ringed, append([]int64{9}, upTo(9)...), ratio(200, 1), impl.ErrNone},
		{ringed, down(maxEvents), none, impl.ErrNotFound},
		{ringed, upTo(9), none, impl.ErrNotFound},
		{ringed, append(upTo(maxEvents), 0), none, impl.ErrNotFound},
		{ringed, append(upTo(maxEvents), upTo(maxEvents)...), none, impl.ErrNotFound},
		{strings.Replace(ringed, ":1000*5", ":999*5", 1), upTo(maxEvents), ratio(9999, 50), impl.ErrNone},
		{"10" + around(upTo(maxEvents), 0, 0), upTo(maxEvents), none, still},
		{"10" + around(upTo(maxEvents), 1000, 0), upTo(maxEvents), none, still},
		{"10" + around(upTo(maxEvents), 0, 5), upTo(maxEvents), ratio(0, 1), impl.ErrNone},
		{"10" + strings.Repeat(" 9>9:9*3", maxPlaces), []int64{29}, ratio(3, 1), impl.ErrNone},
		{"10" + strings.Repeat(" 9>9:9*3", maxPlaces), []int64{30}, none, impl.ErrNotFound},
		{"10" + strings.Repeat(" 9>9:9*3", maxPlaces), []int64{29, 29}, none, impl.ErrNotFound},
	}
	for _, c := range cases {
		g := graphOf(t, c.text)
		checkCircuit(t, g, c.list, c.want, c.code)
		checkDefinedCircuit(t, g, c.list)
	}
}

// All short lists over the indices of small graphs, and one index more at both ends.
func TestP15AllShortLists(t *testing.T) {
	random := newRandom(159)
	circuits := 0
	for range 150 {
		g := someEventGraph(random, 1+random.Int64N(3), random.IntN(6), 3)
		for length := range 5 {
			lists(len(g.Places)+2, length, func(list []int64) {
				moved := curve(int64(length), func(k int64) int64 { return list[k] - 1 })
				if checkDefinedCircuit(t, g, moved) {
					circuits++
				}
			})
		}
	}
	if circuits < 200 {
		t.Errorf("only %d lists are circuits", circuits)
	}
}

// nearCircuits are lists of which some are no circuits, because one thing is different.
func nearCircuits(random *rand.Rand, g impl.EventGraph, circuit []int64) [][]int64 {
	var list [][]int64
	for k := range circuit {
		list = append(list,
			slices.Concat(circuit[k:], circuit[:k]),
			slices.Concat(circuit[:k], circuit[k+1:]),
			slices.Concat(circuit[:k+1], circuit[k:]),
			slices.Concat(circuit[:k], []int64{random.Int64N(int64(len(g.Places)))}, circuit[k:]),
		)
		for i := range int64(len(g.Places)) {
			list = append(list, slices.Concat(circuit[:k], []int64{i}, circuit[k+1:]))
		}
		for _, bad := range notUpTo(int64(len(g.Places)) - 1) {
			list = append(list, slices.Concat(circuit[:k], []int64{bad}, circuit[k+1:]), slices.Concat(circuit[:k], []int64{bad}, circuit[k:]))
		}
	}
	backwards := slices.Clone(circuit)
	slices.Reverse(backwards)
	return append(list, backwards, slices.Concat(circuit, circuit), slices.Repeat(circuit, 1000))
}

func TestP15NearCircuits(t *testing.T) {
	random := newRandom(160)
	found := map[bool]int{}
	for g := range liveNets(random, 5) {
		circuit, code := impl.BestCircuit(g)
		if code != impl.ErrNone {
			continue
		}
		for _, list := range nearCircuits(random, g, circuit) {
			found[checkDefinedCircuit(t, g, list)]++
		}
		// The ratio of a circuit does not need a live graph.
		for i := range g.Places {
			g.Places[i].Tokens = max(0, g.Places[i].Tokens-4)
		}
		checkDefinedCircuit(t, g, circuit)
	}
	if found[true] < 500 || found[false] < 500 {
		t.Errorf("the lists are too much alike: %v", found)
	}
}

// nearTimes are ratios below, at and above one, some of them close to it.
func nearTimes(r impl.Ratio) []impl.Ratio {
	list := []impl.Ratio{r}
	for _, factor := range []int64{1, 7, 900, maxFinite / r.Den} {
		for _, step := range []int64{-1, 1} {
			near, code := wantRatio(big.NewRat(factor*r.Num+step, factor*r.Den))
			if code == impl.ErrNone {
				list = append(list, near)
			}
		}
	}
	return list
}

func TestP15PotentialsFollowTheDefinition(t *testing.T) {
	random := newRandom(161)
	codes := map[int64]int{}
	for g := range manyNets(random, 20) {
		ratios := someRatios(random)
		if r, code := impl.CycleTime(g); code == impl.ErrNone {
			ratios = append(ratios, nearTimes(r)...)
		}
		for _, r := range ratios {
			codes[checkPotentialOf(t, g, r)]++
		}
	}
	checkVaried(t, codes, map[int64]int{impl.ErrNone: 1000, impl.ErrState: 1000, impl.ErrLimit: 300})
}

// Just below the cycle time there is no potential, and from there on there is one.
func TestP15PotentialsAroundTheCycleTime(t *testing.T) {
	for g := range liveNets(newRandom(162), 12) {
		time, code := impl.CycleTime(g)
		if code != impl.ErrNone {
			continue
		}
		for _, r := range nearTimes(time) {
			_, code := impl.TimePotential(g, r)
			below, _ := impl.CompareRatios(r, time)
			if (below < 0) != (code == impl.ErrState) || r == time && code != impl.ErrNone {
				t.Errorf("TimePotential of %s with the cycle time %v for %v has the code %d", plainGraphText(g), time, r, code)
			}
		}
	}
}

func TestP15TimePotential(t *testing.T) {
	net := "3 0>1:5*0 1>0:2*2 0>0:3*1 1>2:1*0 2>0:4*2"
	chain := strings.ReplaceAll(line(upTo(maxEvents), 0), ":7", ":1000")
	cases := []struct {
		text string
		r    impl.Ratio
		want []int64
		code int64
	}{
		{net, ratio(5, 1), []int64{0, 5, 6}, impl.ErrNone},
		{net, ratio(11, 2), []int64{0, 10, 12}, impl.ErrNone},
		{net, ratio(9, 2), nil, impl.ErrState},
		{net, ratio(999999, 200000), nil, impl.ErrState},
		{net, ratio(500001, 100000), []int64{0, 500000, 600000}, impl.ErrNone},
		{net, ratio(833334, 166667), nil, impl.ErrState},
		{net, ratio(833336, 166667), nil, impl.ErrLimit},
		{net, ratio(833331, 166666), []int64{0, 833330, 999996}, impl.ErrNone},
		{net, ratio(maxFinite, 1), []int64{0, 5, 6}, impl.ErrNone},
		{net, ratio(0, 1), nil, impl.ErrState},
		{net, ratio(-1, 1), nil, impl.ErrState},
		{"1", ratio(0, 1), []int64{0}, impl.ErrNone},
		{"1", ratio(-maxFinite, 1), []int64{0}, impl.ErrNone},
		{"10", ratio(1, maxFinite), zeros(maxEvents), impl.ErrNone},
		{"1 0>0:0*1", ratio(0, 1), []int64{0}, impl.ErrNone},
		{"1 0>0:0*1", ratio(-1, maxFinite), nil, impl.ErrState},
		{"1 0>0:0*1", ratio(1, maxFinite), []int64{0}, impl.ErrNone},
		{"1 0>0:1000*5", ratio(200, 1), []int64{0}, impl.ErrNone},
		{"1 0>0:1000*5", ratio(199, 1), nil, impl.ErrState},
		{"1 0>0:7*2", ratio(7, 2), []int64{0}, impl.ErrNone},
		{"1 0>0:7*2", ratio(10, 3), nil, impl.ErrState},
		{"1 0>0:7*2", ratio(11, 3), []int64{0}, impl.ErrNone},
		// A graph that is not live has a potential if its dead cycles have no delays.
		{"1 0>0:0*0", ratio(0, 1), []int64{0}, impl.ErrNone},
		{"1 0>0:0*0", ratio(-maxFinite, 1), []int64{0}, impl.ErrNone},
		{"1 0>0:1*0", ratio(maxFinite, 1), nil, impl.ErrState},
		{"2 0>1:0*0 1>0:0*0", ratio(1, 2), []int64{0, 0}, impl.ErrNone},
		{"2 0>1:0*0 1>0:1*0", ratio(maxFinite, 1), nil, impl.ErrState},
		{"3 0>1:0*0 1>0:0*0 1>2:4*0 0>0:9*3", ratio(3, 1), []int64{0, 0, 4}, impl.ErrNone},
		{"3 0>1:0*0 1>0:0*0 1>2:4*0 0>0:9*3", ratio(2, 1), nil, impl.ErrState},
		// Tokens give time if the ratio is greater than 0, take it if it is less, and do not count at 0.
		{"2 0>1:9*2", ratio(0, 1), []int64{0, 9}, impl.ErrNone},
		{"2 0>1:9*2", ratio(4, 1), []int64{0, 1}, impl.ErrNone},
		{"2 0>1:9*2", ratio(9, 2), []int64{0, 0}, impl.ErrNone},
		{"2 0>1:9*2", ratio(5, 1), []int64{0, 0}, impl.ErrNone},
		{"2 0>1:9*2", ratio(-5, 1), []int64{0, 19}, impl.ErrNone},
		{"2 0>1:9*2", ratio(-5, 3), []int64{0, 37}, impl.ErrNone},
		{"2 1>0:9*2", ratio(-5, 3), []int64{37, 0}, impl.ErrNone},
		// Of several places the one counts that asks for most, which depends on the ratio.
		{"2 0>1:5*0 0>1:9*2", ratio(1, 1), []int64{0, 7}, impl.ErrNone},
		{"2 0>1:5*0 0>1:9*2", ratio(2, 1), []int64{0, 5}, impl.ErrNone},
		{"2 0>1:5*0 0>1:9*2", ratio(3, 1), []int64{0, 5}, impl.ErrNone},
		{"3 0>1:5*0 1>2:4*0 0>2:8*0", ratio(1, 1), []int64{0, 5, 9}, impl.ErrNone},
		{"3 0>1:5*0 1>2:4*0 0>2:10*0", ratio(1, 1), []int64{0, 5, 10}, impl.ErrNone},
		{"3 0>1:5*0 1>2:4*2 2>0:1*0", ratio(5, 1), []int64{1, 6, 0}, impl.ErrNone},
		{"3 0>1:5*0 1>2:4*2 2>0:1*0", ratio(6, 1), []int64{1, 6, 0}, impl.ErrNone},
		// Elements that are just finite, and just not.
		{"2 0>1:1000*0", ratio(1, 1000), []int64{0, maxFinite}, impl.ErrNone},
		{"2 0>1:1000*0", ratio(1, 1001), nil, impl.ErrLimit},
		{"2 0>1:1000*0", ratio(1, maxFinite), nil, impl.ErrLimit},
		{"2 0>1:1*0", ratio(1, maxFinite), []int64{0, maxFinite}, impl.ErrNone},
		{"2 0>1:2*1", ratio(maxFinite-1, maxFinite), nil, impl.ErrLimit},
		{"2 0>1:2*2", ratio(maxFinite-1, maxFinite), []int64{0, 2}, impl.ErrNone},
		{"2 0>1:0*1", ratio(-maxFinite, 1), []int64{0, maxFinite}, impl.ErrNone},
		{"2 0>1:1*1", ratio(-maxFinite, 1), nil, impl.ErrLimit},
		{"2 0>1:1*1", ratio(-maxFinite+1, 1), []int64{0, maxFinite}, impl.ErrNone},
		{"2 0>1:0*5", ratio(-200000, 1), []int64{0, maxFinite}, impl.ErrNone},
		{"2 0>1:0*5", ratio(-200001, 1), nil, impl.ErrLimit},
		{"2 0>1:0*5", ratio(maxFinite, 1), []int64{0, 0}, impl.ErrNone},
		{"3 0>1:0*1 1>2:1*0", ratio(-999999, 1), []int64{0, 999999, maxFinite}, impl.ErrNone},
		{"3 0>1:0*1 1>2:2*0", ratio(-999999, 1), nil, impl.ErrLimit},
		{"3 0>1:1000*0 1>2:0*5", ratio(1, maxFinite), nil, impl.ErrLimit},
		// No element is too great, though a single place asks for much less.
		{"3 0>1:1000*0 1>2:1000*5", ratio(1000, 1), []int64{0, 1000, 0}, impl.ErrNone},
		{chain, ratio(0, 1), curve(maxEvents, func(i int64) int64 { return 1000 * i }), impl.ErrNone},
		{chain, ratio(1, 111), curve(maxEvents, func(i int64) int64 { return 111000 * i }), impl.ErrNone},
		{chain, ratio(1, 112), nil, impl.ErrLimit},
		// A circuit that is too slow is told before an element that is not finite.
		{"3 0>1:1000*0 2>2:1*1", ratio(1, 1001), nil, impl.ErrState},
		{"3 2>1:1000*0 0>0:1*1", ratio(-1001, 1), nil, impl.ErrState},
	}
	for _, c := range cases {
		g := graphOf(t, c.text)
		x, code := impl.TimePotential(g, c.r)
		checkList(t, fmt.Sprint("TimePotential of ", c.text, " for ", c.r), x, code, c.want, c.code)
		checkPotentialOf(t, g, c.r)
	}
}

func TestP15IsTimePotential(t *testing.T) {
	net := "3 0>1:5*0 1>0:2*2 0>0:3*1 1>2:1*0 2>0:4*2"
	cases := []struct {
		text string
		r    impl.Ratio
		x    []int64
		want bool
	}{
		{net, ratio(5, 1), []int64{0, 5, 6}, true},
		{net, ratio(5, 1), []int64{-7, -2, -1}, true},
		{net, ratio(5, 1), []int64{0, 4, 6}, false},
		{net, ratio(5, 1), []int64{0, 6, 6}, false},
		{net, ratio(5, 1), []int64{0, 5, 5}, false},
		{net, ratio(5, 1), []int64{0, 5, 7}, false},
		{net, ratio(5, 1), []int64{-1, 5, 6}, false},
		{net, ratio(5, 1), []int64{1, 5, 6}, false},
		{net, ratio(4, 1), []int64{0, 5, 6}, false},
		{net, ratio(6, 1), []int64{0, 5, 6}, true},
		{net, ratio(6, 1), []int64{0, 6, 7}, true},
		{net, ratio(6, 1), []int64{0, 7, 8}, true},
		{net, ratio(6, 1), []int64{0, 7, 9}, false},
		{net, ratio(5, 1), []int64{999994, 999999, maxFinite}, true},
		{net, ratio(5, 1), []int64{999995, maxFinite, maxFinite + 1}, false},
		{net, ratio(5, 1), []int64{-maxFinite, -maxFinite + 5, -maxFinite + 6}, true},
		{net, ratio(5, 1), []int64{-maxFinite - 1, -maxFinite + 4, -maxFinite + 5}, false},
		{net, ratio(5, 1), []int64{0, 5}, false},
		{net, ratio(5, 1), []int64{0, 5, 6, 0}, false},
		{net, ratio(5, 1), nil, false},
		// A place from an event to itself speaks against a ratio, whatever the list is.
		{"1 0>0:7*2", ratio(7, 2), []int64{0}, true},
		{"1 0>0:7*2", ratio(7, 2), []int64{-maxFinite}, true},
		{"1 0>0:7*2", ratio(10, 3), []int64{0}, false},
		{"1 0>0:7*2", ratio(10, 3), []int64{maxFinite}, false},
		{"1 0>0:7*2", ratio(11, 3), []int64{0}, true},
		{"1 0>0:0*0", ratio(-maxFinite, 1), []int64{0}, true},
		{"1 0>0:1*0", ratio(maxFinite, 1), []int64{0}, false},
		{"1", ratio(0, 1), []int64{maxFinite}, true},
		{"1", ratio(0, 1), []int64{maxFinite + 1}, false},
		{"1", ratio(0, 1), []int64{bottom}, false},
		{"1", ratio(0, 1), nil, false},
		{"1", ratio(0, 1), []int64{0, 0}, false},
		{"2 0>1:1000*0", ratio(1, 1000), []int64{0, maxFinite}, true},
		{"2 0>1:1000*0", ratio(1, 1001), []int64{0, maxFinite}, false},
		{"2 0>1:1000*0", ratio(1, 1001), []int64{-1000, maxFinite}, true},
		{"2 0>1:1000*0", ratio(1, 2000), []int64{-maxFinite, maxFinite}, true},
		{"2 0>1:1000*0", ratio(1, 2001), []int64{-maxFinite, maxFinite}, false},
		{"2 0>1:9*2", ratio(-5, 3), []int64{0, 37}, true},
		{"2 0>1:9*2", ratio(-5, 3), []int64{0, 36}, false},
		{"2 1>0:9*2", ratio(9, 2), []int64{3, 3}, true},
		{"2 1>0:9*2", ratio(9, 2), []int64{3, 4}, false},
		{"2 1>0:9*2", ratio(5, 1), []int64{3, 4}, true},
		{"2 1>0:9*2", ratio(5, 1), []int64{3, 5}, false},
		{"10", ratio(0, 1), curve(maxEvents, func(i int64) int64 { return 200000*i - 900000 }), true},
		{"10 0>9:1000*0", ratio(1, 1800), curve(maxEvents, func(i int64) int64 { return 200000*i - 900000 }), true},
		{"10 0>9:1000*0", ratio(1, 1801), curve(maxEvents, func(i int64) int64 { return 200000*i - 900000 }), false},
	}
	for _, c := range cases {
		if is := impl.IsTimePotential(graphOf(t, c.text), c.r, c.x); is != c.want {
			t.Errorf("IsTimePotential of %s for %v and %v = %v", c.text, c.r, c.x, is)
		}
	}
}

// checkListFor compares the answer about a list of any length and any numbers with the definition.
func checkListFor(t *testing.T, g impl.EventGraph, r impl.Ratio, x []int64) {
	t.Helper()
	isFinite := !slices.ContainsFunc(x, func(a int64) bool { return !isFiniteNumber(a) })
	want := int64(len(x)) == g.Events && isFinite && holdsAll(g, r, x)
	if is := impl.IsTimePotential(g, r, x); is != want {
		t.Errorf("IsTimePotential of %s for %v and %v = %v", plainGraphText(g), r, x, is)
	}
}

// Lists that differ from a potential in one element, by 1 or so much that the element is not finite any
// more, or in their length.
func TestP15NearPotentials(t *testing.T) {
	random := newRandom(163)
	missed := 0
	for g := range manyNets(random, 3) {
		for _, r := range append(someRatios(random), ratio(random.Int64N(300), 1)) {
			x, code := impl.TimePotential(g, r)
			if code != impl.ErrNone {
				continue
			}
			checkListFor(t, g, r, x[:len(x)-1])
			checkListFor(t, g, r, append(slices.Clone(x), x[0]))
			for event := range x {
				for _, other := range append(notUpTo(maxFinite), -maxFinite, maxFinite, x[event]-1, x[event]+1, 0, -1) {
					y := slices.Clone(x)
					y[event] = other
					checkListFor(t, g, r, y)
				}
				lower := slices.Clone(x)
				lower[event]--
				if !holdsAll(g, r, lower) {
					missed++
				}
			}
			moved := curve(g.Events, func(event int64) int64 { return x[event] - maxFinite })
			checkListFor(t, g, r, moved)
		}
	}
	if missed < 500 {
		t.Errorf("only %d lists miss a place by 1", missed)
	}
}

// checkNoTimes makes the calls that need a live graph with a circuit.
func checkNoTimes(t *testing.T, g impl.EventGraph, event int64, wantCode int64) {
	t.Helper()
	of := " of " + plainGraphText(g)
	r, code := impl.CycleTime(g)
	checkRatio(t, "CycleTime"+of, r, code, impl.Ratio{}, wantCode)
	circuit, code := impl.BestCircuit(g)
	checkList(t, "BestCircuit"+of, circuit, code, nil, wantCode)
	r, code = impl.EventTime(g, event)
	checkRatio(t, "EventTime"+of, r, code, impl.Ratio{}, wantCode)
	r, circuit, x, code := impl.CertifyTime(g)
	checkRatio(t, "CertifyTime"+of, r, code, impl.Ratio{}, wantCode)
	checkList(t, "CertifyTime"+of, circuit, code, nil, wantCode)
	checkList(t, "CertifyTime"+of, x, code, nil, wantCode)
}

// The graph is looked at before all else.
func TestP15InvalidGraphs(t *testing.T) {
	for _, bad := range notEventGraphs() {
		size := int64(len(bad.Places))
		for _, i := range append(notUpTo(maxPlaces), 0, 1, size-1, size, bad.Events-1, bad.Events) {
			checkNoTimes(t, bad, i, impl.ErrInvalid)
			checkCircuit(t, bad, []int64{i}, impl.Ratio{}, impl.ErrInvalid)
			checkCircuit(t, bad, []int64{0, i}, impl.Ratio{}, impl.ErrInvalid)
		}
		checkCircuit(t, bad, nil, impl.Ratio{}, impl.ErrInvalid)
		for _, r := range append(notRatios(), ratio(0, 1), ratio(1, 2), ratio(maxFinite, 1)) {
			x, code := impl.TimePotential(bad, r)
			checkList(t, fmt.Sprint("TimePotential of no graph for ", r), x, code, nil, impl.ErrInvalid)
			for _, x := range [][]int64{nil, {0}, {0, 0}, zeros(maxEvents), zeros(maxEvents + 1)} {
				if impl.IsTimePotential(bad, r, x) {
					t.Errorf("IsTimePotential of %v for %v and %v = true", bad, r, x)
				}
			}
		}
	}
}

// A ratio that is none is looked at before it matters whether there is a potential for it.
func TestP15InvalidRatios(t *testing.T) {
	graphs := deadGraphs(t)
	for _, text := range []string{"1", "1 0>0:0*0", "1 0>0:3*1", "2 0>1:5*0 1>0:2*1 0>0:3*1", "2 0>1:1000*0", "10"} {
		graphs = append(graphs, graphOf(t, text))
	}
	for _, g := range graphs {
		for _, bad := range notRatios() {
			x, code := impl.TimePotential(g, bad)
			checkList(t, fmt.Sprint("TimePotential of ", plainGraphText(g), " for ", bad), x, code, nil, impl.ErrInvalid)
			for _, a := range []int64{0, -1, 1, -maxFinite, maxFinite} {
				for size := range int(g.Events) + 2 {
					if impl.IsTimePotential(g, bad, constant(size, a)) {
						t.Errorf("IsTimePotential of %s for %v and %d = true", plainGraphText(g), bad, a)
					}
				}
			}
		}
	}
}

// An event is looked at before it matters whether the graph is live, and this before a circuit.
func TestP15NotInRange(t *testing.T) {
	graphs := deadGraphs(t)
	for _, text := range []string{"1", "2 0>1:3*1", "10", "1 0>0:3*1", "2 0>1:5*0 1>0:2*1 0>0:3*1", "10" + around(upTo(maxEvents), 1, 1)} {
		graphs = append(graphs, graphOf(t, text))
	}
	for _, g := range graphs {
		for _, bad := range notUpTo(g.Events - 1) {
			r, code := impl.EventTime(g, bad)
			checkRatio(t, fmt.Sprint("EventTime of ", plainGraphText(g), " at ", bad), r, code, impl.Ratio{}, impl.ErrRange)
		}
	}
}

// A graph that is not live has no times, also of events that could fire, and whether or not it has circuits
// with tokens.
func TestP15DeadGraphs(t *testing.T) {
	graphs := deadGraphs(t)
	for g := range manyNets(newRandom(164), 20) {
		if !isLivePlain(g) {
			graphs = append(graphs, g)
		}
	}
	for _, g := range graphs {
		for event := range g.Events {
			checkNoTimes(t, g, event, impl.ErrState)
		}
	}
}

// ratioRows makes a ratio beside a code a table.
func ratioRows(r impl.Ratio, code int64) ([][]int64, int64) {
	return [][]int64{{r.Num, r.Den}}, code
}

func TestP15ResultsShareNoMemory(t *testing.T) {
	random := newRandom(165)
	for g := range manyNets(random, 4) {
		event, r := random.Int64N(g.Events), ratio(random.Int64N(500), 1)
		calls := map[string]rowsCall{
			"CycleTime":     func(g impl.EventGraph) ([][]int64, int64) { return ratioRows(impl.CycleTime(g)) },
			"BestCircuit":   func(g impl.EventGraph) ([][]int64, int64) { return rowsOfList(impl.BestCircuit(g)) },
			"EventTime":     func(g impl.EventGraph) ([][]int64, int64) { return ratioRows(impl.EventTime(g, event)) },
			"TimePotential": func(g impl.EventGraph) ([][]int64, int64) { return rowsOfList(impl.TimePotential(g, r)) },
			"CertifyTime": func(g impl.EventGraph) ([][]int64, int64) {
				r, circuit, x, code := impl.CertifyTime(g)
				return [][]int64{{r.Num, r.Den}, circuit, x}, code
			},
		}
		for name, call := range calls {
			checkOwnRows(t, name, call, g)
			// Graphs that are none stay as they are as well.
			checkOwnRows(t, name, call, eventGraph(0, g.Places...))
		}
		checkListCalls(t, random, g, r)
	}
}

// checkOwnRows is checkRowsCalls for a call that may return a table beside an error.
func checkOwnRows(t *testing.T, name string, call rowsCall, before impl.EventGraph) {
	t.Helper()
	g := withSparePlaces(before)
	rows, code := call(g)
	want := cloneRows(rows)
	checkRowsApart(t, name, rows)
	if !isUnchangedGraph(g, before) {
		t.Errorf("%s changed its argument %v, or shares memory with it", name, before)
	}
	rows, again := call(g)
	if again != code || !equalRows(rows, want) {
		t.Errorf("%s for a second time = %v, %d, want %v, %d", name, rows, again, want, code)
	}
}

// checkListCalls looks whether lists, and the memory behind them, stay as they are.
func checkListCalls(t *testing.T, random *rand.Rand, g impl.EventGraph, r impl.Ratio) {
	t.Helper()
	circuit, _ := impl.BestCircuit(g)
	x, _ := impl.TimePotential(g, r)
	for _, list := range [][]int64{nil, circuit, x, {0}, {random.Int64N(maxPlaces), 0}, zeros(300)} {
		net, rows := withSparePlaces(g), withSpare([][]int64{list})
		impl.IsCircuit(net, rows[0])
		impl.CircuitRatio(net, rows[0])
		impl.IsTimePotential(net, r, rows[0])
		if !isUnchangedGraph(net, g) || !isUnchanged(rows, [][]int64{list}) {
			t.Errorf("a call changed an argument, %v or %v", g, list)
		}
	}
}
