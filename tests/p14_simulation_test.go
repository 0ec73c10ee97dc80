package tests

import (
	"fmt"
	"math"
	"math/rand/v2"
	"regexp"
	"runtime"
	"slices"
	"strconv"
	"strings"
	"sync"
	"testing"
	"time"

	"loop.example/g00941/impl"
)

const maxRun = 500

func firing(event, number, time int64) impl.Firing {
	return impl.Firing{Event: event, Number: number, Time: time}
}

// numbered gives each firing the number of those of its event up to it.
func numbered(run []impl.Firing) []impl.Firing {
	list := slices.Clone(run)
	count := map[int64]int64{}
	for i := range list {
		count[list[i].Event]++
		list[i].Number = count[list[i].Event]
	}
	return list
}

// plainRunText is the text by the definition, of firings that may also have none.
func plainRunText(run []impl.Firing) string {
	var words []string
	for _, f := range run {
		words = append(words, fmt.Sprintf("%d@%d", f.Event, f.Time))
	}
	return strings.Join(words, " ")
}

// runOf reads texts of runs and also of firings that are in none. The Numbers are right.
func runOf(text string) []impl.Firing {
	var run []impl.Firing
	for _, word := range strings.Fields(text) {
		var f impl.Firing
		if n, err := fmt.Sscanf(word, "%d@%d", &f.Event, &f.Time); n < 2 {
			panic(err)
		}
		run = append(run, f)
	}
	return numbered(run)
}

// repeatedRun are firings of one event, the times of which have the same difference.
func repeatedRun(event int64, times int, difference int64) []impl.Firing {
	var run []impl.Firing
	for k := range int64(times) {
		run = append(run, firing(event, k+1, k*difference))
	}
	return run
}

// queues are the times at which the tokens of each place are ready, the oldest one first.
type queues [][]int64

func firstQueues(g impl.EventGraph) queues {
	var q queues
	for _, p := range g.Places {
		q = append(q, zeros(int(p.Tokens)))
	}
	return q
}

// ready returns when an event can fire, if it has all of its tokens.
func (q queues) ready(g impl.EventGraph, event int64) (int64, bool) {
	ready := int64(0)
	for i, p := range g.Places {
		if p.To != event {
			continue
		}
		if len(q[i]) == 0 {
			return 0, false
		}
		ready = max(ready, q[i][0])
	}
	return ready, true
}

func (q queues) fire(g impl.EventGraph, event, time int64) {
	for i, p := range g.Places {
		if p.To == event {
			q[i] = q[i][1:]
		}
		if p.From == event {
			q[i] = append(q[i], time+p.Delay)
		}
	}
}

// plainSimulation moves the tokens themselves.
func plainSimulation(g impl.EventGraph, n int64) []impl.Firing {
	var run []impl.Firing
	q, count := firstQueues(g), zeros(int(g.Events))
	for {
		next := firing(-1, 0, 0)
		for event := range g.Events {
			time, ok := q.ready(g, event)
			if ok && count[event] < n && (next.Event < 0 || time < next.Time) {
				next = firing(event, count[event]+1, time)
			}
		}
		if next.Event < 0 {
			return run
		}
		q.fire(g, next.Event, next.Time)
		count[next.Event]++
		run = append(run, next)
	}
}

// plainIsRun looks for the firings that each one waits for.
func plainIsRun(g impl.EventGraph, run []impl.Firing) bool {
	if !plainIsGraph(g) || len(run) > maxRun || !slices.Equal(numbered(run), run) {
		return false
	}
	last := int64(0)
	for i, f := range run {
		if !isWithin(f.Event, 0, g.Events-1) || !isWithin(f.Time, last, maxFinite) {
			return false
		}
		last = f.Time
		for _, p := range g.Places {
			if p.To == f.Event && f.Number-p.Tokens >= 1 && !slices.ContainsFunc(run[:i], func(from impl.Firing) bool {
				return from.Event == p.From && from.Number == f.Number-p.Tokens && from.Time+p.Delay <= f.Time
			}) {
				return false
			}
		}
	}
	return true
}

func plainTimesIn(run []impl.Firing, event int64) []int64 {
	var times []int64
	for _, f := range run {
		if f.Event == event {
			times = append(times, f.Time)
		}
	}
	return times
}

// plainMarking takes and puts the tokens of each firing.
func plainMarking(g impl.EventGraph, run []impl.Firing) []int64 {
	var marking []int64
	for _, p := range g.Places {
		tokens := p.Tokens
		for _, f := range run {
			if f.Event == p.To {
				tokens--
			}
			if f.Event == p.From {
				tokens++
			}
		}
		marking = append(marking, tokens)
	}
	return marking
}

func plainNext(g impl.EventGraph, run []impl.Firing) []int64 {
	var next []int64
	marking := plainMarking(g, run)
	for event := range g.Events {
		isNext := true
		for i, p := range g.Places {
			isNext = isNext && (p.To != event || marking[i] > 0)
		}
		if isNext {
			next = append(next, event)
		}
	}
	return next
}

// plainLateness follows the recurrence back from each firing of a possible run. It returns nil and
// ErrRange if a number is too great.
func plainLateness(g impl.EventGraph, run []impl.Firing) ([]int64, int64) {
	known := map[[2]int64]int64{}
	var earliest func(event, number int64) int64
	earliest = func(event, number int64) int64 {
		if time, ok := known[[2]int64{event, number}]; ok {
			return time
		}
		time := int64(0)
		for _, p := range g.Places {
			if p.To == event && number-p.Tokens >= 1 {
				time = max(time, earliest(p.From, number-p.Tokens)+p.Delay)
			}
		}
		known[[2]int64{event, number}] = time
		return time
	}
	var lateness []int64
	for _, f := range run {
		if f.Number > maxFirings {
			return nil, impl.ErrRange
		}
		lateness = append(lateness, f.Time-earliest(f.Event, f.Number))
	}
	return lateness, impl.ErrNone
}

// checkRun looks at all answers about a run, and returns whether it is a possible one.
func checkRun(t *testing.T, g impl.EventGraph, run []impl.Firing) bool {
	t.Helper()
	of := " of " + plainGraphText(g) + " and " + fmt.Sprint(run)
	isRun := plainIsRun(g, run)
	if is := impl.IsRun(g, run); is != isRun {
		t.Errorf("IsRun%s = %v", of, is)
	}
	var marking, next, lateness []int64
	code, lateCode := int64(impl.ErrRange), int64(impl.ErrRange)
	if isRun {
		marking, next, code = plainMarking(g, run), plainNext(g, run), impl.ErrNone
		lateness, lateCode = plainLateness(g, run)
	}
	list, gotCode := impl.MarkingAfter(g, run)
	checkList(t, "MarkingAfter"+of, list, gotCode, marking, code)
	list, gotCode = impl.NextEvents(g, run)
	checkList(t, "NextEvents"+of, list, gotCode, next, code)
	list, gotCode = impl.LatenessOf(g, run)
	checkList(t, "LatenessOf"+of, list, gotCode, lateness, lateCode)
	return isRun
}

func checkSimulation(t *testing.T, g impl.EventGraph, n int64, want []impl.Firing, wantCode int64) {
	t.Helper()
	run, code := impl.SimulateGraph(g, n)
	if code != wantCode || !slices.Equal(run, want) || code != impl.ErrNone && len(run) != 0 {
		t.Errorf("SimulateGraph of %s and %d = %v, %d, want %v, %d", plainGraphText(g), n, run, code, want, wantCode)
	}
}

func TestP14Constants(t *testing.T) {
	if impl.MaxRun != maxRun {
		t.Errorf("MaxRun is %d", impl.MaxRun)
	}
}

func TestP14SimulateGraph(t *testing.T) {
	ringed := "2 0>1:5*0 1>0:2*2 0>0:3*1"
	cases := []struct {
		text string
		n    int64
		want string
	}{
		{ringed, 3, "0@0 0@3 1@5 0@7 1@8 1@12"},
		{ringed, 2, "0@0 0@3 1@5 1@8"},
		{ringed, 1, "0@0 1@5"},
		{ringed, 0, ""},
		{"1", 0, ""},
		{"1", 1, "0@0"},
		{"1", 3, "0@0 0@0 0@0"},
		{"10", 0, ""},
		{"10", 1, "0@0 1@0 2@0 3@0 4@0 5@0 6@0 7@0 8@0 9@0"},
		{"1 0>0:3*1", 4, "0@0 0@3 0@6 0@9"},
		{"1 0>0:0*1", 3, "0@0 0@0 0@0"},
		{"1 0>0:3*2", 5, "0@0 0@0 0@3 0@3 0@6"},
		{"1 0>0:1000*5", 7, "0@0 0@0 0@0 0@0 0@0 0@1000 0@1000"},
		// At the same time the least event fires, as often as it can, once it has its tokens.
		{"2", 2, "0@0 0@0 1@0 1@0"},
		{"3", 1, "0@0 1@0 2@0"},
		{"2 0>1:0*0", 2, "0@0 0@0 1@0 1@0"},
		{"2 1>0:0*0", 2, "1@0 0@0 1@0 0@0"},
		{"2 1>0:0*1", 2, "0@0 1@0 0@0 1@0"},
		{"2 1>0:0*1", 3, "0@0 1@0 0@0 1@0 0@0 1@0"},
		{"2 1>0:0*5", 3, "0@0 0@0 0@0 1@0 1@0 1@0"},
		{"3 2>1:0*0 1>0:0*0", 2, "2@0 1@0 0@0 2@0 1@0 0@0"},
		{"3 1>1:4*1 2>2:4*1 0>0:4*1", 3, "0@0 1@0 2@0 0@4 1@4 2@4 0@8 1@8 2@8"},
		{"3 2>0:4*0 2>1:4*0 2>2:4*1", 2, "2@0 0@4 1@4 2@4 0@8 1@8"},
		{"2 0>0:3*1 0>1:0*0", 2, "0@0 1@0 0@3 1@3"},
		{"2 1>1:3*1 1>0:0*0", 2, "1@0 0@0 1@3 0@3"},
		// Not the least event, but the one that can fire earliest.
		{"2 0>0:5*1 1>1:2*1", 4, "0@0 1@0 1@2 1@4 0@5 1@6 0@10 0@15"},
		{"2 0>0:2*1 1>1:5*1", 3, "0@0 1@0 0@2 0@4 1@5 1@10"},
		{"2 0>1:5*0 1>0:7*1", 2, "0@0 1@5 0@12 1@17"},
		{"3 1>0:9*0 1>2:8*0", 1, "1@0 2@8 0@9"},
		{"3 1>0:8*0 1>2:9*0", 1, "1@0 0@8 2@9"},
		{"3 1>0:9*0 1>2:9*0", 1, "1@0 0@9 2@9"},
		// A token that is not ready yet is waited for, while others fire.
		{"2 0>1:5*0 0>0:1*1", 4, "0@0 0@1 0@2 0@3 1@5 1@6 1@7 1@8"},
		{"2 0>1:5*0 0>0:5*1", 2, "0@0 0@5 1@5 1@10"},
		{"2 0>1:5*0 0>0:6*1", 2, "0@0 1@5 0@6 1@11"},
		// The oldest token is taken, and of several places the one counts whose token is ready last.
		{"2 0>1:5*1 0>0:9*1", 3, "0@0 1@0 1@5 0@9 1@14 0@18"},
		{"1 0>0:3*2 0>0:5*3", 6, "0@0 0@0 0@3 0@5 0@6 0@8"},
		{"2 0>1:5*0 0>1:9*0 0>1:7*0", 1, "0@0 1@9"},
		{"3 0>2:5*0 1>2:9*0", 1, "0@0 1@0 2@9"},
		{"3 0>2:9*0 1>2:5*0 1>1:6*1", 2, "0@0 0@0 1@0 1@6 2@9 2@11"},
		// An event that has fired n times waits for nothing more, and holds none of the others back.
		{"2 0>1:0*5 1>1:4*1", 3, "0@0 0@0 0@0 1@0 1@4 1@8"},
		{"2 0>1:1000*5", 5, "0@0 0@0 0@0 0@0 0@0 1@0 1@0 1@0 1@0 1@0"},
		{"2 0>1:1000*5", 6, "0@0 0@0 0@0 0@0 0@0 0@0 1@0 1@0 1@0 1@0 1@0 1@1000"},
		{"1" + strings.Repeat(" 0>0:6*1 0>0:8*2", maxPlaces/2), 3, "0@0 0@6 0@12"},
		{"2" + strings.Repeat(" 0>1:6*0", maxPlaces-1) + " 0>1:7*0", 2, "0@0 0@0 1@7 1@7"},
		{line(upTo(maxEvents), 0), 1, "0@0 1@7 2@14 3@21 4@28 5@35 6@42 7@49 8@56 9@63"},
		{line(down(maxEvents), 0), 1, "9@0 8@7 7@14 6@21 5@28 4@35 3@42 2@49 1@56 0@63"},
		{line(down(maxEvents), 1), 1, "0@0 1@0 2@0 3@0 4@0 5@0 6@0 7@0 8@0 9@0"},
	}
	for _, c := range cases {
		g := graphOf(t, c.text)
		want := runOf(c.want)
		checkSimulation(t, g, c.n, want, impl.ErrNone)
		if !slices.Equal(plainSimulation(g, c.n), want) {
			t.Errorf("the tokens of %s move as %v, not as %s", c.text, plainSimulation(g, c.n), c.want)
		}
	}
}

// The longest simulations, which are runs of MaxRun firings, with the least and the greatest times.
func TestP14LongSimulations(t *testing.T) {
	around := strings.ReplaceAll(line(upTo(maxEvents), 0), ":7", ":1000") + " 9>0:1000*1"
	cases := []struct {
		text string
		at   func(i int64) impl.Firing
	}{
		{"10", func(i int64) impl.Firing { return firing(i/50, i%50+1, 0) }},
		{line(upTo(maxEvents), 0) + " 9>0:0*5", nil},
		{around, func(i int64) impl.Firing { return firing(i%10, i/10+1, i*1000) }},
		{strings.ReplaceAll(around, "1000", "0"), func(i int64) impl.Firing { return firing(i%10, i/10+1, 0) }},
		{around + strings.Repeat(" 9>0:999*1", maxPlaces-10), func(i int64) impl.Firing { return firing(i%10, i/10+1, i*1000) }},
	}
	for _, c := range cases {
		g := graphOf(t, c.text)
		want := plainSimulation(g, maxFirings)
		for i, f := range want {
			if c.at != nil && f != c.at(int64(i)) {
				t.Errorf("the tokens of %s move as %v, not as %v, at %d", c.text, f, c.at(int64(i)), i)
			}
		}
		if len(want) != maxRun {
			t.Errorf("the tokens of %s move for %d firings", c.text, len(want))
		}
		checkSimulation(t, g, maxFirings, want, impl.ErrNone)
		if !checkRun(t, g, want) {
			t.Errorf("the simulation of %s is no run", c.text)
		}
	}
}

func TestP14SimulationsFollowTheDefinition(t *testing.T) {
	random := newRandom(142)
	for g := range liveNets(random, 12) {
		for _, n := range []int64{0, 1, 2, random.Int64N(maxFirings), maxFirings} {
			checkSimulation(t, g, n, plainSimulation(g, n), impl.ErrNone)
		}
		// The order of the places does not matter.
		random.Shuffle(len(g.Places), func(i, j int) { g.Places[i], g.Places[j] = g.Places[j], g.Places[i] })
		checkSimulation(t, g, 9, plainSimulation(g, 9), impl.ErrNone)
		// With few different delays many firings are at the same time.
		for i := range g.Places {
			g.Places[i].Delay = random.Int64N(3)
		}
		checkSimulation(t, g, 15, plainSimulation(g, 15), impl.ErrNone)
	}
}

func TestP14SimulationsOfSmallGraphs(t *testing.T) {
	for n, tokens := range map[int]int{1: maxTokens, 2: maxTokens, 3: 0} {
		live := 0
		for g := range smallGraphs(n, tokens) {
			want, wantCode := plainSimulation(g, 4), int64(impl.ErrNone)
			if len(want) < 4*n {
				want, wantCode = nil, impl.ErrState
			} else {
				live++
			}
			checkSimulation(t, g, 4, want, wantCode)
		}
		if live < 5 {
			t.Errorf("only %d graphs of %d events are live", live, n)
		}
	}
}

// checkAgreement compares a simulation with the recurrence at every firing.
func checkAgreement(t *testing.T, g impl.EventGraph, n int64) {
	t.Helper()
	run, code := impl.SimulateGraph(g, n)
	x, xCode := impl.FiringTimes(g, n)
	if code != impl.ErrNone || xCode != impl.ErrNone || int64(len(run)) != n*g.Events {
		t.Fatalf("SimulateGraph of %s and %d = %v, %d", plainGraphText(g), n, run, code)
	}
	of := fmt.Sprint(" of the simulation of ", plainGraphText(g), " and ", n)
	if !impl.IsRun(g, run) || !plainIsRun(g, run) {
		t.Errorf("IsRun%s = %v", of, impl.IsRun(g, run))
	}
	for _, f := range run {
		if f.Time != x[f.Number-1][f.Event] {
			t.Errorf("the firing %v%s is not at the time %d", f, of, x[f.Number-1][f.Event])
		}
	}
	for event := range g.Events {
		var column []int64
		for k := range x {
			column = append(column, x[k][event])
		}
		times, code := impl.TimesIn(run, event)
		checkList(t, fmt.Sprint("TimesIn", of, " at ", event), times, code, column, impl.ErrNone)
	}
	lateness, code := impl.LatenessOf(g, run)
	checkList(t, "LatenessOf"+of, lateness, code, zeros(len(run)), impl.ErrNone)
	// All events have fired as often, so that each place has as many tokens as before.
	marking, code := impl.MarkingAfter(g, run)
	first, firstCode := impl.MarkingAfter(g, nil)
	checkList(t, "MarkingAfter"+of, marking, code, first, firstCode)
}

func TestP14Promise(t *testing.T) {
	random := newRandom(143)
	waiting := 0
	for g := range liveNets(random, 20) {
		for _, n := range []int64{0, 1, 1 + random.Int64N(maxFirings), maxFirings} {
			checkAgreement(t, g, n)
		}
		run, _ := impl.SimulateGraph(g, maxFirings)
		f := run[random.IntN(len(run))]
		time, code := impl.FiringTime(g, f.Event, f.Number)
		checkNumber(t, fmt.Sprint("FiringTime of ", plainGraphText(g), " at ", f), time, code, f.Time, impl.ErrNone)
		if run[maxRun/10-1].Time > 0 {
			waiting++
		}
	}
	if waiting < 150 {
		t.Errorf("only %d graphs let their events wait", waiting)
	}
}

// Each beginning of a simulation is a possible run, and what follows is among the next events.
func TestP14SimulationsStepByStep(t *testing.T) {
	for g := range liveNets(newRandom(144), 2) {
		run, _ := impl.SimulateGraph(g, 6)
		for i, f := range run {
			if !checkRun(t, g, run[:i]) {
				t.Errorf("the simulation of %v is no run up to %d", g, i)
			}
			next, code := impl.NextEvents(g, run[:i])
			if !slices.Contains(next, f.Event) {
				t.Errorf("NextEvents of %v and %v = %v, %d, without %v", g, run[:i], next, code, f)
			}
		}
	}
}

func TestP14IsRun(t *testing.T) {
	ringed := "2 0>1:5*0 1>0:2*2 0>0:3*1"
	cases := []struct {
		text, run string
		want      bool
	}{
		{"1", "", true},
		{"10", "", true},
		{"1", "0@0", true},
		{"1", "0@1000000", true},
		{"1", "0@1000001", false},
		{"1", "0@0 0@1000000 0@1000000", true},
		{"1", "0@0 0@1000000 0@1000001", false},
		{"1", "0@-1", false},
		{"1", "0@-1 0@0", false},
		{"1", "0@0 0@-1", false},
		{"1", "1@0", false},
		{"1", "-1@0", false},
		{"1", "0@0 1@0", false},
		{"10", "9@0", true},
		{"10", "10@0", false},
		{"10", "9@0 0@0 5@0", true},
		// Times may stay, but not fall, whichever events there are.
		{"1", "0@5 0@5", true},
		{"1", "0@5 0@6", true},
		{"1", "0@5 0@4", false},
		{"2", "0@5 1@4", false},
		{"2", "1@5 0@5", true},
		{"2", "0@5 1@6 0@5", false},
		// Just in time, early and late.
		{"2 0>1:5*0", "0@0 1@5", true},
		{"2 0>1:5*0", "0@0 1@4", false},
		{"2 0>1:5*0", "0@0 1@6", true},
		{"2 0>1:5*0", "0@0 1@1000000", true},
		{"2 0>1:5*0", "0@3 1@8", true},
		{"2 0>1:5*0", "0@3 1@7", false},
		{"2 0>1:1000*0", "0@999000 1@1000000", true},
		{"2 0>1:1000*0", "0@999000 1@999999", false},
		{"2 0>1:1000*0", "0@999001 1@1000001", false},
		// Each firing has a token of its own.
		{"2 0>1:5*0", "1@9", false},
		{"2 0>1:5*0", "1@5 0@0", false},
		{"2 0>1:5*0", "1@5 0@5", false},
		{"2 0>1:5*0", "0@0 1@5 1@5", false},
		{"2 0>1:5*0", "0@0 0@0 1@5 1@5", true},
		{"2 0>1:5*0", "0@0 0@9 1@9 1@13", false},
		{"2 0>1:5*0", "0@0 0@9 1@9 1@14", true},
		{"2 0>1:5*0", "0@0 1@5 0@5 1@9", false},
		{"2 0>1:5*0", "0@0 0@0 0@0", true},
		// At the same time the firing that puts the token in comes first.
		{"2 0>1:0*0", "0@4 1@4", true},
		{"2 0>1:0*0", "1@4 0@4", false},
		{"2 1>0:0*0", "1@4 0@4", true},
		{"2 1>0:0*0", "0@4 1@4", false},
		// The first tokens are ready at the time 0.
		{"2 0>1:5*1", "1@0", true},
		{"2 0>1:5*1", "0@0 1@0", true},
		{"2 0>1:5*1", "1@0 1@0", false},
		{"2 0>1:5*1", "1@0 0@0 1@5", true},
		{"2 0>1:5*1", "1@0 0@0 1@4", false},
		{"2 0>1:1000*5", "1@0 1@0 1@0 1@0 1@0", true},
		{"2 0>1:1000*5", "1@0 1@0 1@0 1@0 1@0 1@9999", false},
		{"2 0>1:1000*5", "0@1 1@1 1@1 1@1 1@1 1@1 1@1001", true},
		{"2 0>1:1000*5", "0@1 1@1 1@1 1@1 1@1 1@1 1@1000", false},
		// From an event to itself.
		{"1 0>0:3*1", "0@0 0@3 0@6", true},
		{"1 0>0:3*1", "0@0 0@2", false},
		{"1 0>0:3*1", "0@0 0@4 0@6", false},
		{"1 0>0:0*1", "0@0 0@0", true},
		{"1 0>0:3*2", "0@0 0@1 0@3 0@4", true},
		{"1 0>0:3*2", "0@0 0@1 0@3 0@3", false},
		{"1 0>0:1000*5", "0@0 0@0 0@0 0@0 0@1 0@1000 0@1000 0@1000 0@1000 0@1001", true},
		{"1 0>0:1000*5", "0@0 0@0 0@0 0@0 0@1 0@1000 0@1000 0@1000 0@1000 0@1000", false},
		// All places have to be waited for.
		{"3 0>2:5*0 1>2:9*0", "0@0 1@0 2@9", true},
		{"3 0>2:5*0 1>2:9*0", "0@0 1@0 2@8", false},
		{"3 0>2:5*0 1>2:9*0", "0@4 1@0 2@9", false},
		{"3 0>2:5*0 1>2:9*0", "1@0 0@4 2@9", true},
		{"3 0>2:5*0 1>2:9*0", "1@0 0@5 2@9", false},
		{"3 0>2:5*0 1>2:9*0", "0@0 2@9", false},
		{"3 0>2:5*0 1>2:9*0", "1@0 2@9", false},
		{"2 0>1:5*0 0>1:9*0", "0@0 1@8", false},
		{"2 0>1:9*0 0>1:5*0", "0@0 1@8", false},
		{"2 0>1:9*1 0>1:5*0", "0@0 1@5 0@5 1@10", true},
		{"2 0>1:9*1 0>1:5*0", "0@0 1@5 0@3 1@9", false},
		{"2" + strings.Repeat(" 0>1:5*0", maxPlaces), "0@0 1@5", true},
		{"2" + strings.Repeat(" 0>1:5*0", maxPlaces-1) + " 0>1:6*0", "0@0 1@5", false},
		{"2 0>1:6*0" + strings.Repeat(" 0>1:5*0", maxPlaces-1), "0@0 1@5", false},
		{ringed, "0@0 0@3 1@5 0@7 1@8 1@12", true},
		{ringed, "0@1 1@6 0@6", true},
		{ringed, "0@0 0@3 0@9", false},
		{ringed, "0@0 0@3 1@5 0@6", false},
		// Graphs that are not live: what waits for no dead cycle can fire.
		{"1 0>0:0*0", "", true},
		{"1 0>0:0*0", "0@0", false},
		{"1 0>0:0*0 0>0:0*5", "0@9", false},
		{"2 0>1:0*0 1>0:0*0", "", true},
		{"2 0>1:0*0 1>0:0*0", "0@0", false},
		{"2 0>1:0*0 1>0:0*0", "0@0 1@0", false},
		{"2 1>1:0*0", "0@0 0@7", true},
		{"2 1>1:0*0", "0@0 1@7", false},
		{"3 0>1:5*0 1>0:2*0 2>2:1*1", "2@0 2@1", true},
		{"3 0>1:5*0 1>0:2*0 2>2:1*1", "2@0 2@0", false},
		{"3 0>0:0*0 0>1:1*2 1>2:4*0", "1@0 2@4 1@4 2@9", true},
		{"3 0>0:0*0 0>1:1*2 1>2:4*0", "1@0 1@0 1@9", false},
	}
	for _, c := range cases {
		g, run := graphOf(t, c.text), runOf(c.run)
		if is := impl.IsRun(g, run); is != c.want {
			t.Errorf("IsRun of %s and %s = %v", c.text, c.run, is)
		}
		if checkRun(t, g, run) != c.want {
			t.Errorf("the definition of a possible run of %s does not fit %s", c.text, c.run)
		}
	}
}

// Each event has its own Numbers, from 1 on.
func TestP14IsRunNumbers(t *testing.T) {
	cases := []struct {
		numbers []int64 // of the events 0 and 1 by turns
		want    bool
	}{
		{[]int64{1}, true},
		{[]int64{1, 1}, true},
		{[]int64{1, 1, 2, 2, 3, 3}, true},
		{[]int64{0}, false},
		{[]int64{2}, false},
		{[]int64{-1}, false},
		{[]int64{math.MaxInt64}, false},
		{[]int64{math.MinInt64}, false},
		{[]int64{1<<32 + 1}, false},
		{[]int64{1, 2}, false},
		{[]int64{1, 0}, false},
		{[]int64{0, 0, 1, 1}, false},
		{[]int64{0, 1, 1, 2}, false},
		{[]int64{1, 1, 1}, false},
		{[]int64{1, 1, 3}, false},
		{[]int64{1, 1, 2, 1}, false},
		{[]int64{1, 1, 2, 3}, false},
		{[]int64{1, 1, 0}, false},
		{[]int64{2, 1, 1, 2}, false},
		{[]int64{1, 1, 2, 2, 2}, false},
		{[]int64{1, 2, 3, 4}, false},
	}
	for _, c := range cases {
		// No place, or ones that nothing has to wait for.
		for _, text := range []string{"2", "10", "2 0>1:0*0", "2 0>1:3*5 1>0:3*5"} {
			var run []impl.Firing
			for i, number := range c.numbers {
				run = append(run, firing(int64(i%2), number, int64(i)))
			}
			if checkRun(t, graphOf(t, text), run) != c.want {
				t.Errorf("the definition of a possible run does not fit %v", run)
			}
		}
	}
}

// Runs have up to MaxRun firings, whatever they are.
func TestP14LongRuns(t *testing.T) {
	texts := []string{"1", "10", "1 0>0:1000*1", "1 0>0:1000*5", "2 0>1:1000*5"}
	for _, text := range texts {
		g := graphOf(t, text)
		for _, size := range []int{maxRun - 1, maxRun, maxRun + 1, maxRun + 2, 2 * maxRun, 100000} {
			want := size <= maxRun
			if is := impl.IsRun(g, repeatedRun(0, size, 1000)); is != want {
				t.Errorf("IsRun of %s and %d firings = %v", text, size, is)
			}
			if size < 2*maxRun && checkRun(t, g, repeatedRun(0, size, 1000)) != want {
				t.Errorf("the definition of a possible run of %s does not fit %d firings", text, size)
			}
		}
	}
	run := repeatedRun(0, maxRun, 0)
	checkRun(t, eventGraph(2, place(0, 1, 1000, maxTokens)), run)
	marking, code := impl.MarkingAfter(eventGraph(2, place(0, 1, 1000, maxTokens)), run)
	checkList(t, "MarkingAfter of many firings", marking, code, []int64{maxRun + maxTokens}, impl.ErrNone)
	// All events by turns, and one firing more.
	var turns []impl.Firing
	for i := range int64(maxRun) {
		turns = append(turns, firing(i%10, i/10+1, i/10))
	}
	for _, more := range []int64{-1, 0, 1} {
		list := slices.Concat(turns, []impl.Firing{firing(0, 51, 60)})[:maxRun+more]
		if checkRun(t, eventGraph(maxEvents), list) != (more <= 0) {
			t.Errorf("the definition of a possible run does not fit %d firings", len(list))
		}
	}
}

// eachShortRun calls try with all short lists of firings with any Numbers, and with longer ones with the
// right Numbers.
func eachShortRun(events int64, try func(run []impl.Firing)) {
	var some, unnumbered []impl.Firing
	for event := range events {
		for time := range int64(3) {
			unnumbered = append(unnumbered, firing(event, 0, time))
			some = append(some, firing(event, 1, time), firing(event, 2, time))
		}
	}
	pick := func(firings []impl.Firing, list []int64) []impl.Firing {
		var run []impl.Firing
		for _, i := range list {
			run = append(run, firings[i])
		}
		return run
	}
	for size := range 4 {
		lists(len(some), size, func(list []int64) { try(pick(some, list)) })
	}
	for size := range 5 {
		lists(len(unnumbered), size, func(list []int64) { try(numbered(pick(unnumbered, list))) })
	}
}

func TestP14SmallRunsFollowTheDefinition(t *testing.T) {
	found := map[bool]int{}
	for events := 1; events <= 2; events++ {
		for g := range smallGraphs(events, 1) {
			for i := range g.Places {
				g.Places[i].Delay = []int64{1, 2, 0, 1}[g.Places[i].Delay]
			}
			eachShortRun(int64(events), func(run []impl.Firing) { found[checkRun(t, g, run)]++ })
		}
	}
	if found[true] < 3000 || found[false] < 100000 {
		t.Errorf("the runs are too much alike: %v", found)
	}
}

// someRun lets events fire in any order, as long as they can, and later than they could by up to some
// time.
func someRun(random *rand.Rand, g impl.EventGraph, size int, slack int64) []impl.Firing {
	var run []impl.Firing
	q, time := firstQueues(g), int64(0)
	for range size {
		var next []int64
		for event := range g.Events {
			if _, ok := q.ready(g, event); ok {
				next = append(next, event)
			}
		}
		if len(next) == 0 {
			break
		}
		event := next[random.IntN(len(next))]
		ready, _ := q.ready(g, event)
		time = max(time, ready) + random.Int64N(slack+1)
		if time > maxFinite {
			break
		}
		q.fire(g, event, time)
		run = append(run, firing(event, 0, time))
	}
	return numbered(run)
}

// nearRuns differ from a run in few firings; most of them are possible or not because of one condition
// alone.
func nearRuns(random *rand.Rand, g impl.EventGraph, run []impl.Firing) [][]impl.Firing {
	last := firing(random.Int64N(g.Events), 0, 0)
	if len(run) > 0 {
		last.Time = run[len(run)-1].Time
	}
	near := [][]impl.Firing{numbered(append(slices.Clone(run), last)), append(slices.Clone(run), last)}
	if len(run) == 0 {
		return near
	}
	i := random.IntN(len(run))
	change := func(change func(f *impl.Firing)) {
		list := slices.Clone(run)
		change(&list[i])
		near = append(near, list, numbered(list))
	}
	change(func(f *impl.Firing) { f.Time++ })
	change(func(f *impl.Firing) { f.Time-- })
	change(func(f *impl.Firing) { f.Time = run[max(i-1, 0)].Time })
	change(func(f *impl.Firing) { f.Time = random.Int64N(maxFinite) })
	change(func(f *impl.Firing) { f.Event = random.Int64N(g.Events + 1) })
	change(func(f *impl.Firing) { f.Number += 1 - 2*random.Int64N(2) })
	j := random.IntN(len(run))
	swapped := slices.Clone(run)
	swapped[i], swapped[j] = swapped[j], swapped[i]
	events := slices.Clone(run)
	events[i].Event, events[j].Event = events[j].Event, events[i].Event
	for _, list := range [][]impl.Firing{swapped, events, slices.Delete(slices.Clone(run), i, i+1), slices.Insert(slices.Clone(run), i, run[i])} {
		near = append(near, list, numbered(list))
	}
	return near
}

func TestP14RunsFollowTheDefinition(t *testing.T) {
	random := newRandom(145)
	found := map[string]int{}
	for g := range manyNets(random, 12) {
		live := isLivePlain(g)
		for _, slack := range []int64{0, 0, 3, 1000, 50000} {
			run := someRun(random, g, random.IntN(40), slack)
			if !checkRun(t, g, run) {
				t.Errorf("the definition of a possible run of %v does not fit %v", g, run)
			}
			if len(run) > 0 {
				found[fmt.Sprint("firings of a live graph ", live)]++
			}
			for _, other := range nearRuns(random, g, run) {
				found[fmt.Sprint("possible ", checkRun(t, g, other))]++
			}
		}
	}
	for _, what := range []string{"firings of a live graph true", "firings of a live graph false", "possible true", "possible false"} {
		if found[what] < 200 {
			t.Errorf("the runs are too much alike: %v", found)
		}
	}
}

// The next events are those that can fire later on, and no other one can.
func TestP14NextEventsGoOn(t *testing.T) {
	random := newRandom(146)
	for g := range manyNets(random, 3) {
		run := someRun(random, g, random.IntN(30), 5)
		next, _ := impl.NextEvents(g, run)
		for event := range g.Events {
			later := numbered(append(slices.Clone(run), firing(event, 0, maxFinite)))
			if impl.IsRun(g, later) != slices.Contains(next, event) {
				t.Errorf("NextEvents of %v and %v = %v, but IsRun is %v with %d", g, run, next, impl.IsRun(g, later), event)
			}
		}
	}
}

func TestP14TimesIn(t *testing.T) {
	odd := []impl.Firing{firing(3, 7, 9), firing(-5, 0, -1), firing(3, -2, 4), firing(math.MaxInt64, 1, math.MinInt64), firing(3, 7, 9), firing(0, 0, 0), firing(-5, 1, math.MaxInt64)}
	cases := []struct {
		run   []impl.Firing
		event int64
		want  []int64
	}{
		{nil, 0, nil},
		{nil, -1, nil},
		{[]impl.Firing{}, 5, nil},
		{runOf("0@0 0@3 1@5 0@7 1@8 1@12"), 0, []int64{0, 3, 7}},
		{runOf("0@0 0@3 1@5 0@7 1@8 1@12"), 1, []int64{5, 8, 12}},
		{runOf("0@0 0@3 1@5 0@7 1@8 1@12"), 2, nil},
		{runOf("0@0 0@3 1@5 0@7 1@8 1@12"), -1, nil},
		{runOf("0@0 0@3 1@5 0@7 1@8 1@12"), math.MinInt64, nil},
		{runOf("0@0 0@3 1@5 0@7 1@8 1@12"), 1 << 32, nil},
		{runOf("9@1000000"), 9, []int64{maxFinite}},
		{runOf("9@0"), 9, []int64{0}},
		{runOf("9@0"), 0, nil},
		// There is no graph, and the order is that of the list.
		{odd, 3, []int64{9, 4, 9}},
		{odd, -5, []int64{-1, math.MaxInt64}},
		{odd, math.MaxInt64, []int64{math.MinInt64}},
		{odd, 0, []int64{0}},
		{odd, 7, nil},
		{repeatedRun(4, maxRun, 3), 4, curve(maxRun, func(i int64) int64 { return 3 * i })},
		{repeatedRun(4, maxRun, 3), 3, nil},
	}
	for _, c := range cases {
		times, code := impl.TimesIn(c.run, c.event)
		checkList(t, fmt.Sprint("TimesIn of ", c.run, " and ", c.event), times, code, c.want, impl.ErrNone)
	}
	for _, size := range []int{maxRun + 1, maxRun + 2, 100000} {
		for _, event := range []int64{-1, 0, 4, 5} {
			times, code := impl.TimesIn(repeatedRun(4, size, 3), event)
			checkList(t, fmt.Sprint("TimesIn of ", size, " firings and ", event), times, code, nil, impl.ErrRange)
		}
	}
	random := newRandom(147)
	for g := range manyNets(random, 2) {
		run := someRun(random, g, random.IntN(100), 5)
		for event := int64(-1); event <= g.Events; event++ {
			times, code := impl.TimesIn(run, event)
			checkList(t, fmt.Sprint("TimesIn of ", run, " and ", event), times, code, plainTimesIn(run, event), impl.ErrNone)
		}
	}
}

func TestP14MarkingAfter(t *testing.T) {
	ringed := "2 0>1:5*0 1>0:2*2 0>0:3*1"
	cases := []struct {
		text, run string
		want      []int64
	}{
		{"1", "", nil},
		{"1", "0@0 0@5", nil},
		{ringed, "", []int64{0, 2, 1}},
		{ringed, "0@0", []int64{1, 1, 1}},
		// The tokens are not ready before 5 and 8.
		{ringed, "0@0 0@3", []int64{2, 0, 1}},
		{ringed, "0@0 0@3 1@5", []int64{1, 1, 1}},
		{ringed, "0@0 0@3 1@5 0@7 1@8 1@12", []int64{0, 2, 1}},
		{"1 0>0:3*5", "0@0 0@0 0@0", []int64{5}},
		{"1 0>0:0*0", "", []int64{0}},
		{"2 0>1:5*5", "1@0 1@0 1@0 1@0 1@0", []int64{0}},
		{"2 0>1:5*5", "0@0 0@0", []int64{7}},
		{"2 0>1:5*0 0>1:9*4", "0@0 0@0 1@9", []int64{1, 5}},
		{"3 0>1:5*0 1>2:9*3 2>2:0*0", "0@0 1@9", []int64{0, 4, 0}},
		{"10 9>8:1*0 0>9:2*1", "9@1000000", []int64{1, 0}},
	}
	for _, c := range cases {
		g, run := graphOf(t, c.text), runOf(c.run)
		marking, code := impl.MarkingAfter(g, run)
		checkList(t, fmt.Sprint("MarkingAfter of ", c.text, " and ", c.run), marking, code, c.want, impl.ErrNone)
		checkRun(t, g, run)
	}
}

func TestP14NextEvents(t *testing.T) {
	ringed := "2 0>1:5*0 1>0:2*2 0>0:3*1"
	cases := []struct {
		text, run string
		want      []int64
	}{
		{"1", "", []int64{0}},
		{"1", "0@1000000", []int64{0}},
		{"10", "", upTo(maxEvents)},
		{"10", "4@4", upTo(maxEvents)},
		{"1 0>0:3*1", "0@0 0@3", []int64{0}},
		{ringed, "", []int64{0}},
		{ringed, "0@0", []int64{0, 1}},
		{ringed, "0@0 0@3", []int64{1}},
		{ringed, "0@0 0@3 1@5", []int64{0, 1}},
		{ringed, "0@0 1@5", []int64{0}},
		{"2 0>1:0*1 1>0:0*0", "", []int64{1}},
		{"2 0>1:0*1 1>0:0*0", "1@0", []int64{0}},
		// A token that is not ready is one.
		{"2 0>1:1000*0", "", []int64{0}},
		{"2 0>1:1000*0", "0@1000000", []int64{0, 1}},
		{"2 0>1:1000*0", "0@0 1@1000", []int64{0}},
		// Each place needs one.
		{"3 0>2:1*0 1>2:1*0", "0@0", []int64{0, 1}},
		{"3 0>2:1*0 1>2:1*0", "1@0", []int64{0, 1}},
		{"3 0>2:1*0 1>2:1*0", "1@0 0@0", []int64{0, 1, 2}},
		{"2 0>1:1*5 0>1:1*0", "", []int64{0}},
		{"2 0>1:1*0 0>1:1*5", "", []int64{0}},
		// Graphs that are not live.
		{"1 0>0:3*0", "", nil},
		{"1 0>0:3*0 0>0:3*5", "", nil},
		{"2 0>1:3*0 1>0:3*0", "", nil},
		{"2 1>1:3*0", "0@0", []int64{0}},
		{"3 0>1:3*0 1>0:3*0 1>2:1*1", "", []int64{2}},
		{"3 0>1:3*0 1>0:3*0 1>2:1*1", "2@0", nil},
		{line(down(maxEvents), 0), "9@0 8@7", []int64{7, 9}},
	}
	for _, c := range cases {
		g, run := graphOf(t, c.text), runOf(c.run)
		next, code := impl.NextEvents(g, run)
		checkList(t, fmt.Sprint("NextEvents of ", c.text, " and ", c.run), next, code, c.want, impl.ErrNone)
		checkRun(t, g, run)
	}
}

func TestP14LatenessOf(t *testing.T) {
	ringed := "2 0>1:5*0 1>0:2*2 0>0:3*1"
	cases := []struct {
		text, run string
		want      []int64
	}{
		{"1", "", nil},
		{"1", "0@0 0@7 0@1000000", []int64{0, 7, maxFinite}},
		{ringed, "0@1 1@6 0@6", []int64{1, 1, 3}},
		{ringed, "0@0 0@3 1@5 0@7 1@8 1@12", zeros(6)},
		{ringed, "0@0 0@3 1@5 0@7 1@8 1@13", []int64{0, 0, 0, 0, 0, 1}},
		// A firing is late if one that it waits for was, but it can catch up.
		{"1 0>0:3*1", "0@4 0@7 0@10", []int64{4, 4, 4}},
		{"2 0>0:3*1 1>0:2*0", "1@0 0@9 1@10 0@12", []int64{0, 7, 10, 7}},
		{"2 0>1:5*0 1>1:9*1", "0@1 0@1 1@6 1@15", []int64{1, 1, 1, 1}},
		{"2 0>1:5*0 1>1:9*1", "0@0 0@8 1@8 1@17", []int64{0, 8, 3, 3}},
		{"2 0>1:5*0 1>1:9*1", "0@0 1@5 0@9 1@14", []int64{0, 0, 9, 0}},
		{"2 0>1:1000*5", "0@3 1@4 1@4 1@4 1@4 1@4 1@1004", []int64{3, 4, 4, 4, 4, 4, 4}},
		// Graphs that are not live.
		{"1 0>0:3*0", "", nil},
		{"2 1>1:0*0 0>0:3*1", "0@1 0@9", []int64{1, 6}},
		{"3 0>1:5*0 1>0:2*0 2>2:1*1", "2@0 2@8", []int64{0, 7}},
		{"3 0>0:2*1 0>1:4*0 2>2:0*0 1>2:1*0", "0@0 1@9 0@9", []int64{0, 5, 7}},
		{"3 0>0:0*0 0>1:1*2 1>2:4*0", "1@2 2@6 1@6 2@11", []int64{2, 2, 6, 7}},
	}
	for _, c := range cases {
		g, run := graphOf(t, c.text), runOf(c.run)
		lateness, code := impl.LatenessOf(g, run)
		checkList(t, fmt.Sprint("LatenessOf of ", c.text, " and ", c.run), lateness, code, c.want, impl.ErrNone)
		checkRun(t, g, run)
	}
}

// Numbers up to MaxFirings have a time that they can be compared with.
func TestP14LatenessOfManyFirings(t *testing.T) {
	for _, text := range []string{"1", "2 1>1:3*0", "1 0>0:1000*1", "10 0>9:3*0 0>0:3*5"} {
		g := graphOf(t, text)
		x, _ := impl.FiringTimes(g, maxFirings)
		for _, size := range []int{1, maxFirings - 1, maxFirings, maxFirings + 1, maxFirings + 2, maxRun} {
			run := repeatedRun(0, size, 1000)
			var want []int64
			wantCode := int64(impl.ErrRange)
			if size <= maxFirings {
				for k := range size {
					early := int64(0)
					if len(x) > 0 {
						early = x[k][0]
					}
					want = append(want, run[k].Time-early)
				}
				wantCode = impl.ErrNone
			}
			lateness, code := impl.LatenessOf(g, run)
			checkList(t, fmt.Sprint("LatenessOf of ", text, " and ", size, " firings"), lateness, code, want, wantCode)
			if !checkRun(t, g, run) {
				t.Errorf("%d firings are no run of %s", size, text)
			}
		}
	}
	// Not how many firings there are, but the Numbers count, of whichever event.
	var turns []impl.Firing
	for i := range int64(maxRun) {
		turns = append(turns, firing(i%10, i/10+1, i))
	}
	lateness, code := impl.LatenessOf(eventGraph(maxEvents), turns)
	checkList(t, "LatenessOf of all events by turns", lateness, code, curve(maxRun, func(i int64) int64 { return i }), impl.ErrNone)
	for _, event := range []int64{0, 1, 9} {
		run := append(turns[:maxRun-10:maxRun-10], firing(event, 50, maxRun), firing(event, 51, maxRun))
		if !impl.IsRun(eventGraph(maxEvents), run) {
			t.Errorf("IsRun of %v = false", run)
		}
		lateness, code := impl.LatenessOf(eventGraph(maxEvents), run)
		checkList(t, "LatenessOf of one firing too many", lateness, code, nil, impl.ErrRange)
		lateness, code = impl.LatenessOf(eventGraph(maxEvents), append(run, firing((event+1)%10, 50, maxRun)))
		checkList(t, "LatenessOf of a firing behind one too many", lateness, code, nil, impl.ErrRange)
	}
}

func runPattern() *regexp.Regexp {
	word := `(0|[1-9][0-9]*)@(0|[1-9][0-9]*)`
	return regexp.MustCompile(`^(` + word + `( ` + word + `)*)?$`)
}

// plainReadRun looks first whether a text has the form of one, then at its numbers.
func plainReadRun(pattern *regexp.Regexp, s string) ([]impl.Firing, bool) {
	if !pattern.MatchString(s) || strings.Count(s, "@") > maxRun {
		return nil, false
	}
	var numbers []int64
	for _, digits := range strings.FieldsFunc(s, func(c rune) bool { return c < '0' || c > '9' }) {
		n, err := strconv.ParseInt(digits, 10, 64)
		if err != nil || n > maxFinite {
			return nil, false
		}
		numbers = append(numbers, n)
	}
	var run []impl.Firing
	for fields := range slices.Chunk(numbers, 2) {
		run = append(run, firing(fields[0], 0, fields[1]))
	}
	return numbered(run), true
}

func checkReadRun(t *testing.T, s string, want []impl.Firing, wantOK bool) {
	t.Helper()
	run, ok := impl.ReadRun(s)
	if ok != wantOK || !slices.Equal(run, want) || !ok && len(run) != 0 {
		t.Errorf("ReadRun(%.200q) = %v, %v, want %v, %v", s, run, ok, want, wantOK)
	}
	if ok && impl.RunText(run) != s {
		t.Errorf("ReadRun(%.200q) has the text %q", s, impl.RunText(run))
	}
}

func TestP14TextsOfRuns(t *testing.T) {
	cases := []struct {
		run  []impl.Firing
		text string
	}{
		{nil, ""},
		{[]impl.Firing{}, ""},
		{[]impl.Firing{firing(0, 1, 0)}, "0@0"},
		{[]impl.Firing{firing(9, 1, 10)}, "9@10"},
		{[]impl.Firing{firing(0, 1, maxFinite)}, "0@1000000"},
		// There is no graph: each event up to MaxFinite has a text.
		{[]impl.Firing{firing(10, 1, 3)}, "10@3"},
		{[]impl.Firing{firing(maxFinite, 1, maxFinite)}, "1000000@1000000"},
		{[]impl.Firing{firing(0, 1, 0), firing(0, 2, 3), firing(1, 1, 5), firing(0, 3, 7), firing(1, 2, 8), firing(1, 3, 12)}, "0@0 0@3 1@5 0@7 1@8 1@12"},
		{[]impl.Firing{firing(7, 1, 0), firing(3, 1, 0), firing(7, 2, 0), firing(999999, 1, 0), firing(3, 2, 0), firing(7, 3, 0)}, "7@0 3@0 7@0 999999@0 3@0 7@0"},
		// Times that fall are no possible run, but have a text.
		{[]impl.Firing{firing(0, 1, 9), firing(0, 2, 4), firing(1, 1, 0)}, "0@9 0@4 1@0"},
		{repeatedRun(2, maxRun, 0), "2@0" + strings.Repeat(" 2@0", maxRun-1)},
	}
	for _, c := range cases {
		if s := impl.RunText(c.run); s != c.text {
			t.Errorf("RunText(%v) = %q, want %q", c.run, s, c.text)
		}
		checkReadRun(t, c.text, c.run, true)
	}
	// The Numbers are not written, whatever they are.
	for _, number := range []int64{math.MinInt64, -1, 0, 1, 2, maxFinite + 1, bottom, math.MaxInt64} {
		if s := impl.RunText([]impl.Firing{firing(4, number, 2), firing(4, number, 1)}); s != "4@2 4@1" {
			t.Errorf("RunText of the number %d = %q", number, s)
		}
	}
}

func TestP14RunsWithoutTexts(t *testing.T) {
	for _, bad := range append(notUpTo(maxFinite), 2*maxFinite) {
		for _, f := range []impl.Firing{firing(bad, 1, 0), firing(0, 1, bad), firing(bad, 1, bad)} {
			checkReadRun(t, plainRunText([]impl.Firing{f}), nil, false)
			for _, size := range []int{1, 2, 3, maxRun} {
				for _, i := range []int{0, size / 2, size - 1} {
					run := repeatedRun(0, size, 1)
					run[i] = f
					if s := impl.RunText(run); s != "" {
						t.Errorf("RunText of %d firings with %v at %d = %q", size, f, i, s)
					}
					checkReadRun(t, plainRunText(run), nil, false)
				}
			}
		}
	}
	for _, size := range []int{maxRun - 1, maxRun, maxRun + 1, maxRun + 2, 100000} {
		for _, difference := range []int64{0, 1} {
			run := repeatedRun(7, size, difference)
			text := plainRunText(run)
			if size <= maxRun {
				if s := impl.RunText(run); s != text {
					t.Errorf("RunText of %d firings = %q", size, s)
				}
				checkReadRun(t, text, run, true)
				continue
			}
			if s := impl.RunText(run); s != "" {
				t.Errorf("RunText of %d firings = %q", size, s)
			}
			checkReadRun(t, text, nil, false)
		}
	}
}

// Texts are read back as they were written.
func TestP14TextsAreReadBack(t *testing.T) {
	random := newRandom(148)
	for g := range manyNets(random, 4) {
		for _, size := range []int{0, 1, random.IntN(30), random.IntN(maxRun + 1), maxRun} {
			for _, run := range [][]impl.Firing{someRun(random, g, size, 9), somePairs(random, size)} {
				s := impl.RunText(run)
				if s != plainRunText(run) {
					t.Errorf("RunText(%v) = %q", run, s)
				}
				checkReadRun(t, s, run, true)
			}
		}
	}
	for g := range liveNets(random, 2) {
		run, code := impl.SimulateGraph(g, maxFirings)
		again, ok := impl.ReadRun(impl.RunText(run))
		if code != impl.ErrNone || !ok || !slices.Equal(run, again) {
			t.Errorf("ReadRun of the simulation %v, %d = %v, %v", run, code, again, ok)
		}
	}
}

// somePairs are firings of any events at any times, which no graph has to allow.
func somePairs(random *rand.Rand, size int) []impl.Firing {
	var run []impl.Firing
	limits := []int64{1, 3, 10, 100, maxFinite}
	for range size {
		run = append(run, firing(random.Int64N(limits[random.IntN(len(limits))]+1), 0, random.Int64N(limits[random.IntN(len(limits))]+1)))
	}
	return numbered(run)
}

func TestP14NotTexts(t *testing.T) {
	texts := []string{
		" ", "  ", "@", "0", "@0", "0@", "0@0@", "@0@0", "0@@0", "0@0@0", "00", "0 0", "0@0 0", "0 0@0", "0@0 @0", "0@0 0@", "0@ 0", "0 @0", "0@0 @", ".", ".@0", "0@.", ".@.", "0@0 .@0", "0@0 0@.",
		" 0@0", "0@0 ", "0@0  0@0", "0@0 0@0 ", " 0@0 0@0", "0@0\n", "\n0@0", "0@0\n0@0", "0@0\t0@0", "0@0,0@0", "0@0;0@0", "0@0\x000@0", "0@00@0", "0@0  ", "\x00", "\xff", "0@0\xff", "0＠0", "０@0", "0@０",
		"-1@0", "0@-1", "-0@0", "0@-0", "+1@0", "0@+1", "+0@0", "0@+0", "--1@0", "0@0 -1@0", "0@0 0@-1", "0@0 0@+1",
		"00@0", "01@0", "0@00", "0@01", "0@0 0@01", "0@0 01@0", "000@000", "0@10 0@010", "0x1@0", "0@0x1", "1_0@0", "0@1_0", "1e0@0", "0@1e0", "1.0@0", "0@1.0", "0@0.", "a@0", "0@a", "a", "0@1a", "1a@0",
		"1000001@0", "0@1000001", "0@0 0@1000001", "10000000@0", "0@10000000", "9223372036854775807@0", "0@9223372036854775808", "0@18446744073709551616", "0@18446744073709551617", "4294967296@0", "0@4294967297", "-1000000000000000@0", "0@-1000000000000000", "-9223372036854775808@0", "0@-9223372036854775809", "0@99999999999999999999999999",
		"0@0" + strings.Repeat(" 0@0", maxRun), "0@0" + strings.Repeat(" 0@0", maxRun-1) + " ", "0@0" + strings.Repeat(" 0@0", maxRun-1) + "  0@0", "0@0" + strings.Repeat(" 0@0", maxRun-1) + " 0", " 0@0" + strings.Repeat(" 0@0", maxRun-1), "0@0" + strings.Repeat(" 0@0", maxRun-2) + " 0@x",
		strings.Repeat(" ", 100000), strings.Repeat("@", 100000), strings.Repeat("0", 100000) + "@1", "1@" + strings.Repeat("1", 100000), strings.Repeat("0@0 ", 100000), "0@0" + strings.Repeat(" 0@0", 100000), strings.Repeat("0@", 100000) + "0",
	}
	pattern := runPattern()
	for _, s := range texts {
		checkReadRun(t, s, nil, false)
		if _, ok := plainReadRun(pattern, s); ok {
			t.Errorf("%.200q has the form of a text", s)
		}
	}
}

// Each number is read in the same way wherever it stands.
func TestP14SpellingsOfNumbers(t *testing.T) {
	spellings := []string{
		"0", "1", "2", "9", "10", "11", "499", "500", "501", "999", "1000", "1001", "999999", "1000000", "1000001", "2000000", "9223372036854775807", "9223372036854775808", "18446744073709551616", "18446744073709551617", "4294967296", "4294967297", "99999999999999999999999",
		"", " ", "-0", "-1", "-1000000", "+0", "+1", "00", "01", "05", "000", "010", "0x1", "0b1", "0o1", "1_0", "1e0", "1.0", ".", "..", "-", "+", "--1", "a", "1a", "a1", "1 ", " 1", "1\n", "\x00", "1\x00", "\xff", "１", "٣", "−1", "'1'", "NaN", "Inf", "-1000000000000000", "-9223372036854775808",
	}
	pattern := runPattern()
	found := map[bool]int{}
	for _, spelling := range spellings {
		for _, form := range []string{"%s@0", "0@%s", "%[1]s@%[1]s", "5@7 %s@9", "5@7 9@%s", "%s@7 5@9", "5@%s 9@9", "%[1]s@7 0@3 %[1]s@9"} {
			s := fmt.Sprintf(form, spelling)
			want, ok := plainReadRun(pattern, s)
			checkReadRun(t, s, want, ok)
			found[ok]++
		}
	}
	if found[true] < 50 || found[false] < 200 {
		t.Errorf("the texts are too much alike: %v", found)
	}
}

// TestP14ShortTexts reads every short text over the characters that occur in texts, alone and behind a
// firing.
func TestP14ShortTexts(t *testing.T) {
	pattern := runPattern()
	found := 0
	check := func(s string) {
		want, ok := plainReadRun(pattern, s)
		checkReadRun(t, s, want, ok)
		if ok {
			found++
		}
	}
	for _, s := range shortTexts("01@ ", 8) {
		check(s)
	}
	for _, s := range shortTexts("0129@+-. ", 4) {
		check(s)
		check("0@0 " + s)
		check("0@0" + s + "0@0")
	}
	if found < 200 {
		t.Errorf("only %d texts are told", found)
	}
}

// Texts that differ in one place from that of a run.
func TestP14NearTexts(t *testing.T) {
	pattern := runPattern()
	random := newRandom(149)
	found := map[bool]int{}
	texts := []string{"", "0@0", "9@10", "1000000@1000000", "0@0 0@3 1@5 0@7 1@8 1@12"}
	for _, size := range []int{1, 2, 3, 10} {
		texts = append(texts, plainRunText(somePairs(random, size)))
	}
	characters := "0123456789@ -+.,;:\n\t\x00a\xff"
	for _, s := range texts {
		for i := range len(s) + 1 {
			for j := i; j <= min(i+2, len(s)); j++ {
				near := []string{s[:i] + s[j:], s[:j] + s[i:]} // without some bytes, and with these twice
				for k := range len(characters) {
					near = append(near, s[:i]+characters[k:k+1]+s[j:])
				}
				for _, other := range near {
					want, ok := plainReadRun(pattern, other)
					checkReadRun(t, other, want, ok)
					found[ok]++
				}
			}
		}
	}
	if found[true] < 1000 || found[false] < 5000 {
		t.Errorf("the texts are too much alike: %v", found)
	}
}

// checkNoAnswers looks at all functions with a graph and a run, where there is an error.
func checkNoAnswers(t *testing.T, g impl.EventGraph, run []impl.Firing, wantCode int64) {
	t.Helper()
	for name, call := range map[string]func(g impl.EventGraph, run []impl.Firing) ([]int64, int64){"MarkingAfter": impl.MarkingAfter, "LatenessOf": impl.LatenessOf, "NextEvents": impl.NextEvents} {
		list, code := call(g, run)
		checkList(t, fmt.Sprint(name, " of ", plainGraphText(g), " and ", len(run), " firings"), list, code, nil, wantCode)
	}
	if impl.IsRun(g, run) {
		t.Errorf("IsRun of %s and %d firings = true", plainGraphText(g), len(run))
	}
}

// The graph is looked at before all else.
func TestP14InvalidGraphs(t *testing.T) {
	runs := [][]impl.Firing{nil, {}, runOf("0@0"), runOf("0@0 0@5"), runOf("0@-1"), runOf("0@1000001"), runOf("-1@0"), runOf("11@0"), {firing(0, 0, 0)}, {firing(0, 2, 0)}, {firing(0, 51, 0)}, repeatedRun(0, maxFirings+1, 0), repeatedRun(0, maxRun, 0), repeatedRun(0, maxRun+1, 0), {firing(math.MinInt64, math.MinInt64, math.MinInt64)}, {firing(math.MaxInt64, math.MaxInt64, math.MaxInt64)}}
	for _, bad := range notEventGraphs() {
		for _, run := range runs {
			checkNoAnswers(t, bad, run, impl.ErrInvalid)
			checkNoAnswers(t, bad, append(slices.Clone(run), firing(bad.Events-1, 1, 0)), impl.ErrInvalid)
		}
		for _, n := range append(notUpTo(maxFirings), 0, 1, 5, maxFirings) {
			checkSimulation(t, bad, n, nil, impl.ErrInvalid)
		}
	}
	// Such a graph is valid but not live.
	for _, n := range append(notUpTo(maxFirings), 0, 1, maxFirings) {
		checkSimulation(t, repeatedPlace(1, impl.Place{}, maxPlaces+1), n, nil, impl.ErrInvalid)
	}
}

// The number of firings is looked at before it matters whether the graph is live.
func TestP14NotInRange(t *testing.T) {
	list := deadGraphs(t)
	for _, text := range []string{"1", "1 0>0:1000*1", "2 0>1:5*0 1>0:2*1 0>0:3*1", "10", "10 0>9:1000*5", line(upTo(maxEvents), 0) + " 9>0:1*1"} {
		list = append(list, graphOf(t, text))
	}
	for _, g := range list {
		for _, bad := range notUpTo(maxFirings) {
			checkSimulation(t, g, bad, nil, impl.ErrRange)
		}
	}
}

// Without a firing order nothing is simulated, also none of events that could fire or of no firings.
func TestP14DeadGraphs(t *testing.T) {
	for _, g := range deadGraphs(t) {
		for _, n := range []int64{0, 1, 2, maxFirings - 1, maxFirings} {
			checkSimulation(t, g, n, nil, impl.ErrState)
		}
		checkRun(t, g, nil)
	}
	random := newRandom(150)
	dead := 0
	for g := range manyNets(random, 20) {
		if !isLivePlain(g) {
			checkSimulation(t, g, random.Int64N(maxFirings+1), nil, impl.ErrState)
			dead++
		}
	}
	if dead < 100 {
		t.Errorf("only %d graphs are dead", dead)
	}
}

// Each field of each firing counts, wherever it stands.
func TestP14NotRuns(t *testing.T) {
	graphs := []impl.EventGraph{eventGraph(1), eventGraph(2), eventGraph(maxEvents), eventGraph(3, place(0, 0, 1, 1), place(0, 1, 1, 2), place(2, 2, 0, 0))}
	for _, g := range graphs {
		for _, size := range []int{1, 2, 3, maxRun} {
			for _, i := range []int{0, size / 2, size - 1} {
				good := repeatedRun(0, size, 1)
				if !checkRun(t, g, good) {
					t.Errorf("%v is no run of %v", good, g)
				}
				for _, bad := range notUpTo(g.Events - 1) {
					run := slices.Clone(good)
					run[i].Event = bad
					checkNoAnswers(t, g, run, impl.ErrRange)
					checkNoAnswers(t, g, numbered(run), impl.ErrRange)
				}
				for _, bad := range notUpTo(maxFinite) {
					run := slices.Clone(good)
					run[i].Time = bad
					checkNoAnswers(t, g, run, impl.ErrRange)
				}
				for _, bad := range append(notUpTo(maxRun), 0, int64(i), int64(i)+2, 1<<32+int64(i)+1) {
					run := slices.Clone(good)
					run[i].Number = bad
					checkNoAnswers(t, g, run, impl.ErrRange)
				}
			}
		}
		for _, size := range []int{maxRun + 1, maxRun + 2, 100000} {
			checkNoAnswers(t, g, repeatedRun(0, size, 1), impl.ErrRange)
		}
	}
}

// spareFirings are a copy of a run with marked memory behind its end that no call may change.
func spareFirings(run []impl.Firing) []impl.Firing {
	return slices.Concat(run, slices.Repeat([]impl.Firing{firing(spare, spare, spare)}, 3))[: len(run) : len(run)+3]
}

func areUnchangedFirings(run, before []impl.Firing) bool {
	return slices.Equal(run, before) && slices.Equal(run[len(run):cap(run)], slices.Repeat([]impl.Firing{firing(spare, spare, spare)}, 3))
}

// runCall is a call with a graph and a run; a result that is no list is made one.
type runCall func(g impl.EventGraph, run []impl.Firing) ([]int64, int64)

// checkRunCalls looks at the memory of results: each call is made twice with copies of a graph and of a
// run that have to stay as they are, whatever is written into the first result.
func checkRunCalls(t *testing.T, calls map[string]runCall, g impl.EventGraph, run []impl.Firing) {
	t.Helper()
	for name, call := range calls {
		net, list := withSparePlaces(g), spareFirings(run)
		result, code := call(net, list)
		want := slices.Clone(result)
		for i := range result[:cap(result)] {
			result[:cap(result)][i] = -31
		}
		if !isUnchangedGraph(net, g) || !areUnchangedFirings(list, run) {
			t.Errorf("%s changed an argument, %v or %v, or shares memory with it", name, g, run)
		}
		result, again := call(net, list)
		checkList(t, name+" for a second time", result, again, want, code)
	}
}

// checkOwnRun looks whether a second call returns the same run as the first one, into which something
// is written in between.
func checkOwnRun(t *testing.T, name string, call func() []impl.Firing) {
	t.Helper()
	run := call()
	want := slices.Clone(run)
	for i := range run[:cap(run)] {
		run[:cap(run)][i] = firing(-31, -31, -31)
	}
	if again := call(); !slices.Equal(again, want) {
		t.Errorf("%s for a second time = %v, want %v", name, again, want)
	}
}

func TestP14ResultsShareNoMemory(t *testing.T) {
	random := newRandom(151)
	calls := map[string]runCall{
		"MarkingAfter": impl.MarkingAfter,
		"LatenessOf":   impl.LatenessOf,
		"NextEvents":   impl.NextEvents,
		"TimesIn":      func(g impl.EventGraph, run []impl.Firing) ([]int64, int64) { return impl.TimesIn(run, 0) },
		"IsRun": func(g impl.EventGraph, run []impl.Firing) ([]int64, int64) {
			return []int64{int64(slices.Index([]bool{false, true}, impl.IsRun(g, run)))}, impl.ErrNone
		},
		"RunText": func(g impl.EventGraph, run []impl.Firing) ([]int64, int64) {
			return []int64{int64(slices.Index([]bool{false, true}, impl.RunText(run) == plainRunText(run)))}, impl.ErrNone
		},
	}
	for g := range manyNets(random, 3) {
		for _, size := range []int{0, 1, 10, maxRun} {
			run := someRun(random, g, size, 3)
			checkRunCalls(t, calls, g, run)
			// Graphs and runs that are none stay as they are as well.
			checkRunCalls(t, calls, g, slices.Concat(run, run, []impl.Firing{firing(-1, 0, -1)}))
			checkRunCalls(t, calls, eventGraph(0, g.Places...), run)
			checkOwnRun(t, "ReadRun", func() []impl.Firing {
				run, _ := impl.ReadRun(plainRunText(run))
				return run
			})
		}
		net := withSparePlaces(g)
		checkOwnRun(t, "SimulateGraph", func() []impl.Firing {
			run, _ := impl.SimulateGraph(net, maxFirings)
			return run
		})
		if !isUnchangedGraph(net, g) {
			t.Errorf("SimulateGraph changed its argument %v", g)
		}
	}
}

// No goroutine of a simulation is left when it has returned, but for the moment that its end takes.
func TestP14NoGoroutineStays(t *testing.T) {
	texts := []string{"1", "10", "1 0>0:3*0", "2 0>1:5*0 1>0:2*1 0>0:3*1", "2 0>1:5*0 1>0:2*0"}
	before := runtime.NumGoroutine()
	for range 200 {
		for _, text := range texts {
			g := graphOf(t, text)
			for _, n := range []int64{-1, 0, 1, 3, maxFirings, maxFirings + 1} {
				impl.SimulateGraph(g, n)
			}
		}
	}
	for range 1000 {
		if runtime.NumGoroutine() <= before {
			return
		}
		time.Sleep(time.Millisecond)
	}
	t.Errorf("%d goroutines have become %d", before, runtime.NumGoroutine())
}

// Simulations at the same time do not disturb one another.
func TestP14SimulationsAtTheSameTime(t *testing.T) {
	var all sync.WaitGroup
	for g := range liveNets(newRandom(152), 2) {
		all.Go(func() {
			for n := range int64(9) {
				checkSimulation(t, g, n, plainSimulation(g, n), impl.ErrNone)
			}
		})
	}
	all.Wait()
}
