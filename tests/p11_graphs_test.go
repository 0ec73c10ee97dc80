package tests

import (
	"fmt"
	"iter"
	"math"
	"math/rand/v2"
	"regexp"
	"slices"
	"strconv"
	"strings"
	"testing"

	"loop.example/g00941/impl"
)

const (
	maxEvents = 10
	maxPlaces = 30
	maxDelay  = 1000
	maxTokens = 5
)

func place(from, to, delay, tokens int64) impl.Place {
	return impl.Place{From: from, To: to, Delay: delay, Tokens: tokens}
}

func eventGraph(events int64, list ...impl.Place) impl.EventGraph {
	return impl.EventGraph{Events: events, Places: list}
}

// repeatedPlace is a graph with the same place several times.
func repeatedPlace(events int64, p impl.Place, times int) impl.EventGraph {
	return eventGraph(events, slices.Repeat([]impl.Place{p}, times)...)
}

func sameGraph(g, h impl.EventGraph) bool {
	return g.Events == h.Events && slices.Equal(g.Places, h.Places)
}

func copyGraph(g impl.EventGraph) impl.EventGraph {
	return eventGraph(g.Events, slices.Clone(g.Places)...)
}

// withPlace returns a copy of g in which another place stands at one index.
func withPlace(g impl.EventGraph, i int, p impl.Place) impl.EventGraph {
	h := copyGraph(g)
	h.Places[i] = p
	return h
}

func isWithin(n, low, high int64) bool { return low <= n && n <= high }

func plainAllows(g impl.EventGraph, p impl.Place) bool {
	return isWithin(p.From, 0, g.Events-1) && isWithin(p.To, 0, g.Events-1) && isWithin(p.Delay, 0, maxDelay) && isWithin(p.Tokens, 0, maxTokens)
}

func plainIsGraph(g impl.EventGraph) bool {
	if !isWithin(g.Events, 1, maxEvents) || len(g.Places) > maxPlaces {
		return false
	}
	for _, p := range g.Places {
		if !plainAllows(g, p) {
			return false
		}
	}
	return true
}

// notUpTo are integers that a careless check could take for numbers in 0..limit.
func notUpTo(limit int64) []int64 {
	return []int64{math.MinInt64, bottom, -limit - 1, -1, limit + 1, limit + 2, maxFinite + 1, 1 << 32, 1<<32 + limit, math.MaxInt64}
}

// notPlaces are no places of a graph with some events, each because of one field.
func notPlaces(events int64) []impl.Place {
	var list []impl.Place
	for _, bad := range notUpTo(events - 1) {
		list = append(list, place(bad, 0, 0, 0), place(0, bad, 0, 0), place(bad, bad, maxDelay, maxTokens))
	}
	for _, bad := range notUpTo(maxDelay) {
		list = append(list, place(0, 0, bad, 0), place(0, events-1, bad, maxTokens))
	}
	for _, bad := range notUpTo(maxTokens) {
		list = append(list, place(0, 0, 0, bad), place(events-1, 0, maxDelay, bad))
	}
	return list
}

// notEventGraphs are arguments that a careless check could take for graphs.
func notEventGraphs() []impl.EventGraph {
	good := place(0, 0, 1, 1)
	list := []impl.EventGraph{{}, {Places: []impl.Place{}}, eventGraph(0, good), eventGraph(0, place(0, 0, 0, 0)), eventGraph(-1, place(-1, -1, 0, 0))}
	for _, bad := range append(notUpTo(maxEvents), 0) {
		list = append(list, eventGraph(bad), eventGraph(bad, good), repeatedPlace(bad, good, maxPlaces))
	}
	for _, events := range []int64{1, 2, maxEvents} {
		for _, bad := range notPlaces(events) {
			list = append(list, eventGraph(events, bad), eventGraph(events, good, bad), eventGraph(events, bad, good), withPlace(repeatedPlace(events, good, maxPlaces), maxPlaces-1, bad))
		}
		list = append(list, repeatedPlace(events, good, maxPlaces+1), repeatedPlace(events, good, 300))
	}
	return list
}

// someEventGraph has as many places as told; from and to are below some number, so that many places
// lead between the same events if it is small.
func someEventGraph(random *rand.Rand, events int64, size int, below int64) impl.EventGraph {
	g := eventGraph(events)
	below = min(below, events)
	delays := []int64{0, 1, 2, 999, maxDelay, random.Int64N(maxDelay + 1)}
	tokens := 1 + random.Int64N(maxTokens+1)
	for range size {
		p := place(events-1-random.Int64N(below), random.Int64N(below), delays[random.IntN(len(delays))], random.Int64N(tokens))
		g.Places = append(g.Places, p)
	}
	return g
}

// manyEventGraphs are graphs with all numbers of events and all numbers of places.
func manyEventGraphs(random *rand.Rand, times int) iter.Seq[impl.EventGraph] {
	return func(yield func(impl.EventGraph) bool) {
		for range times {
			for events := int64(1); events <= maxEvents; events++ {
				for size := range maxPlaces + 1 {
					for _, below := range []int64{1, 2, 3, maxEvents} {
						if !yield(someEventGraph(random, events, size, below)) {
							return
						}
					}
				}
			}
		}
	}
}

func checkGraph(t *testing.T, what string, g impl.EventGraph, code int64, want impl.EventGraph, wantCode int64) {
	t.Helper()
	if code != wantCode || !sameGraph(g, want) || code != impl.ErrNone && !sameGraph(g, impl.EventGraph{}) {
		t.Errorf("%s = %v, %d, want %v, %d", what, g, code, want, wantCode)
	}
}

// plainGraphText is the text by the definition, of a graph that may also be none.
func plainGraphText(g impl.EventGraph) string {
	s := fmt.Sprint(g.Events)
	for _, p := range g.Places {
		s += fmt.Sprintf(" %d>%d:%d*%d", p.From, p.To, p.Delay, p.Tokens)
	}
	return s
}

func graphPattern() *regexp.Regexp {
	number := `(0|[1-9][0-9]*)`
	return regexp.MustCompile(`^` + number + `( ` + number + `>` + number + `:` + number + `\*` + number + `)*$`)
}

// plainReadGraph looks first whether a text has the form of one, then at its numbers.
func plainReadGraph(pattern *regexp.Regexp, s string) (impl.EventGraph, bool) {
	if !pattern.MatchString(s) {
		return impl.EventGraph{}, false
	}
	var numbers []int64
	for _, digits := range strings.FieldsFunc(s, func(c rune) bool { return c < '0' || c > '9' }) {
		n, err := strconv.ParseInt(digits, 10, 64)
		if err != nil {
			return impl.EventGraph{}, false
		}
		numbers = append(numbers, n)
	}
	g := eventGraph(numbers[0])
	for fields := range slices.Chunk(numbers[1:], 4) {
		g.Places = append(g.Places, place(fields[0], fields[1], fields[2], fields[3]))
	}
	if !plainIsGraph(g) {
		return impl.EventGraph{}, false
	}
	return g, true
}

func checkRead(t *testing.T, s string, want impl.EventGraph, wantOK bool) {
	t.Helper()
	g, ok := impl.ReadGraph(s)
	if ok != wantOK || !sameGraph(g, want) {
		t.Errorf("ReadGraph(%.200q) = %v, %v, want %v, %v", s, g, ok, want, wantOK)
	}
	if ok && impl.GraphText(g) != s {
		t.Errorf("ReadGraph(%.200q) has the text %q", s, impl.GraphText(g))
	}
}

// plainSimple looks for all places that there can be, in the order in which they have to be.
func plainSimple(g impl.EventGraph) impl.EventGraph {
	simple := eventGraph(g.Events)
	for from := range g.Events {
		for to := range g.Events {
			for tokens := range int64(maxTokens + 1) {
				greatest := int64(-1)
				for _, p := range g.Places {
					if p.From == from && p.To == to && p.Tokens == tokens {
						greatest = max(greatest, p.Delay)
					}
				}
				if greatest >= 0 {
					simple.Places = append(simple.Places, place(from, to, greatest, tokens))
				}
			}
		}
	}
	return simple
}

func TestP11Constants(t *testing.T) {
	limits := []int64{impl.MaxEvents, impl.MaxPlaces, impl.MaxDelay, impl.MaxTokens}
	if !slices.Equal(limits, []int64{maxEvents, maxPlaces, maxDelay, maxTokens}) {
		t.Errorf("limits are %v", limits)
	}
}

func TestP11IsEventGraph(t *testing.T) {
	for events := int64(1); events <= maxEvents; events++ {
		last := events - 1
		good := []impl.Place{place(0, 0, 0, 0), place(last, last, maxDelay, maxTokens), place(0, last, maxDelay, 0), place(last, 0, 0, maxTokens), place(last, 0, 1, 1)}
		if !impl.IsEventGraph(eventGraph(events)) || !impl.IsEventGraph(impl.EventGraph{Events: events, Places: []impl.Place{}}) || !impl.IsEventGraph(eventGraph(events, good...)) {
			t.Errorf("no graph has %d events", events)
		}
		for _, p := range good {
			if !impl.IsEventGraph(eventGraph(events, p)) || !impl.IsEventGraph(repeatedPlace(events, p, maxPlaces-1)) || !impl.IsEventGraph(repeatedPlace(events, p, maxPlaces)) || impl.IsEventGraph(repeatedPlace(events, p, maxPlaces+1)) {
				t.Errorf("IsEventGraph of %d events and %v", events, p)
			}
		}
	}
	for _, g := range notEventGraphs() {
		if impl.IsEventGraph(g) {
			t.Errorf("IsEventGraph(%v) = true", g)
		}
	}
}

// Each field of each place counts, wherever it stands.
func TestP11IsEventGraphLooksEverywhere(t *testing.T) {
	for events := int64(1); events <= maxEvents; events++ {
		g := someEventGraph(newRandom(111), events, maxPlaces, maxEvents)
		for i := range g.Places {
			for _, bad := range notPlaces(events) {
				if impl.IsEventGraph(withPlace(g, i, bad)) {
					t.Errorf("IsEventGraph with %d events and %v at the index %d = true", events, bad, i)
				}
			}
		}
		if !impl.IsEventGraph(g) {
			t.Errorf("IsEventGraph(%v) = false", g)
		}
	}
}

func TestP11IsEventGraphFollowsTheDefinition(t *testing.T) {
	random := newRandom(112)
	found := map[bool]int{}
	numbers := []int64{0, 0, 0, 1, 1, 2, 4, 5, 6, 9, 10, 999, 1000, 1001, -1}
	number := func() int64 { return numbers[random.IntN(len(numbers))] }
	for range 100000 {
		g := eventGraph(number())
		for range random.IntN(4) {
			g.Places = append(g.Places, place(number(), number(), number(), number()))
		}
		want := plainIsGraph(g)
		if is := impl.IsEventGraph(g); is != want {
			t.Errorf("IsEventGraph(%v) = %v", g, is)
		}
		found[want]++
	}
	if found[true] < 10000 || found[false] < 10000 {
		t.Errorf("the graphs are too much alike: %v", found)
	}
}

func TestP11AddPlace(t *testing.T) {
	p, q := place(0, 1, 5, 0), place(1, 0, 2, 1)
	full, almost := repeatedPlace(2, p, maxPlaces), repeatedPlace(2, p, maxPlaces-1)
	cases := []struct {
		g    impl.EventGraph
		p    impl.Place
		want impl.EventGraph
		code int64
	}{
		{eventGraph(2), p, eventGraph(2, p), impl.ErrNone},
		{eventGraph(2, p), q, eventGraph(2, p, q), impl.ErrNone},
		{eventGraph(2, q), p, eventGraph(2, q, p), impl.ErrNone},
		{eventGraph(2, q, p), q, eventGraph(2, q, p, q), impl.ErrNone},
		{eventGraph(2, p), p, eventGraph(2, p, p), impl.ErrNone},
		{eventGraph(1), impl.Place{}, eventGraph(1, impl.Place{}), impl.ErrNone},
		{eventGraph(1), place(0, 0, maxDelay, maxTokens), eventGraph(1, place(0, 0, maxDelay, maxTokens)), impl.ErrNone},
		{eventGraph(maxEvents, p), place(9, 9, 0, 0), eventGraph(maxEvents, p, place(9, 9, 0, 0)), impl.ErrNone},
		{almost, p, full, impl.ErrNone},
		{almost, q, withPlace(full, maxPlaces-1, q), impl.ErrNone},
		{full, p, impl.EventGraph{}, impl.ErrLimit},
		{full, q, impl.EventGraph{}, impl.ErrLimit},
		{repeatedPlace(1, impl.Place{}, maxPlaces), impl.Place{}, impl.EventGraph{}, impl.ErrLimit},
		// An event of a greater graph.
		{eventGraph(1), p, impl.EventGraph{}, impl.ErrRange},
		{eventGraph(1), q, impl.EventGraph{}, impl.ErrRange},
		{eventGraph(2, p), place(2, 0, 0, 0), impl.EventGraph{}, impl.ErrRange},
		{eventGraph(2, p), place(0, 2, 0, 0), impl.EventGraph{}, impl.ErrRange},
		{eventGraph(2, p), place(0, 1, maxDelay+1, 0), impl.EventGraph{}, impl.ErrRange},
		{eventGraph(2, p), place(0, 1, 0, maxTokens+1), impl.EventGraph{}, impl.ErrRange},
	}
	for _, c := range cases {
		g, code := impl.AddPlace(c.g, c.p)
		checkGraph(t, fmt.Sprint("AddPlace of ", c.g, " and ", c.p), g, code, c.want, c.code)
	}
	for events := int64(1); events <= maxEvents; events++ {
		for _, bad := range notPlaces(events) {
			// The place is looked at before the number of places.
			for _, size := range []int{0, 1, maxPlaces - 1, maxPlaces} {
				g, code := impl.AddPlace(repeatedPlace(events, place(0, 0, 3, 1), size), bad)
				checkGraph(t, fmt.Sprint("AddPlace of ", bad, " with ", events, " events"), g, code, impl.EventGraph{}, impl.ErrRange)
			}
		}
	}
}

func TestP11DropPlace(t *testing.T) {
	p, q, r := place(0, 1, 5, 0), place(1, 0, 2, 1), place(1, 1, 0, 3)
	cases := []struct {
		g    impl.EventGraph
		i    int64
		want impl.EventGraph
		code int64
	}{
		{eventGraph(2, p), 0, eventGraph(2), impl.ErrNone},
		{eventGraph(2, p, q, r), 0, eventGraph(2, q, r), impl.ErrNone},
		{eventGraph(2, p, q, r), 1, eventGraph(2, p, r), impl.ErrNone},
		{eventGraph(2, p, q, r), 2, eventGraph(2, p, q), impl.ErrNone},
		{eventGraph(2, p, p, q), 0, eventGraph(2, p, q), impl.ErrNone},
		{eventGraph(2, p, p, q), 1, eventGraph(2, p, q), impl.ErrNone},
		{eventGraph(2, r, q, p), 1, eventGraph(2, r, p), impl.ErrNone},
		{repeatedPlace(maxEvents, p, maxPlaces), maxPlaces - 1, repeatedPlace(maxEvents, p, maxPlaces-1), impl.ErrNone},
		{eventGraph(2), 0, impl.EventGraph{}, impl.ErrRange},
		{eventGraph(1), -1, impl.EventGraph{}, impl.ErrRange},
		{eventGraph(2, p), 1, impl.EventGraph{}, impl.ErrRange},
		{eventGraph(2, p), -1, impl.EventGraph{}, impl.ErrRange},
		{eventGraph(maxEvents, p), 9, impl.EventGraph{}, impl.ErrRange},
		{repeatedPlace(2, p, maxPlaces), maxPlaces, impl.EventGraph{}, impl.ErrRange},
	}
	for _, c := range cases {
		g, code := impl.DropPlace(c.g, c.i)
		checkGraph(t, fmt.Sprint("DropPlace of ", c.g, " and ", c.i), g, code, c.want, c.code)
	}
}

func TestP11ChangePlace(t *testing.T) {
	p, q := place(0, 1, 5, 0), place(1, 0, 2, 1)
	g, full := eventGraph(2, p, q), repeatedPlace(2, p, maxPlaces)
	cases := []struct {
		g                impl.EventGraph
		i, delay, tokens int64
		want             impl.EventGraph
		code             int64
	}{
		{g, 0, 7, 3, eventGraph(2, place(0, 1, 7, 3), q), impl.ErrNone},
		{g, 1, 7, 3, eventGraph(2, p, place(1, 0, 7, 3)), impl.ErrNone},
		{g, 1, 3, 4, eventGraph(2, p, place(1, 0, 3, 4)), impl.ErrNone},
		{g, 0, 5, 1, eventGraph(2, place(0, 1, 5, 1), q), impl.ErrNone},
		{g, 0, 6, 0, eventGraph(2, place(0, 1, 6, 0), q), impl.ErrNone},
		{g, 0, 5, 0, g, impl.ErrNone},
		{g, 1, 0, 0, eventGraph(2, p, place(1, 0, 0, 0)), impl.ErrNone},
		{g, 1, maxDelay, maxTokens, eventGraph(2, p, place(1, 0, maxDelay, maxTokens)), impl.ErrNone},
		{full, maxPlaces - 1, 8, 2, withPlace(full, maxPlaces-1, place(0, 1, 8, 2)), impl.ErrNone},
		{full, 0, 8, 2, withPlace(full, 0, place(0, 1, 8, 2)), impl.ErrNone},
		{eventGraph(1, impl.Place{}), 0, 9, 0, eventGraph(1, place(0, 0, 9, 0)), impl.ErrNone},
		{eventGraph(2), 0, 0, 0, impl.EventGraph{}, impl.ErrRange},
		{g, 2, 0, 0, impl.EventGraph{}, impl.ErrRange},
		{g, -1, 0, 0, impl.EventGraph{}, impl.ErrRange},
		{full, maxPlaces, 0, 0, impl.EventGraph{}, impl.ErrRange},
		{g, 0, -1, 0, impl.EventGraph{}, impl.ErrRange},
		{g, 0, 0, -1, impl.EventGraph{}, impl.ErrRange},
		{g, 0, maxDelay + 1, 0, impl.EventGraph{}, impl.ErrRange},
		{g, 0, 0, maxTokens + 1, impl.EventGraph{}, impl.ErrRange},
		{g, 5, maxDelay + 1, maxTokens + 1, impl.EventGraph{}, impl.ErrRange},
	}
	for _, c := range cases {
		h, code := impl.ChangePlace(c.g, c.i, c.delay, c.tokens)
		checkGraph(t, fmt.Sprint("ChangePlace of ", c.g, ", ", c.i, ", ", c.delay, " and ", c.tokens), h, code, c.want, c.code)
	}
	for _, bad := range notUpTo(maxDelay) {
		h, code := impl.ChangePlace(g, 1, bad, 1)
		checkGraph(t, fmt.Sprint("ChangePlace to the delay ", bad), h, code, impl.EventGraph{}, impl.ErrRange)
	}
	for _, bad := range notUpTo(maxTokens) {
		h, code := impl.ChangePlace(g, 1, 1, bad)
		checkGraph(t, fmt.Sprint("ChangePlace to the tokens ", bad), h, code, impl.EventGraph{}, impl.ErrRange)
	}
	for delay := range int64(maxDelay + 1) {
		h, code := impl.ChangePlace(g, 0, delay, delay%(maxTokens+1))
		checkGraph(t, fmt.Sprint("ChangePlace to the delay ", delay), h, code, eventGraph(2, place(0, 1, delay, delay%(maxTokens+1)), q), impl.ErrNone)
	}
}

// No index is one unless it is that of a place, in graphs with any number of places.
func TestP11AllIndices(t *testing.T) {
	for size := range maxPlaces + 1 {
		g := someEventGraph(newRandom(113), maxEvents, size, maxEvents)
		for i := int64(-3); i <= maxPlaces+3; i++ {
			dropped, changed, wantCode := impl.EventGraph{}, impl.EventGraph{}, int64(impl.ErrRange)
			if i >= 0 && i < int64(size) {
				dropped, changed, wantCode = copyGraph(g), copyGraph(g), impl.ErrNone
				dropped.Places = slices.Delete(dropped.Places, int(i), int(i)+1)
				changed.Places[i].Delay, changed.Places[i].Tokens = 77, 4
			}
			h, code := impl.DropPlace(g, i)
			checkGraph(t, fmt.Sprint("DropPlace of ", i, " of ", size), h, code, dropped, wantCode)
			h, code = impl.ChangePlace(g, i, 77, 4)
			checkGraph(t, fmt.Sprint("ChangePlace of ", i, " of ", size), h, code, changed, wantCode)
		}
		for _, bad := range notUpTo(int64(size) - 1) {
			h, code := impl.DropPlace(g, bad)
			checkGraph(t, fmt.Sprint("DropPlace of ", bad, " of ", size), h, code, impl.EventGraph{}, impl.ErrRange)
			h, code = impl.ChangePlace(g, bad, 77, 4)
			checkGraph(t, fmt.Sprint("ChangePlace of ", bad, " of ", size), h, code, impl.EventGraph{}, impl.ErrRange)
		}
	}
}

// What is taken back leaves the graph as it was.
func TestP11ChangesAreTakenBack(t *testing.T) {
	random := newRandom(114)
	for g := range manyEventGraphs(random, 1) {
		size := len(g.Places)
		p := someEventGraph(random, g.Events, 1, maxEvents).Places[0]
		if h, code := impl.AddPlace(g, p); size == maxPlaces {
			checkGraph(t, "AddPlace to a full graph", h, code, impl.EventGraph{}, impl.ErrLimit)
		} else {
			checkGraph(t, "AddPlace", h, code, eventGraph(g.Events, append(slices.Clone(g.Places), p)...), impl.ErrNone)
			back, code := impl.DropPlace(h, int64(size))
			checkGraph(t, "DropPlace of a place that was added", back, code, g, impl.ErrNone)
		}
		if size == 0 {
			continue
		}
		i := random.IntN(size)
		before := g.Places[i]
		h, code := impl.ChangePlace(g, int64(i), p.Delay, p.Tokens)
		checkGraph(t, "ChangePlace", h, code, withPlace(g, i, place(before.From, before.To, p.Delay, p.Tokens)), impl.ErrNone)
		back, code := impl.ChangePlace(h, int64(i), before.Delay, before.Tokens)
		checkGraph(t, "ChangePlace back", back, code, g, impl.ErrNone)
		// The last place comes back to its index when it is dropped and added.
		h, code = impl.DropPlace(g, int64(size-1))
		checkGraph(t, "DropPlace of the last place", h, code, eventGraph(g.Events, g.Places[:size-1]...), impl.ErrNone)
		back, code = impl.AddPlace(h, g.Places[size-1])
		checkGraph(t, "AddPlace of a place that was dropped", back, code, g, impl.ErrNone)
	}
}

func TestP11PlacesOfEvents(t *testing.T) {
	g := eventGraph(4, place(0, 1, 5, 0), place(1, 0, 2, 1), place(0, 1, 9, 0), place(2, 2, 3, 1), place(2, 1, 0, 5), place(1, 2, 4, 0), place(0, 1, 5, 0))
	full := repeatedPlace(2, place(0, 1, 0, 0), maxPlaces)
	cases := []struct {
		g          impl.EventGraph
		event      int64
		into, from []int64
	}{
		{g, 0, []int64{1}, []int64{0, 2, 6}},
		{g, 1, []int64{0, 2, 4, 6}, []int64{1, 5}},
		{g, 2, []int64{3, 5}, []int64{3, 4}},
		{g, 3, nil, nil},
		{eventGraph(1), 0, nil, nil},
		{eventGraph(1, impl.Place{}), 0, []int64{0}, []int64{0}},
		{eventGraph(1, impl.Place{}, impl.Place{}), 0, []int64{0, 1}, []int64{0, 1}},
		{eventGraph(maxEvents), 9, nil, nil},
		{eventGraph(maxEvents, place(9, 0, 0, 0), place(0, 9, 0, 0)), 9, []int64{1}, []int64{0}},
		{full, 0, nil, upTo(maxPlaces)},
		{full, 1, upTo(maxPlaces), nil},
		{repeatedPlace(1, impl.Place{}, maxPlaces), 0, upTo(maxPlaces), upTo(maxPlaces)},
	}
	for _, c := range cases {
		list, code := impl.PlacesInto(c.g, c.event)
		checkList(t, fmt.Sprint("PlacesInto of ", c.g, " and ", c.event), list, code, c.into, impl.ErrNone)
		list, code = impl.PlacesFrom(c.g, c.event)
		checkList(t, fmt.Sprint("PlacesFrom of ", c.g, " and ", c.event), list, code, c.from, impl.ErrNone)
	}
	for events := int64(1); events <= maxEvents; events++ {
		for _, size := range []int{0, 1, 7, maxPlaces} {
			g := repeatedPlace(events, place(0, events-1, 1, 1), size)
			for _, bad := range notUpTo(events - 1) {
				list, code := impl.PlacesInto(g, bad)
				checkList(t, fmt.Sprint("PlacesInto of ", events, " events and ", bad), list, code, nil, impl.ErrRange)
				list, code = impl.PlacesFrom(g, bad)
				checkList(t, fmt.Sprint("PlacesFrom of ", events, " events and ", bad), list, code, nil, impl.ErrRange)
			}
		}
	}
}

func TestP11PlacesOfEventsFollowTheDefinition(t *testing.T) {
	for g := range manyEventGraphs(newRandom(115), 2) {
		for event := range g.Events {
			var into, from []int64
			for i, p := range g.Places {
				if p.To == event {
					into = append(into, int64(i))
				}
				if p.From == event {
					from = append(from, int64(i))
				}
			}
			list, code := impl.PlacesInto(g, event)
			checkList(t, fmt.Sprint("PlacesInto of ", g, " and ", event), list, code, into, impl.ErrNone)
			list, code = impl.PlacesFrom(g, event)
			checkList(t, fmt.Sprint("PlacesFrom of ", g, " and ", event), list, code, from, impl.ErrNone)
		}
	}
}

func TestP11SimplifyGraph(t *testing.T) {
	cases := []struct{ text, want string }{
		{"1", "1"},
		{"10", "10"},
		{"1 0>0:0*0", "1 0>0:0*0"},
		{"2 0>1:5*0 1>0:2*1 0>1:9*0 0>1:1*2", "2 0>1:9*0 0>1:1*2 1>0:2*1"},
		// The greatest delay, wherever it stands.
		{"2 0>1:5*0 0>1:9*0", "2 0>1:9*0"},
		{"2 0>1:9*0 0>1:5*0", "2 0>1:9*0"},
		{"2 0>1:5*0 0>1:1000*0 0>1:7*0", "2 0>1:1000*0"},
		{"2 0>1:0*0 1>0:3*0 0>1:0*0", "2 0>1:0*0 1>0:3*0"},
		{"2 0>1:10*0 0>1:9*0", "2 0>1:10*0"},
		// Other tokens, and the other direction.
		{"2 0>1:5*1 0>1:9*0", "2 0>1:9*0 0>1:5*1"},
		{"2 0>1:5*5 0>1:5*3 0>1:5*4 0>1:5*0 0>1:5*2 0>1:5*1", "2 0>1:5*0 0>1:5*1 0>1:5*2 0>1:5*3 0>1:5*4 0>1:5*5"},
		{"2 0>1:1*1 1>0:2*1", "2 0>1:1*1 1>0:2*1"},
		{"2 1>0:1*1 0>1:2*1", "2 0>1:2*1 1>0:1*1"},
		{"1 0>0:4*1 0>0:6*2 0>0:5*1", "1 0>0:5*1 0>0:6*2"},
		// From comes before To, To before Tokens, and the delay decides nothing.
		{"3 2>0:0*0 1>1:1*1 0>2:2*2", "3 0>2:2*2 1>1:1*1 2>0:0*0"},
		{"3 0>2:0*0 0>1:1*1 0>0:2*2", "3 0>0:2*2 0>1:1*1 0>2:0*0"},
		{"3 0>1:0*2 0>0:1*3 0>1:2*1 1>0:3*0", "3 0>0:1*3 0>1:2*1 0>1:0*2 1>0:3*0"},
		{"3 1>0:9*0 0>2:8*0 0>1:7*5", "3 0>1:7*5 0>2:8*0 1>0:9*0"},
		{"10 9>0:1*0 0>9:1*0 9>9:1*0 0>0:1*0", "10 0>0:1*0 0>9:1*0 9>0:1*0 9>9:1*0"},
		{"1" + strings.Repeat(" 0>0:7*3", maxPlaces), "1 0>0:7*3"},
		{"2" + strings.Repeat(" 1>0:7*3 0>1:7*3", maxPlaces/2), "2 0>1:7*3 1>0:7*3"},
	}
	for _, c := range cases {
		g, ok := impl.ReadGraph(c.text)
		if !ok {
			t.Errorf("ReadGraph(%q) = %v, %v", c.text, g, ok)
		}
		simple, code := impl.SimplifyGraph(g)
		if s := impl.GraphText(simple); s != c.want || code != impl.ErrNone {
			t.Errorf("SimplifyGraph of %q = %q, %d, want %q", c.text, s, code, c.want)
		}
	}
}

// The order of the places does not matter, and simplifying twice is simplifying once.
func TestP11SimplifyGraphFollowsTheDefinition(t *testing.T) {
	random := newRandom(116)
	dropped := map[bool]int{}
	for g := range manyEventGraphs(random, 3) {
		want := plainSimple(g)
		simple, code := impl.SimplifyGraph(g)
		checkGraph(t, fmt.Sprint("SimplifyGraph of ", g), simple, code, want, impl.ErrNone)
		twice, code := impl.SimplifyGraph(simple)
		checkGraph(t, fmt.Sprint("SimplifyGraph twice of ", g), twice, code, simple, impl.ErrNone)
		random.Shuffle(len(g.Places), func(i, j int) { g.Places[i], g.Places[j] = g.Places[j], g.Places[i] })
		again, code := impl.SimplifyGraph(g)
		checkGraph(t, fmt.Sprint("SimplifyGraph of ", g), again, code, want, impl.ErrNone)
		dropped[len(simple.Places) < len(g.Places)]++
	}
	if dropped[true] < 1000 || dropped[false] < 500 {
		t.Errorf("the graphs are too much alike: %v", dropped)
	}
}

// A graph with as many different places as there can be keeps all of them.
func TestP11SimplifyGraphKeepsDifferentPlaces(t *testing.T) {
	var list []impl.Place
	for from := range int64(3) {
		for to := range int64(2) {
			for tokens := range int64(5) {
				list = append(list, place(from, to, 10*tokens+from, tokens))
			}
		}
	}
	want := eventGraph(3, list...)
	g := copyGraph(want)
	slices.Reverse(g.Places)
	simple, code := impl.SimplifyGraph(g)
	checkGraph(t, "SimplifyGraph of different places", simple, code, want, impl.ErrNone)
}

func TestP11TextsOfGraphs(t *testing.T) {
	wide := place(9, 9, maxDelay, maxTokens)
	cases := []struct {
		g    impl.EventGraph
		text string
	}{
		{eventGraph(2, place(0, 1, 5, 0)), "2 0>1:5*0"},
		{eventGraph(1), "1"},
		{eventGraph(9), "9"},
		{eventGraph(maxEvents), "10"},
		{eventGraph(1, impl.Place{}), "1 0>0:0*0"},
		{eventGraph(1, impl.Place{}, impl.Place{}), "1 0>0:0*0 0>0:0*0"},
		{eventGraph(maxEvents, wide), "10 9>9:1000*5"},
		{eventGraph(3, place(2, 0, 1, 2), place(0, 2, 10, 3), place(1, 0, 100, 4)), "3 2>0:1*2 0>2:10*3 1>0:100*4"},
		{repeatedPlace(maxEvents, wide, maxPlaces), "10" + strings.Repeat(" 9>9:1000*5", maxPlaces)},
	}
	for _, c := range cases {
		if s := impl.GraphText(c.g); s != c.text {
			t.Errorf("GraphText(%v) = %q, want %q", c.g, s, c.text)
		}
		checkRead(t, c.text, c.g, true)
	}
	for _, g := range notEventGraphs() {
		if s := impl.GraphText(g); s != "" {
			t.Errorf("GraphText(%v) = %q", g, s)
		}
		checkRead(t, plainGraphText(g), impl.EventGraph{}, false)
	}
}

// TestP11Promise has no other judge than the functions of the chapter, but for the form of the texts.
func TestP11Promise(t *testing.T) {
	texts := map[string]impl.EventGraph{}
	for g := range manyEventGraphs(newRandom(117), 3) {
		s := impl.GraphText(g)
		if s != plainGraphText(g) {
			t.Errorf("GraphText(%v) = %q", g, s)
		}
		checkRead(t, s, g, true)
		if other, ok := texts[s]; ok && !sameGraph(g, other) {
			t.Errorf("%v and %v have the text %q", g, other, s)
		}
		texts[s] = g
	}
	if len(texts) < 3000 {
		t.Errorf("the graphs are too much alike: %d", len(texts))
	}
	// Each number of each field has a text of its own.
	for delay := range int64(maxDelay + 1) {
		g := eventGraph(1+delay%maxEvents, place(delay%(1+delay%maxEvents), 0, delay, delay%(maxTokens+1)))
		s := impl.GraphText(g)
		if s != plainGraphText(g) {
			t.Errorf("GraphText(%v) = %q", g, s)
		}
		checkRead(t, s, g, true)
	}
}

func TestP11NotTexts(t *testing.T) {
	texts := []string{
		"", " ", "  ", "0", "11", "-1", "+1", "01", "1.", "1.0", ".", "a", "one", "1,", "1;", "1\n", "\n1", "1\t", "1\x00", "\xff", "１", "1e0", "0x1", "1_0", "100", "9223372036854775808", "18446744073709551617",
		" 1", "1 ", "1  ", " 2 0>1:5*0", "2  0>1:5*0", "2 0>1:5*0 ", "2 0>1:5*0  1>0:2*1", "2\t0>1:5*0", "2\n0>1:5*0", "2 0>1:5*0\n", "2,0>1:5*0", "2 0>1:5*0,1>0:2*1", "2 0>1:5*01>0:2*1", "20>1:5*0", "2 0 >1:5*0", "2 0> 1:5*0", "2 0>1 :5*0", "2 0>1: 5*0", "2 0>1:5 *0", "2 0>1:5* 0",
		"0>1:5*0", " 0>1:5*0", "2 >1:5*0", "2 0>:5*0", "2 0>1:*0", "2 0>1:5*", "2 0", "2 0>1", "2 0>1:5", "2 0>1:5:0", "2 0>1*5*0", "2 0>1*5:0", "2 0:1>5*0", "2 0*1:5>0", "2 >", "2 :", "2 *", "2 >:*", "2 0>1>5*0", "2 0<1:5*0", "2 0-1:5*0", "2 0->1:5*0", "2 0>1=5*0", "2 0>1:5x0", "2 0>1:5×0",
		"2 0>>1:5*0", "2 0>1::5*0", "2 0>1:5**0", "2 0>1:5*0*0", "2 0>1:5*0*", "2 0>1>0:1*1", "2 0>1:5*0>", "2 0>1:5*0:", "2 >0>1:5*0", "2 0>1:5:5*0", "2 0>1:5*0:5*0", "2 0>1:5>1*0", "2 0>1:5*0>1", "2 0>1:5*0>1:5*0", "2 0>1:5*0 3", "2 2 0>1:5*0", "2 0>1:5*0 2",
		"2 -0>1:5*0", "2 0>-1:5*0", "2 0>+1:5*0", "2 0>1:-5*0", "2 0>1:+5*0", "2 0>1:5*-0", "2 0>1:5*+0", "2 00>1:5*0", "2 0>01:5*0", "2 0>1:05*0", "2 0>1:5*00", "02 0>1:5*0", "+2 0>1:5*0", "-2 0>1:5*0",
		"2 .>1:5*0", "2 0>.:5*0", "2 0>1:.*0", "2 0>1:5*.", ". 0>1:5*0", "2 a>1:5*0", "2 0>b:5*0", "2 0>1:c*0", "2 0>1:5*d", "2 0>1:5.0*0", "2 0>1:5*0.", "2 0>1:5*1e0",
		"2 2>1:5*0", "2 0>2:5*0", "1 0>1:5*0", "1 1>0:5*0", "10 10>0:5*0", "10 0>10:5*0", "2 0>1:1001*0", "2 0>1:5*6", "2 0>1:10000*0", "2 0>1:5*10", "11 0>1:5*0", "0 0>0:5*0",
		"2 0>1:9223372036854775807*0", "2 0>1:9223372036854775808*0", "2 0>1:-9223372036854775808*0", "2 0>1:-9223372036854775809*0", "2 0>1:5*18446744073709551616", "2 18446744073709551616>1:5*0", "2 0>18446744073709551617:5*0", "18446744073709551618 0>1:5*0", "2 0>1:4294967301*0", "2 0>1:5*4294967296", "2 0>1:-1000000000000000*0",
		"2 0>1:5*0 0>1:5*6", "2 0>1:5*6 0>1:5*0", "2 0>1:5*0 0>1:1001*0", "2 0>1:5*0 0>2:5*0", "2 0>1:5*0 x 0>1:5*0", "2 0>1:5*0;0>1:5*0",
		"10" + strings.Repeat(" 9>9:1000*5", maxPlaces+1), "1" + strings.Repeat(" 0>0:0*0", maxPlaces+1), "1" + strings.Repeat(" 0>0:0*0", 300), "1" + strings.Repeat(" 0>0:0*0", maxPlaces) + " ", "1" + strings.Repeat(" 0>0:0*0", maxPlaces) + "  0>0:0*0", "1" + strings.Repeat(" 0>0:0*0", maxPlaces) + " 0", "1" + strings.Repeat(" 0>0:0*0", maxPlaces) + "\n",
		strings.Repeat(" ", 100000), strings.Repeat("1", 100000), strings.Repeat("0", 100000) + "1", "1" + strings.Repeat(" 0>0:0*0", 100000), "2 0>1:" + strings.Repeat("0", 100000) + "*0", strings.Repeat(">", 100000), strings.Repeat("2 0>1:5*0 ", 100000),
	}
	for _, s := range texts {
		checkRead(t, s, impl.EventGraph{}, false)
	}
}

// Each number is read in the same way wherever it stands.
func TestP11SpellingsOfNumbers(t *testing.T) {
	spellings := []string{
		"0", "1", "2", "5", "6", "9", "10", "11", "999", "1000", "1001", "10000", "1000000", "1000001", "9223372036854775807", "9223372036854775808", "18446744073709551616", "18446744073709551617", "4294967296", "4294967297", "99999999999999999999999",
		"", " ", "-0", "-1", "-5", "+0", "+1", "00", "01", "05", "000", "010", "0x1", "0b1", "0o1", "1_0", "1e0", "1.0", ".", "..", "-", "+", "--1", "a", "1a", "a1", "1 ", " 1", "1\n", "\x00", "1\x00", "\xff", "１", "٣", "−1", "'1'", "NaN", "Inf", "-1000000000000000", "-9223372036854775808",
	}
	pattern := graphPattern()
	found := map[bool]int{}
	for _, events := range []string{"1", "2", "10"} {
		for field := range 5 {
			for _, spelling := range spellings {
				fields := []any{events, "0", "0", "0", "0"}
				fields[field] = spelling
				for _, s := range []string{fmt.Sprintf("%s %s>%s:%s*%s", fields...), fmt.Sprintf("%s %s>%s:%s*%s 0>0:3*1", fields...), fmt.Sprintf("%[1]s 0>0:3*1 %[2]s>%[3]s:%[4]s*%[5]s", fields...)} {
					want, ok := plainReadGraph(pattern, s)
					checkRead(t, s, want, ok)
					found[ok]++
				}
			}
		}
	}
	if found[true] < 100 || found[false] < 1000 {
		t.Errorf("the texts are too much alike: %v", found)
	}
}

// TestP11ShortTexts reads every short text over the characters that occur in texts, alone and behind
// the events.
func TestP11ShortTexts(t *testing.T) {
	pattern := graphPattern()
	found := 0
	check := func(s string) {
		want, ok := plainReadGraph(pattern, s)
		checkRead(t, s, want, ok)
		if ok {
			found++
		}
	}
	for _, s := range shortTexts("01>:* ", 7) {
		check("2 " + s)
	}
	for _, s := range shortTexts("0129+-.> ", 4) {
		check(s)
	}
	for _, s := range shortTexts(">:* ", 4) {
		check("2 0" + s + "0")
		check("2 0>1:5*0" + s + "1>0:5*0")
	}
	if found < 20 {
		t.Errorf("only %d texts are told", found)
	}
}

// Texts that differ in one place from that of a graph.
func TestP11NearTexts(t *testing.T) {
	pattern := graphPattern()
	random := newRandom(118)
	found := map[bool]int{}
	texts := []string{"1", "10", "2 0>1:5*0", "10 9>9:1000*5", "3 2>0:10*3 0>2:0*1"}
	for _, size := range []int{1, 2, 3, 10, maxPlaces} {
		texts = append(texts, plainGraphText(someEventGraph(random, maxEvents, size, maxEvents)))
	}
	characters := "0123456789>:* -+.,;<\n\t\x00a\xff"
	for _, s := range texts {
		for i := range len(s) + 1 {
			for j := i; j <= min(i+2, len(s)); j++ {
				near := []string{s[:i] + s[j:], s[:j] + s[i:]} // without some bytes, and with these twice
				for k := range len(characters) {
					near = append(near, s[:i]+characters[k:k+1]+s[j:])
				}
				for _, other := range near {
					want, ok := plainReadGraph(pattern, other)
					checkRead(t, other, want, ok)
					found[ok]++
				}
			}
		}
	}
	if found[true] < 2000 || found[false] < 20000 {
		t.Errorf("the texts are too much alike: %v", found)
	}
}

// The graph is looked at before all else.
func TestP11InvalidGraphs(t *testing.T) {
	none := impl.EventGraph{}
	for _, bad := range notEventGraphs() {
		for _, p := range []impl.Place{{}, place(0, 0, 1, 1), place(-1, 0, 0, 0), place(0, 99, 0, 0), place(0, 0, maxDelay+1, 0), place(0, 0, 0, -1)} {
			g, code := impl.AddPlace(bad, p)
			checkGraph(t, "AddPlace of no graph", g, code, none, impl.ErrInvalid)
		}
		for _, i := range []int64{math.MinInt64, -1, 0, 1, int64(len(bad.Places)) - 1, int64(len(bad.Places)), math.MaxInt64} {
			g, code := impl.DropPlace(bad, i)
			checkGraph(t, "DropPlace of no graph", g, code, none, impl.ErrInvalid)
			for _, delay := range []int64{-1, 0, maxDelay + 1} {
				for _, tokens := range []int64{-1, 0, maxTokens + 1} {
					g, code := impl.ChangePlace(bad, i, delay, tokens)
					checkGraph(t, "ChangePlace of no graph", g, code, none, impl.ErrInvalid)
				}
			}
			list, code := impl.PlacesInto(bad, i)
			checkList(t, "PlacesInto of no graph", list, code, nil, impl.ErrInvalid)
			list, code = impl.PlacesFrom(bad, i)
			checkList(t, "PlacesFrom of no graph", list, code, nil, impl.ErrInvalid)
		}
		g, code := impl.SimplifyGraph(bad)
		checkGraph(t, "SimplifyGraph of no graph", g, code, none, impl.ErrInvalid)
	}
}

// sparePlace marks memory behind the end of a slice that no call may change.
func sparePlace() impl.Place { return place(spare, spare, spare, spare) }

// withSparePlaces copies a graph; its places have spare capacity.
func withSparePlaces(g impl.EventGraph) impl.EventGraph {
	return eventGraph(g.Events, slices.Concat(g.Places, slices.Repeat([]impl.Place{sparePlace()}, 3))[:len(g.Places):len(g.Places)+3]...)
}

func isUnchangedGraph(g, before impl.EventGraph) bool {
	behind := g.Places[len(g.Places):cap(g.Places)]
	return sameGraph(g, before) && slices.Equal(behind, slices.Repeat([]impl.Place{sparePlace()}, 3))
}

// graphCall is a call with a graph, whose result is a graph or a list.
type graphCall func(g impl.EventGraph) (impl.EventGraph, []int64, int64)

func graphResult(call func(g impl.EventGraph) (impl.EventGraph, int64)) graphCall {
	return func(g impl.EventGraph) (impl.EventGraph, []int64, int64) {
		h, code := call(g)
		return h, nil, code
	}
}

func listResult(call func(g impl.EventGraph) ([]int64, int64)) graphCall {
	return func(g impl.EventGraph) (impl.EventGraph, []int64, int64) {
		list, code := call(g)
		return impl.EventGraph{}, list, code
	}
}

// checkGraphCalls looks at the memory of results: each call is made twice with a copy of the graph that
// has to stay as it is, whatever is written into the first result.
func checkGraphCalls(t *testing.T, calls map[string]graphCall, before impl.EventGraph) {
	t.Helper()
	for name, call := range calls {
		g := withSparePlaces(before)
		h, list, code := call(g)
		wantGraph, wantList := copyGraph(h), slices.Clone(list)
		if !isUnchangedGraph(g, before) {
			t.Errorf("%s changed its argument %v", name, before)
		}
		for i := range h.Places[:cap(h.Places)] {
			h.Places[:cap(h.Places)][i] = place(-31, -31, -31, -31)
		}
		for i := range list[:cap(list)] {
			list[:cap(list)][i] = -31
		}
		if !isUnchangedGraph(g, before) {
			t.Errorf("%s: the result shares memory with the argument %v", name, before)
		}
		h, list, again := call(g)
		checkGraph(t, name+" for a second time", h, again, wantGraph, code)
		checkList(t, name+" for a second time", list, again, wantList, code)
	}
}

func TestP11ResultsShareNoMemory(t *testing.T) {
	random := newRandom(119)
	p := place(0, 0, 4, 2)
	for _, size := range []int{0, 1, 2, 3, 10, maxPlaces - 1, maxPlaces} {
		g := someEventGraph(random, 3, size, 3)
		simple, _ := impl.SimplifyGraph(g)
		last := int64(max(size-1, 0))
		calls := map[string]graphCall{
			"AddPlace":           graphResult(func(g impl.EventGraph) (impl.EventGraph, int64) { return impl.AddPlace(g, p) }),
			"DropPlace first":    graphResult(func(g impl.EventGraph) (impl.EventGraph, int64) { return impl.DropPlace(g, 0) }),
			"DropPlace last":     graphResult(func(g impl.EventGraph) (impl.EventGraph, int64) { return impl.DropPlace(g, last) }),
			"DropPlace none":     graphResult(func(g impl.EventGraph) (impl.EventGraph, int64) { return impl.DropPlace(g, last+1) }),
			"ChangePlace":        graphResult(func(g impl.EventGraph) (impl.EventGraph, int64) { return impl.ChangePlace(g, last, 55, 2) }),
			"ChangePlace beyond": graphResult(func(g impl.EventGraph) (impl.EventGraph, int64) { return impl.ChangePlace(g, last, maxDelay+1, 2) }),
			"SimplifyGraph":      graphResult(impl.SimplifyGraph),
			"PlacesInto":         listResult(func(g impl.EventGraph) ([]int64, int64) { return impl.PlacesInto(g, 0) }),
			"PlacesFrom":         listResult(func(g impl.EventGraph) ([]int64, int64) { return impl.PlacesFrom(g, 0) }),
			"GraphText": func(g impl.EventGraph) (impl.EventGraph, []int64, int64) {
				h, ok := impl.ReadGraph(impl.GraphText(g))
				return h, []int64{int64(slices.Index([]bool{false, true}, ok && impl.IsEventGraph(g)))}, impl.ErrNone
			},
		}
		for _, before := range []impl.EventGraph{g, simple} {
			checkGraphCalls(t, calls, before)
		}
		// A graph that is none stays as it is as well.
		for name, call := range calls {
			for _, before := range []impl.EventGraph{eventGraph(0, g.Places...), eventGraph(3, append(slices.Clone(g.Places), place(3, 0, 0, 0))...)} {
				bad := withSparePlaces(before)
				if call(bad); !isUnchangedGraph(bad, before) {
					t.Errorf("%s changed its argument %v", name, before)
				}
			}
		}
	}
}
