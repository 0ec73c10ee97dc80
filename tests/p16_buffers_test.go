package tests

import (
	"fmt"
	"math/big"
	"math/rand/v2"
	"slices"
	"strings"
	"testing"

	"loop.example/g00941/impl"
)

const (
	maxRoom    = 8
	maxBuffers = 3
)

// roomTrial is what rooms lead to: the cycle time of their limited graph, or nil if it is not live.
type roomTrial struct {
	rooms []int64
	time  *big.Rat
}

func (trial roomTrial) suffices(r impl.Ratio) bool {
	return trial.time != nil && trial.time.Cmp(big.NewRat(r.Num, r.Den)) <= 0
}

// plainRooms are the rooms of a place, found among all numbers.
func plainRooms(p impl.Place) []int64 {
	var rooms []int64
	for room := int64(1); room <= maxRoom; room++ {
		if p.Tokens <= room && room <= p.Tokens+maxTokens {
			rooms = append(rooms, room)
		}
	}
	return rooms
}

func arePlainBuffers(g impl.EventGraph, list []int64) bool {
	isNone := func(i int64) bool { return !isWithin(i, 0, int64(len(g.Places))-1) }
	return isWithin(int64(len(list)), 1, maxBuffers) && !slices.ContainsFunc(list, isNone) && !hasRepeats(list)
}

func arePlainRooms(g impl.EventGraph, list, rooms []int64) bool {
	if len(list) != len(rooms) {
		return false
	}
	for k, i := range list {
		if !slices.Contains(plainRooms(g.Places[i]), rooms[k]) {
			return false
		}
	}
	return true
}

// eachRooms tries all lists of rooms of some places.
func eachRooms(g impl.EventGraph, list []int64, try func(rooms []int64)) {
	tuples(curve(maxRoom, func(k int64) int64 { return k + 1 }), len(list), func(rooms []int64) {
		if arePlainRooms(g, list, rooms) {
			try(rooms)
		}
	})
}

func plainLimited(g impl.EventGraph, list, rooms []int64) impl.EventGraph {
	h := copyGraph(g)
	for k, i := range list {
		p := g.Places[i]
		h.Places = append(h.Places, place(p.To, p.From, 0, rooms[k]-p.Tokens))
	}
	return h
}

// greatestTime is the greatest ratio of some circuits, or nil if one of them has no tokens.
func greatestTime(g impl.EventGraph, circuits [][]int64) *big.Rat {
	var greatest *big.Rat
	for _, circuit := range circuits {
		delay, tokens := sumsAlong(g, circuit)
		if tokens == 0 {
			return nil
		}
		greatest = greaterTime(greatest, big.NewRat(delay, tokens))
	}
	return greatest
}

// plainTrials tries all lists of rooms, whose limited graphs have the same circuits.
func plainTrials(g impl.EventGraph, list []int64) []roomTrial {
	var circuits [][]int64
	var trials []roomTrial
	eachRooms(g, list, func(rooms []int64) {
		h := plainLimited(g, list, rooms)
		if circuits == nil {
			circuits = plainCircuits(h)
		}
		trials = append(trials, roomTrial{rooms, greatestTime(h, circuits)})
	})
	return trials
}

// roomsResult is what LeastRooms returns, if sufficing tells which rooms do.
func roomsResult(sufficing [][]int64) ([]int64, int64) {
	var least []int64
	for _, rooms := range sufficing {
		if least == nil || total(rooms) < total(least) || total(rooms) == total(least) && slices.Compare(rooms, least) < 0 {
			least = rooms
		}
	}
	if least == nil {
		return nil, impl.ErrNotFound
	}
	return least, impl.ErrNone
}

func leastOf(trials []roomTrial, r impl.Ratio) ([]int64, int64) {
	var sufficing [][]int64
	for _, trial := range trials {
		if trial.suffices(r) {
			sufficing = append(sufficing, trial.rooms)
		}
	}
	return roomsResult(sufficing)
}

// checkLeastRooms looks at the least rooms, and for one place also at its least room.
func checkLeastRooms(t *testing.T, g impl.EventGraph, list []int64, r impl.Ratio, want []int64, wantCode int64) {
	t.Helper()
	of := fmt.Sprint(" of ", plainGraphText(g), " and ", list, " for ", r)
	rooms, code := impl.LeastRooms(g, list, r)
	checkList(t, "LeastRooms"+of, rooms, code, want, wantCode)
	if len(list) == 1 {
		room, code := impl.LeastRoom(g, list[0], r)
		checkNumber(t, "LeastRoom"+of, room, code, total(want), wantCode)
	}
}

func checkSuffice(t *testing.T, g impl.EventGraph, list, rooms []int64, r impl.Ratio, want bool, wantCode int64) {
	t.Helper()
	is, code := impl.RoomsSuffice(g, list, rooms, r)
	checkAnswer(t, fmt.Sprint("RoomsSuffice of ", plainGraphText(g), ", ", list, " and ", rooms, " for ", r), is, code, want, wantCode)
}

// checkLimited looks at the limited graph, and for one place also at that of LimitPlace.
func checkLimited(t *testing.T, g impl.EventGraph, list, rooms []int64, want impl.EventGraph, wantCode int64) {
	t.Helper()
	of := fmt.Sprint(" of ", plainGraphText(g), ", ", list, " and ", rooms)
	h, code := impl.LimitPlaces(g, list, rooms)
	checkGraph(t, "LimitPlaces"+of, h, code, want, wantCode)
	if len(list) == 1 && len(rooms) == 1 {
		h, code := impl.LimitPlace(g, list[0], rooms[0])
		checkGraph(t, "LimitPlace"+of, h, code, want, wantCode)
	}
}

func checkRoomTimes(t *testing.T, g impl.EventGraph, i int64, want []impl.Ratio, wantCode int64) {
	t.Helper()
	times, code := impl.RoomTimes(g, i)
	if code != wantCode || !slices.Equal(times, want) || code != impl.ErrNone && len(times) > 0 {
		t.Errorf("RoomTimes of %s and %d = %v, %d, want %v, %d", plainGraphText(g), i, times, code, want, wantCode)
	}
}

func checkRoomsOf(t *testing.T, g impl.EventGraph, i, wantLow, wantHigh, wantCode int64) {
	t.Helper()
	if low, high, code := impl.RoomsOf(g, i); low != wantLow || high != wantHigh || code != wantCode {
		t.Errorf("RoomsOf of %s and %d = %d, %d, %d, want %d, %d, %d", plainGraphText(g), i, low, high, code, wantLow, wantHigh, wantCode)
	}
}

// timesOf are the times of trials as RoomTimes returns them.
func timesOf(trials []roomTrial) []impl.Ratio {
	var times []impl.Ratio
	for _, trial := range trials {
		time := ratio(0, 1)
		if trial.time != nil {
			time, _ = wantRatio(trial.time)
		}
		times = append(times, time)
	}
	return times
}

// ratiosAround are ratios at which other rooms become the least ones, and ratios close to them.
func ratiosAround(trials []roomTrial) []impl.Ratio {
	list := []impl.Ratio{ratio(maxFinite, 1), ratio(0, 1), ratio(-1, maxFinite), ratio(-maxFinite, 1)}
	for _, time := range timesOf(trials) {
		if !slices.Contains(list, time) {
			list = append(list, nearTimes(time)...)
		}
	}
	return list
}

// checkTrials compares all answers about some places with what all rooms lead to.
func checkTrials(t *testing.T, random *rand.Rand, g impl.EventGraph, list []int64, ratios int) []roomTrial {
	t.Helper()
	trials := plainTrials(g, list)
	around := ratiosAround(trials)
	random.Shuffle(len(around), func(i, j int) { around[i], around[j] = around[j], around[i] })
	for _, r := range around[:min(ratios, len(around))] {
		want, wantCode := leastOf(trials, r)
		checkLeastRooms(t, g, list, r, want, wantCode)
		for range 3 {
			trial := trials[random.IntN(len(trials))]
			checkSuffice(t, g, list, trial.rooms, r, trial.suffices(r), impl.ErrNone)
		}
	}
	if len(list) == 1 {
		checkRoomTimes(t, g, list[0], timesOf(trials), impl.ErrNone)
	}
	for _, trial := range trials {
		checkLimited(t, g, list, trial.rooms, plainLimited(g, list, trial.rooms), impl.ErrNone)
	}
	return trials
}

// somePlaces are some indices of places, all different, in any order.
func somePlaces(random *rand.Rand, g impl.EventGraph, size int) []int64 {
	var list []int64
	for _, i := range random.Perm(len(g.Places))[:size] {
		list = append(list, int64(i))
	}
	return list
}

func TestP16Constants(t *testing.T) {
	limits := []int64{impl.MaxRoom, impl.MaxBuffers}
	if !slices.Equal(limits, []int64{maxRoom, maxBuffers}) {
		t.Errorf("limits are %v", limits)
	}
}

// The rooms of a place follow from its tokens alone, whatever stands around it.
func TestP16RoomsOf(t *testing.T) {
	random := newRandom(170)
	rooms := [][]int64{{1, 5}, {1, 6}, {2, 7}, {3, 8}, {4, 8}, {5, 8}}
	for tokens, want := range rooms {
		for _, text := range []string{"1 0>0:0*%d", "1 0>0:1000*%d", "2 0>1:0*%d", "2 1>0:1000*%d", "10 9>0:3*%d", "10 9>9:3*%d"} {
			checkRoomsOf(t, graphOf(t, fmt.Sprintf(text, tokens)), 0, want[0], want[1], impl.ErrNone)
		}
	}
	for g := range manyEventGraphs(random, 1) {
		for i, p := range g.Places {
			checkRoomsOf(t, g, int64(i), rooms[p.Tokens][0], rooms[p.Tokens][1], impl.ErrNone)
		}
	}
}

func TestP16LimitPlaces(t *testing.T) {
	net := "3 0>1:5*0 1>2:7*2 2>0:1*5 0>0:3*1 1>2:8*3"
	tall := line(upTo(maxEvents), 4)
	cases := []struct {
		text        string
		list, rooms []int64
		added       string
	}{
		{"2 0>1:5*0", []int64{0}, []int64{1}, " 1>0:0*1"},
		{"2 0>1:5*0", []int64{0}, []int64{5}, " 1>0:0*5"},
		{"2 1>0:1000*1", []int64{0}, []int64{1}, " 0>1:0*0"},
		{"2 1>0:1000*1", []int64{0}, []int64{6}, " 0>1:0*5"},
		{"2 1>0:0*2", []int64{0}, []int64{2}, " 0>1:0*0"},
		{"2 1>0:0*2", []int64{0}, []int64{7}, " 0>1:0*5"},
		{"2 0>1:5*3", []int64{0}, []int64{8}, " 1>0:0*5"},
		{"2 0>1:5*4", []int64{0}, []int64{8}, " 1>0:0*4"},
		{"2 0>1:5*5", []int64{0}, []int64{5}, " 1>0:0*0"},
		{"2 0>1:5*5", []int64{0}, []int64{8}, " 1>0:0*3"},
		// A place from an event to itself, also where the limited graph is not live.
		{"1 0>0:3*0", []int64{0}, []int64{1}, " 0>0:0*1"},
		{"1 0>0:3*1", []int64{0}, []int64{1}, " 0>0:0*0"},
		{"1 0>0:3*5", []int64{0}, []int64{8}, " 0>0:0*3"},
		{"1 0>0:3*5", []int64{0}, []int64{5}, " 0>0:0*0"},
		// The order is that of the list, and each room belongs to the place with the same index in it.
		{net, []int64{0}, []int64{3}, " 1>0:0*3"},
		{net, []int64{4}, []int64{4}, " 2>1:0*1"},
		{net, []int64{0, 1}, []int64{2, 3}, " 1>0:0*2 2>1:0*1"},
		{net, []int64{1, 0}, []int64{3, 2}, " 2>1:0*1 1>0:0*2"},
		{net, []int64{1, 0}, []int64{2, 3}, " 2>1:0*0 1>0:0*3"},
		{net, []int64{1, 4}, []int64{7, 8}, " 2>1:0*5 2>1:0*5"},
		{net, []int64{3, 2, 1}, []int64{4, 6, 5}, " 0>0:0*3 0>2:0*1 2>1:0*3"},
		{net, []int64{2, 3, 0}, []int64{8, 1, 5}, " 0>2:0*3 0>0:0*0 1>0:0*5"},
		{tall, []int64{8, 0, 4}, []int64{4, 8, 5}, " 9>8:0*0 1>0:0*4 5>4:0*1"},
		{"1" + strings.Repeat(" 0>0:9*2", maxPlaces-1), []int64{28}, []int64{7}, " 0>0:0*5"},
		{"2" + strings.Repeat(" 1>0:9*2", maxPlaces-2), []int64{27, 0}, []int64{2, 7}, " 0>1:0*0 0>1:0*5"},
		{"10" + strings.Repeat(" 9>0:9*5", maxPlaces-3), []int64{26, 0, 13}, []int64{8, 7, 6}, " 0>9:0*3 0>9:0*2 0>9:0*1"},
	}
	for _, c := range cases {
		checkLimited(t, graphOf(t, c.text), c.list, c.rooms, graphOf(t, c.text+c.added), impl.ErrNone)
	}
}

// All numbers that could be taken for rooms, for places with all tokens, as the only one and beside others.
func TestP16AllRooms(t *testing.T) {
	allowed := 0
	candidates := append(notUpTo(maxRoom), curve(16, func(k int64) int64 { return k - 3 })...)
	for tokens := range int64(maxTokens + 1) {
		g := graphOf(t, fmt.Sprintf("2 0>1:5*%d 1>0:2*4 1>1:1*2", tokens))
		for _, room := range candidates {
			want, wantCode := impl.EventGraph{}, int64(impl.ErrRange)
			isRoom := slices.Contains(plainRooms(g.Places[0]), room)
			if isRoom {
				want, wantCode = plainLimited(g, []int64{0}, []int64{room}), impl.ErrNone
				allowed++
			}
			checkLimited(t, g, []int64{0}, []int64{room}, want, wantCode)
			checkSuffice(t, g, []int64{0}, []int64{room}, ratio(maxFinite, 1), isRoom, wantCode)
			for k := range maxBuffers {
				list, rooms := slices.Insert([]int64{1, 2}, k, 0), slices.Insert([]int64{5, 3}, k, room)
				want := impl.EventGraph{}
				if isRoom {
					want = plainLimited(g, list, rooms)
				}
				checkLimited(t, g, list, rooms, want, wantCode)
				checkSuffice(t, g, list, rooms, ratio(maxFinite, 1), isRoom, wantCode)
			}
		}
	}
	if allowed != 5+6+6+6+5+4 {
		t.Errorf("%d numbers are rooms", allowed)
	}
}

// timesOfText reads times, where a minus sign stands for a graph that is not live.
func timesOfText(text string) []roomTrial {
	var trials []roomTrial
	for _, word := range strings.Fields(text) {
		time, isTime := new(big.Rat).SetString(word)
		if !isTime {
			time = nil
		}
		trials = append(trials, roomTrial{time: time})
	}
	return trials
}

func TestP16RoomTimes(t *testing.T) {
	long := line(upTo(maxEvents), 0)
	slow := strings.ReplaceAll(long, ":7", ":1000")
	cases := []struct {
		text  string
		i     int64
		times string
	}{
		{"2 0>0:4*1 1>1:4*1 0>1:6*0", 2, "6/1 4/1 4/1 4/1 4/1"},
		// Without a circuit before, for all tokens.
		{"2 0>1:5*0", 0, "5/1 5/2 5/3 5/4 1/1"},
		{"2 0>1:5*1", 0, "5/1 5/2 5/3 5/4 1/1 5/6"},
		{"2 0>1:5*2", 0, "5/2 5/3 5/4 1/1 5/6 5/7"},
		{"2 1>0:5*3", 0, "5/3 5/4 1/1 5/6 5/7 5/8"},
		{"2 1>0:5*4", 0, "5/4 1/1 5/6 5/7 5/8"},
		{"2 1>0:5*5", 0, "1/1 5/6 5/7 5/8"},
		{"2 0>1:0*3", 0, "0/1 0/1 0/1 0/1 0/1 0/1"},
		// From an event to itself: without room for one more token it can never fire.
		{"1 0>0:3*1", 0, "- 3/1 3/1 3/1 3/1 3/1"},
		{"1 0>0:3*5", 0, "- 3/5 3/5 3/5"},
		{"1 0>0:0*2", 0, "- 0/1 0/1 0/1 0/1 0/1"},
		{"1 0>0:3*0", 0, "- - - - -"},
		{"1 0>0:3*0 0>0:3*1", 1, "- - - - - -"},
		// Other places with the same events, the same or in the other direction.
		{"2 0>1:3*1 0>1:2*0", 0, "- 2/1 1/1 3/4 3/5 1/2"},
		{"2 0>1:3*1 0>1:2*0", 1, "2/1 1/1 3/4 3/5 1/2"},
		{"2 0>1:3*1 1>0:2*1", 0, "3/1 5/2 5/2 5/2 5/2 5/2"},
		{"2 0>1:3*0 1>0:2*1", 0, "5/1 5/1 5/1 5/1 5/1"},
		{"2 0>1:3*0 1>0:2*1", 1, "5/1 5/1 5/1 5/1 5/1 5/1"},
		{"2 0>1:3*0 1>0:2*1 0>1:1*1", 2, "- 5/1 5/1 5/1 5/1 5/1"},
		{"2 0>1:3*0 1>0:2*1 0>1:1*2", 2, "- 5/1 5/1 5/1 5/1 5/1"},
		{"2 0>1:3*1 0>1:3*1", 1, "3/1 3/2 1/1 3/4 3/5 1/2"},
		// Not live before, whatever the rooms are and where the dead cycle is.
		{"2 0>1:3*0 1>0:2*0", 0, "- - - - -"},
		{"2 0>1:0*0 1>0:0*0", 1, "- - - - -"},
		{"3 0>1:3*1 2>2:0*0", 0, "- - - - - -"},
		{"3 0>1:3*5 2>1:1*0 1>2:1*0", 0, "- - - -"},
		// A circuit elsewhere is the slowest one.
		{"3 0>1:9*0 2>2:4*1", 0, "9/1 9/2 4/1 4/1 4/1"},
		{"3 0>1:9*0 2>2:9*2", 0, "9/1 9/2 9/2 9/2 9/2"},
		// Places that lead the other way round make a circuit as well.
		{"3 0>2:6*0 0>1:0*0 1>2:0*1", 0, "6/1 3/1 2/1 3/2 6/5"},
		{"3 0>2:6*0 0>1:9*0 1>2:4*1", 0, "13/2 13/3 13/4 13/5 13/6"},
		{"3 0>2:6*0 0>1:9*0 1>2:4*0", 0, "13/1 13/2 13/3 13/4 13/5"},
		{long + " 9>0:1*1", 0, "64/1 64/1 64/1 64/1 64/1"},
		{long + " 0>9:1*0", 9, "63/1 63/2 21/1 63/4 63/5"},
		{long + " 0>9:1000*5", 9, "- 500/3 1000/7 125/1"},
		{slow + " 0>9:0*1", 9, "- 9000/1 4500/1 3000/1 2250/1 1800/1"},
	}
	for _, c := range cases {
		g := graphOf(t, c.text)
		trials := timesOfText(c.times)
		checkRoomTimes(t, g, c.i, timesOf(trials), impl.ErrNone)
		checkTrials(t, newRandom(171), g, []int64{c.i}, 100)
		if rooms := plainRooms(g.Places[c.i]); len(rooms) != len(trials) {
			t.Errorf("%s and %d have %d rooms", c.text, c.i, len(rooms))
		}
	}
}

func TestP16LeastRoom(t *testing.T) {
	cases := []struct {
		text string
		i    int64
		r    impl.Ratio
		want int64
	}{
		{"2 0>0:4*1 1>1:4*1 0>1:6*0", 2, ratio(6, 1), 1},
		{"2 0>0:4*1 1>1:4*1 0>1:6*0", 2, ratio(599999, 100000), 2},
		{"2 0>0:4*1 1>1:4*1 0>1:6*0", 2, ratio(4, 1), 2},
		{"2 0>0:4*1 1>1:4*1 0>1:6*0", 2, ratio(399999, 100000), 0},
		{"2 0>1:5*0", 0, ratio(maxFinite, 1), 1},
		{"2 0>1:5*0", 0, ratio(maxFinite, 199999), 1},
		{"2 0>1:5*0", 0, ratio(5, 1), 1},
		{"2 0>1:5*0", 0, ratio(999999, 200000), 2},
		{"2 0>1:5*0", 0, ratio(5, 2), 2},
		{"2 0>1:5*0", 0, ratio(999999, 400000), 3},
		{"2 0>1:5*0", 0, ratio(5, 3), 3},
		{"2 0>1:5*0", 0, ratio(5, 4), 4},
		{"2 0>1:5*0", 0, ratio(maxFinite, 999999), 5},
		{"2 0>1:5*0", 0, ratio(1, 1), 5},
		{"2 0>1:5*0", 0, ratio(999999, maxFinite), 0},
		{"2 0>1:5*0", 0, ratio(0, 1), 0},
		{"2 0>1:5*0", 0, ratio(-1, maxFinite), 0},
		{"2 0>1:5*0", 0, ratio(-maxFinite, 1), 0},
		// The least rooms are enough.
		{"2 0>1:1*0", 0, ratio(1, 1), 1},
		{"2 0>1:1*1", 0, ratio(1, 1), 1},
		{"2 0>1:1*5", 0, ratio(1, 1), 5},
		{"2 0>1:1*5", 0, ratio(1, 5), 5},
		{"2 0>1:1*5", 0, ratio(1, 6), 6},
		// The greatest rooms are not, or only just.
		{"2 0>1:8*2", 0, ratio(8, 7), 7},
		{"2 0>1:8*2", 0, ratio(1, 1), 0},
		{"2 0>1:8*3", 0, ratio(1, 1), 8},
		{"2 0>1:9*3", 0, ratio(1, 1), 0},
		{"2 0>1:8*4", 0, ratio(1, 1), 8},
		{"2 0>1:8*5", 0, ratio(1, 1), 8},
		{"2 0>1:8*5", 0, ratio(999999, maxFinite), 0},
		{"2 0>1:1000*5", 0, ratio(125, 1), 8},
		{"2 0>1:1000*5", 0, ratio(124, 1), 0},
		// Without delays nothing but liveness matters, and a ratio below 0 is never enough.
		{"2 0>1:0*0", 0, ratio(0, 1), 1},
		{"2 0>1:0*5", 0, ratio(0, 1), 5},
		{"2 0>1:0*5", 0, ratio(-1, maxFinite), 0},
		{"1 0>0:0*1", 0, ratio(0, 1), 2},
		{"1 0>0:0*1", 0, ratio(-1, 1), 0},
		{"1 0>0:0*5", 0, ratio(maxFinite, 1), 6},
		{"1 0>0:3*2", 0, ratio(maxFinite, 1), 3},
		{"1 0>0:3*2", 0, ratio(3, 2), 3},
		{"1 0>0:3*2", 0, ratio(4, 3), 0},
		{"1 0>0:3*0", 0, ratio(maxFinite, 1), 0},
		{"1 0>0:0*0", 0, ratio(0, 1), 0},
		{"2 0>1:0*0 1>0:0*0", 0, ratio(0, 1), 0},
		{"2 0>1:3*1 0>1:2*0", 0, ratio(maxFinite, 1), 2},
		{"2 0>1:0*1 0>1:0*0", 0, ratio(0, 1), 2},
		{"3 0>1:3*1 2>2:0*0", 0, ratio(maxFinite, 1), 0},
		{"10" + strings.Repeat(" 9>0:9*5", maxPlaces-1), 28, ratio(9, 5), 5},
		{"10" + strings.Repeat(" 9>0:9*5", maxPlaces-1), 28, ratio(9, 7), 7},
	}
	for _, c := range cases {
		want, wantCode := []int64{c.want}, int64(impl.ErrNone)
		if c.want == 0 {
			want, wantCode = nil, impl.ErrNotFound
		}
		checkLeastRooms(t, graphOf(t, c.text), []int64{c.i}, c.r, want, wantCode)
	}
}

func TestP16LeastRooms(t *testing.T) {
	stations := "3 0>0:4*1 1>1:4*1 2>2:4*1 0>1:6*0 1>2:10*0"
	// The rooms of both places count on the circuit over the third place.
	pair := "3 0>1:0*0 1>2:0*0 0>2:6*0"
	fork := "4 0>1:0*0 1>2:0*0 1>3:0*0 0>2:4*0 0>3:4*0"
	triple := "4 0>1:0*0 1>2:0*0 2>3:0*0 0>3:12*0"
	cases := []struct {
		text string
		list []int64
		r    impl.Ratio
		want []int64
	}{
		{stations, []int64{3, 4}, ratio(4, 1), []int64{2, 3}},
		{stations, []int64{4, 3}, ratio(4, 1), []int64{3, 2}},
		{stations, []int64{3, 4}, ratio(6, 1), []int64{1, 2}},
		{stations, []int64{3, 4}, ratio(10, 1), []int64{1, 1}},
		{stations, []int64{3, 4}, ratio(9, 1), []int64{1, 2}},
		{stations, []int64{3, 4}, ratio(maxFinite, 1), []int64{1, 1}},
		{stations, []int64{3, 4}, ratio(399999, 100000), nil},
		{stations, []int64{0, 3, 4}, ratio(4, 1), []int64{2, 2, 3}},
		{stations, []int64{4, 1, 3}, ratio(4, 1), []int64{3, 2, 2}},
		// Several lists with the same sum, of which the first place of the list gets as little as it can.
		{pair, []int64{0, 1}, ratio(6, 1), []int64{1, 1}},
		{pair, []int64{0, 1}, ratio(3, 1), []int64{1, 1}},
		{pair, []int64{0, 1}, ratio(2, 1), []int64{1, 2}},
		{pair, []int64{1, 0}, ratio(2, 1), []int64{1, 2}},
		{pair, []int64{0, 1}, ratio(3, 2), []int64{1, 3}},
		{pair, []int64{0, 1}, ratio(1, 1), []int64{1, 5}},
		{pair, []int64{1, 0}, ratio(1, 1), []int64{1, 5}},
		{pair, []int64{0, 1}, ratio(6, 7), []int64{2, 5}},
		{pair, []int64{0, 1}, ratio(3, 4), []int64{3, 5}},
		{pair, []int64{0, 1}, ratio(2, 3), []int64{4, 5}},
		{pair, []int64{0, 1}, ratio(3, 5), []int64{5, 5}},
		{pair, []int64{0, 1}, ratio(599999, maxFinite), nil},
		{strings.Replace(pair, "0>1:0", "0>1:4", 1), []int64{0, 1}, ratio(2, 1), []int64{2, 1}},
		{strings.Replace(pair, "0>1:0", "0>1:4", 1), []int64{1, 0}, ratio(2, 1), []int64{1, 2}},
		{triple, []int64{0, 1, 2}, ratio(2, 1), []int64{1, 1, 4}},
		{triple, []int64{2, 0, 1}, ratio(2, 1), []int64{1, 1, 4}},
		{triple, []int64{0, 1, 2}, ratio(3, 2), []int64{1, 2, 5}},
		{triple, []int64{0, 1, 2}, ratio(1, 1), []int64{2, 5, 5}},
		{triple, []int64{1, 2, 0}, ratio(4, 5), []int64{5, 5, 5}},
		{triple, []int64{1, 2, 0}, ratio(3, 4), nil},
		// The least sum is not reached by the least room of the first place, which would suffice as well.
		{fork, []int64{0, 1, 2}, ratio(1, 1), []int64{3, 1, 1}},
		{fork, []int64{1, 0, 2}, ratio(1, 1), []int64{1, 3, 1}},
		{fork, []int64{1, 2, 0}, ratio(1, 1), []int64{1, 1, 3}},
		{fork, []int64{0, 1, 2}, ratio(4, 3), []int64{2, 1, 1}},
		{fork, []int64{0, 1, 2}, ratio(4, 5), []int64{4, 1, 1}},
		{fork, []int64{0, 1, 2}, ratio(1, 2), []int64{5, 3, 3}},
		{fork, []int64{0, 1, 2}, ratio(2, 5), []int64{5, 5, 5}},
		{fork, []int64{0, 1, 2}, ratio(1, 3), nil},
		// Tokens count for the rooms, not only for the circuits.
		{"3 0>1:0*4 1>2:0*3 0>2:6*0", []int64{0, 1}, ratio(maxFinite, 1), []int64{4, 4}},
		{"3 0>1:0*4 1>2:0*3 0>2:6*0", []int64{1, 0}, ratio(maxFinite, 1), []int64{3, 5}},
		{"3 0>1:0*4 1>2:0*3 0>2:6*0", []int64{0, 1}, ratio(1, 1), []int64{5, 8}},
		{"3 0>1:0*4 1>2:0*3 0>2:6*0", []int64{0, 1}, ratio(2, 3), []int64{8, 8}},
		{"3 0>1:0*4 1>2:0*3 0>2:6*0", []int64{0, 1}, ratio(599999, maxFinite), nil},
		{"3 0>1:0*5 1>2:0*5 0>2:6*0", []int64{0, 1}, ratio(1, 1), []int64{8, 8}},
		{"3 0>1:0*5 1>2:0*5 0>2:6*1", []int64{0, 1}, ratio(maxFinite, 1), []int64{5, 5}},
		// Places from an event to itself and places with the same events.
		{"1 0>0:3*1 0>0:2*2 0>0:1*5", []int64{0, 1, 2}, ratio(3, 1), []int64{2, 3, 6}},
		{"1 0>0:3*1 0>0:2*2 0>0:1*5", []int64{2, 1, 0}, ratio(3, 1), []int64{6, 3, 2}},
		{"1 0>0:3*1 0>0:2*2 0>0:1*5", []int64{2, 1, 0}, ratio(2, 1), nil},
		{"2 0>1:5*0 0>1:5*0 0>1:5*0", []int64{0, 1, 2}, ratio(5, 2), []int64{2, 2, 2}},
		{"2 0>1:3*1 0>1:2*0", []int64{0, 1}, ratio(maxFinite, 1), []int64{2, 1}},
		{"2 0>1:3*1 0>1:2*0", []int64{1, 0}, ratio(1, 1), []int64{2, 3}},
		{"2 0>1:5*0 1>0:5*1", []int64{0, 1}, ratio(10, 1), []int64{1, 1}},
		{"2 0>1:5*0 1>0:5*1", []int64{1, 0}, ratio(maxFinite, 1), []int64{1, 1}},
		{"2 0>1:5*0 1>0:5*1", []int64{0, 1}, ratio(9, 1), nil},
		// Not live from the beginning.
		{"3 0>1:0*0 1>0:0*0 1>2:0*0", []int64{0, 1, 2}, ratio(maxFinite, 1), nil},
		{"3 0>1:0*0 2>2:0*0 1>2:0*0", []int64{0, 2}, ratio(0, 1), nil},
		{"10" + strings.Repeat(" 9>0:8*5", maxPlaces-3), []int64{26, 0, 9}, ratio(1, 1), []int64{8, 8, 8}},
		{"10" + strings.Repeat(" 9>0:8*5", maxPlaces-3), []int64{26, 0, 9}, ratio(8, 5), []int64{5, 5, 5}},
		{"10" + strings.Repeat(" 9>0:8*5", maxPlaces-3), []int64{26, 0, 9}, ratio(7, 8), nil},
	}
	for _, c := range cases {
		g := graphOf(t, c.text)
		wantCode := int64(impl.ErrNone)
		if c.want == nil {
			wantCode = impl.ErrNotFound
		}
		checkLeastRooms(t, g, c.list, c.r, c.want, wantCode)
		if len(g.Places) <= 12 {
			checkTrials(t, newRandom(172), g, c.list, 20)
		}
	}
}

func TestP16RoomsSuffice(t *testing.T) {
	pair := "3 0>1:0*0 1>2:0*0 0>2:6*0"
	cases := []struct {
		text        string
		list, rooms []int64
		r           impl.Ratio
		want        bool
	}{
		{pair, []int64{0, 1}, []int64{1, 2}, ratio(2, 1), true},
		{pair, []int64{0, 1}, []int64{2, 1}, ratio(2, 1), true},
		{pair, []int64{0, 1}, []int64{5, 5}, ratio(2, 1), true},
		{pair, []int64{0, 1}, []int64{1, 1}, ratio(2, 1), false},
		{pair, []int64{0, 1}, []int64{1, 2}, ratio(199999, 100000), false},
		{pair, []int64{0, 1}, []int64{1, 2}, ratio(200001, 100000), true},
		{pair, []int64{0}, []int64{1}, ratio(0, 1), true},
		{pair, []int64{0}, []int64{1}, ratio(-1, maxFinite), false},
		{pair, []int64{2}, []int64{1}, ratio(6, 1), true},
		{pair, []int64{2}, []int64{1}, ratio(5, 1), false},
		// Rooms that make a graph not live do not suffice for any ratio, also without delays.
		{"1 0>0:3*1", []int64{0}, []int64{1}, ratio(maxFinite, 1), false},
		{"1 0>0:0*1", []int64{0}, []int64{1}, ratio(maxFinite, 1), false},
		{"1 0>0:0*1", []int64{0}, []int64{1}, ratio(0, 1), false},
		{"1 0>0:0*1", []int64{0}, []int64{2}, ratio(0, 1), true},
		{"2 0>1:0*1 0>1:0*0", []int64{0}, []int64{1}, ratio(0, 1), false},
		{"2 0>1:0*1 0>1:0*0", []int64{0}, []int64{2}, ratio(0, 1), true},
		{"2 0>1:0*1 0>1:5*0", []int64{0}, []int64{1}, ratio(maxFinite, 1), false},
		{"2 0>1:0*5 1>0:0*5", []int64{0, 1}, []int64{5, 5}, ratio(maxFinite, 1), false},
		{"2 0>1:0*5 1>0:0*5", []int64{0, 1}, []int64{5, 6}, ratio(0, 1), true},
		{"2 0>1:0*5 1>0:0*5", []int64{0, 1}, []int64{6, 5}, ratio(0, 1), true},
		{"3 0>1:0*0 2>2:0*0", []int64{0}, []int64{5}, ratio(maxFinite, 1), false},
		// Ratios whose numbers are as great as they can be.
		{"2 0>1:1000*0", []int64{0}, []int64{1}, ratio(maxFinite, 1), true},
		{"2 0>1:1000*0", []int64{0}, []int64{1}, ratio(maxFinite, 999), true},
		{"2 0>1:1000*0", []int64{0}, []int64{1}, ratio(maxFinite, 1001), false},
		{"2 0>1:1*0", []int64{0}, []int64{1}, ratio(maxFinite-1, maxFinite), false},
		{"2 0>1:1*0", []int64{0}, []int64{1}, ratio(1, maxFinite), false},
		{"2 0>1:0*0", []int64{0}, []int64{1}, ratio(1, maxFinite), true},
		{strings.ReplaceAll(line(upTo(maxEvents), 0), ":7", ":1000") + " 0>9:0*0", []int64{9}, []int64{5}, ratio(1800, 1), true},
		{strings.ReplaceAll(line(upTo(maxEvents), 0), ":7", ":1000") + " 0>9:0*0", []int64{9}, []int64{5}, ratio(999999, 556), false},
		{strings.ReplaceAll(line(upTo(maxEvents), 0), ":7", ":1000") + " 0>9:0*0", []int64{9}, []int64{5}, ratio(1, maxFinite), false},
	}
	for _, c := range cases {
		checkSuffice(t, graphOf(t, c.text), c.list, c.rooms, c.r, c.want, impl.ErrNone)
	}
}

// narrowNet has so few events and numbers that rooms matter in many ways.
func narrowNet(random *rand.Rand, events int64, size int) impl.EventGraph {
	g := eventGraph(events)
	delays, tokens := 1+random.Int64N(9), random.Int64N(maxTokens+1)
	for range size {
		p := place(random.Int64N(events), random.Int64N(events), random.Int64N(delays), random.Int64N(tokens+1))
		if p.From >= p.To && random.IntN(8) > 0 {
			p.Tokens = max(p.Tokens, 1)
		}
		g.Places = append(g.Places, p)
	}
	return g
}

// treeNet is a tree of places without delays, and slow places from its root to the events at its ends, so that the
// rooms of several places count on one circuit.
func treeNet(random *rand.Rand, size int) (impl.EventGraph, []int64) {
	g := eventGraph(int64(size) + 1)
	fork, end := g.Events, g.Events-1
	if random.IntN(2) == 0 {
		fork, end = 1, min(2, end)
	}
	for event := int64(1); event < g.Events; event++ {
		g.Places = append(g.Places, place(min(event-1, fork), event, 0, random.Int64N(2)*random.Int64N(3)))
	}
	list := somePlaces(random, g, size)
	delay := 1 + random.Int64N(20)
	for event := end; event < g.Events; event++ {
		g.Places = append(g.Places, place(0, event, delay+random.Int64N(2), 0))
	}
	return g, list
}

// noteTrials counts what the trials of some places are like for a ratio that some of them suffice for.
func noteTrials(random *rand.Rand, found map[string]int, trials []roomTrial) {
	var live []roomTrial
	for _, trial := range trials {
		if trial.time != nil {
			live = append(live, trial)
		}
	}
	found[fmt.Sprint("some live ", len(live) > 0, ", some dead ", len(live) < len(trials))]++
	if len(live) == 0 {
		return
	}
	r := timesOf(live)[random.IntN(len(live))]
	least, _ := leastOf(trials, r)
	same, isSmallerFirst := 0, false
	for _, trial := range trials {
		if trial.suffices(r) {
			isSmallerFirst = isSmallerFirst || trial.rooms[0] < least[0]
		}
		if trial.suffices(r) && total(trial.rooms) == total(least) {
			same++
		}
	}
	size := len(least)
	found[fmt.Sprint("places ", size, ", more than the least rooms ", total(least) > total(trials[0].rooms))]++
	found[fmt.Sprint("places ", size, ", several with the least sum ", same > 1)]++
	found[fmt.Sprint("places ", size, ", less first with a greater sum ", isSmallerFirst)]++
}

// checkFound looks whether what has been counted is varied.
func checkFound(t *testing.T, found map[string]int, wanted ...string) {
	t.Helper()
	for _, what := range wanted {
		if found[what] < 20 {
			t.Errorf("the graphs are too much alike: %q comes %d times, and %v", what, found[what], found)
		}
	}
}

func TestP16NarrowGraphsFollowTheDefinition(t *testing.T) {
	random := newRandom(173)
	found := map[string]int{}
	for range 40 {
		for size := 1; size <= maxBuffers; size++ {
			for events := int64(1); events <= 5; events++ {
				g := narrowNet(random, events, size+random.IntN(7))
				noteTrials(random, found, checkTrials(t, random, g, somePlaces(random, g, size), 8))
			}
		}
	}
	checkFound(t, found, "some live true, some dead false", "some live true, some dead true", "some live false, some dead true")
	checkFound(t, found, "places 1, more than the least rooms true", "places 2, more than the least rooms true", "places 3, more than the least rooms true")
	checkFound(t, found, "places 1, more than the least rooms false", "places 2, more than the least rooms false")
}

func TestP16TreesFollowTheDefinition(t *testing.T) {
	random := newRandom(180)
	found := map[string]int{}
	for range 250 {
		for size := 1; size <= maxBuffers; size++ {
			g, list := treeNet(random, size)
			noteTrials(random, found, checkTrials(t, random, g, list, 8))
		}
	}
	checkFound(t, found, "places 2, several with the least sum true", "places 3, several with the least sum true")
	checkFound(t, found, "places 3, several with the least sum false")
	checkFound(t, found, "places 3, less first with a greater sum true", "places 3, less first with a greater sum false")
}

func TestP16SmallGraphsFollowTheDefinition(t *testing.T) {
	random := newRandom(174)
	for n, tokens := range map[int]int{1: maxTokens, 2: 2} {
		for g := range smallGraphs(n, tokens) {
			for i := range int64(len(g.Places)) {
				checkTrials(t, random, g, []int64{i}, 6)
			}
			for size := 2; size <= min(maxBuffers, len(g.Places)); size++ {
				checkTrials(t, random, g, somePlaces(random, g, size), 2)
			}
		}
	}
}

// plainSuffice looks for a firing order and a potential, so that the graph may be a large one.
func plainSuffice(g impl.EventGraph, list, rooms []int64, r impl.Ratio) bool {
	h := plainLimited(g, list, rooms)
	_, ok := plainTimePotential(h, r)
	return ok && isLivePlain(h)
}

// plainLeastRooms tries all rooms, also of a large graph.
func plainLeastRooms(g impl.EventGraph, list []int64, r impl.Ratio) ([]int64, int64) {
	var sufficing [][]int64
	eachRooms(g, list, func(rooms []int64) {
		if plainSuffice(g, list, rooms, r) {
			sufficing = append(sufficing, rooms)
		}
	})
	return roomsResult(sufficing)
}

// placesThatFit returns some places of a graph, of which so many are left out that they can be limited.
func placesThatFit(random *rand.Rand, g impl.EventGraph) (impl.EventGraph, []int64) {
	size := 1 + random.IntN(maxBuffers)
	if len(g.Places) < size {
		return g, nil
	}
	h := eventGraph(g.Events, g.Places[:min(len(g.Places), maxPlaces-size)]...)
	return h, somePlaces(random, h, size)
}

// ratiosFor are ratios some of which some rooms of the places suffice for, and others none.
func ratiosFor(random *rand.Rand, g impl.EventGraph, list []int64) []impl.Ratio {
	ratios := []impl.Ratio{ratio(maxFinite, 1), ratio(random.Int64N(2000), 1)}
	for range 2 {
		var rooms []int64
		for _, i := range list {
			some := plainRooms(g.Places[i])
			rooms = append(rooms, some[random.IntN(len(some))])
		}
		if time, code := impl.CycleTime(plainLimited(g, list, rooms)); code == impl.ErrNone {
			near := nearTimes(time)
			ratios = append(ratios, time, near[random.IntN(len(near))])
		}
	}
	return ratios
}

func TestP16LargeGraphsFollowTheDefinition(t *testing.T) {
	random := newRandom(175)
	codes := map[int64]int{}
	for whole := range manyNets(random, 6) {
		g, list := placesThatFit(random, whole)
		if list == nil {
			continue
		}
		for _, r := range ratiosFor(random, g, list) {
			want, wantCode := plainLeastRooms(g, list, r)
			checkLeastRooms(t, g, list, r, want, wantCode)
			codes[wantCode]++
		}
	}
	checkVaried(t, codes, map[int64]int{impl.ErrNone: 200, impl.ErrNotFound: 200})
}

// checkTimesFall looks whether one more room never makes a place slower; if a room lets the graph be live,
// all greater ones do.
func checkTimesFall(t *testing.T, g impl.EventGraph, i int64) int {
	t.Helper()
	times, code := impl.RoomTimes(g, i)
	rooms := plainRooms(g.Places[i])
	if code != impl.ErrNone || len(times) != len(rooms) {
		t.Fatalf("RoomTimes of %s and %d = %v, %d", plainGraphText(g), i, times, code)
	}
	faster := 0
	var last *impl.Ratio
	for k, time := range times {
		h := plainLimited(g, []int64{i}, rooms[k:k+1])
		if !isLivePlain(h) {
			if last != nil || time != ratio(0, 1) {
				t.Errorf("RoomTimes of %s and %d = %v", plainGraphText(g), i, times)
			}
			continue
		}
		if !isGreatestTime(h, time) {
			t.Errorf("RoomTimes of %s and %d tells %v, which is not the cycle time for the room %d", plainGraphText(g), i, time, rooms[k])
		}
		if last != nil {
			compared, _ := impl.CompareRatios(time, *last)
			if compared > 0 {
				t.Errorf("RoomTimes of %s and %d = %v", plainGraphText(g), i, times)
			}
			faster -= int(compared)
		}
		last = &times[k]
	}
	return faster
}

func TestP16TimesNeverRise(t *testing.T) {
	random := newRandom(176)
	faster := 0
	for whole := range manyNets(random, 8) {
		if g, list := placesThatFit(random, whole); list != nil {
			faster += checkTimesFall(t, g, list[0])
		}
	}
	for range 300 {
		g := narrowNet(random, 2+random.Int64N(4), 1+random.IntN(8))
		faster += checkTimesFall(t, g, random.Int64N(int64(len(g.Places))))
	}
	if faster < 200 {
		t.Errorf("only %d rooms make a graph faster", faster)
	}
}

// movedRooms are rooms of which one is greater or less by some number, as far as they are rooms.
func movedRooms(g impl.EventGraph, list, rooms []int64, by int64) [][]int64 {
	var moved [][]int64
	for k := range rooms {
		other := slices.Clone(rooms)
		other[k] += by
		if arePlainRooms(g, list, other) {
			moved = append(moved, other)
		}
	}
	return moved
}

// checkPromisedRooms looks at the least rooms without knowing them: they suffice, with less in one place they
// do not, and more in one place does no harm.
func checkPromisedRooms(t *testing.T, g impl.EventGraph, list []int64, r impl.Ratio) int64 {
	t.Helper()
	rooms, code := impl.LeastRooms(g, list, r)
	if code == impl.ErrNotFound {
		var greatest []int64
		for _, i := range list {
			greatest = append(greatest, slices.Max(plainRooms(g.Places[i])))
		}
		checkSuffice(t, g, list, greatest, r, false, impl.ErrNone)
		return code
	}
	if code != impl.ErrNone || !arePlainRooms(g, list, rooms) {
		t.Fatalf("LeastRooms of %s and %v for %v = %v, %d", plainGraphText(g), list, r, rooms, code)
	}
	checkSuffice(t, g, list, rooms, r, true, impl.ErrNone)
	for _, less := range movedRooms(g, list, rooms, -1) {
		checkSuffice(t, g, list, less, r, false, impl.ErrNone)
	}
	for _, more := range movedRooms(g, list, rooms, 1) {
		checkSuffice(t, g, list, more, r, true, impl.ErrNone)
	}
	h, code := impl.LimitPlaces(g, list, rooms)
	if time, timeCode := impl.CycleTime(h); code != impl.ErrNone || timeCode != impl.ErrNone || time.Num*r.Den > r.Num*time.Den {
		t.Errorf("%s with the rooms %v of %v has the cycle time %v, which is greater than %v", plainGraphText(g), rooms, list, time, r)
	}
	return impl.ErrNone
}

func TestP16Promise(t *testing.T) {
	random := newRandom(177)
	codes := map[int64]int{}
	for whole := range manyNets(random, 10) {
		if g, list := placesThatFit(random, whole); list != nil {
			for _, r := range ratiosFor(random, g, list) {
				codes[checkPromisedRooms(t, g, list, r)]++
			}
		}
	}
	for range 400 {
		g := narrowNet(random, 1+random.Int64N(5), 3+random.IntN(6))
		list := somePlaces(random, g, 1+random.IntN(maxBuffers))
		for _, r := range ratiosFor(random, g, list) {
			codes[checkPromisedRooms(t, g, list, r)]++
		}
	}
	checkVaried(t, codes, map[int64]int{impl.ErrNone: 1000, impl.ErrNotFound: 500})
}

// checkNeverMore simulates a limited graph, and returns whether a place is full at some time.
func checkNeverMore(t *testing.T, g impl.EventGraph, list, rooms []int64) bool {
	t.Helper()
	h, code := impl.LimitPlaces(g, list, rooms)
	if code != impl.ErrNone {
		t.Fatalf("LimitPlaces of %s, %v and %v has the code %d", plainGraphText(g), list, rooms, code)
	}
	run, code := impl.SimulateGraph(h, 6)
	isFull := false
	for size := range run {
		marking := plainMarking(h, run[:size])
		for k, i := range list {
			if marking[i] > rooms[k] {
				t.Errorf("%s with the room %d has %d tokens at %d after %d firings", plainGraphText(g), rooms[k], marking[i], i, size)
			}
			isFull = isFull || marking[i] == rooms[k]
		}
	}
	for k, i := range list {
		bound, boundCode := impl.TokenBound(h, i)
		if code == impl.ErrNone && (boundCode != impl.ErrNone || bound > rooms[k]) {
			t.Errorf("%s with the room %d at %d can have %d tokens there", plainGraphText(g), rooms[k], i, bound)
		}
	}
	return isFull
}

// A place never has more tokens than its room, which is what the further place is for.
func TestP16PlacesNeverHaveMoreTokens(t *testing.T) {
	random := newRandom(178)
	full := 0
	for range 400 {
		g := narrowNet(random, 1+random.Int64N(5), 3+random.IntN(6))
		list := somePlaces(random, g, 1+random.IntN(maxBuffers))
		if rooms, code := impl.LeastRooms(g, list, ratio(1+random.Int64N(20), 1)); code == impl.ErrNone && checkNeverMore(t, g, list, rooms) {
			full++
		}
	}
	if full < 100 {
		t.Errorf("only %d graphs have a full place", full)
	}
}

// roomsCode is the code by the definition: each condition is looked at over all arguments before the next one.
func roomsCode(g impl.EventGraph, list []int64, isRatio, areRooms bool) int64 {
	switch {
	case !plainIsGraph(g) || !isRatio:
		return impl.ErrInvalid
	case !arePlainBuffers(g, list) || !areRooms:
		return impl.ErrRange
	case len(g.Places)+len(list) > maxPlaces:
		return impl.ErrLimit
	}
	return impl.ErrNone
}

func isPlainRatio(r impl.Ratio) bool {
	return isFiniteNumber(r.Num) && isWithin(r.Den, 1, maxFinite) && (r == ratio(0, 1) || r.Num != 0 && divisorOf(r.Num, r.Den) == 1)
}

// checkRoomCodes looks at the codes of all functions for arguments that may be wrong in several ways at once,
// and at what stands beside them.
func checkRoomCodes(t *testing.T, g impl.EventGraph, list, rooms []int64, r impl.Ratio) int64 {
	t.Helper()
	areRooms := plainIsGraph(g) && arePlainBuffers(g, list) && arePlainRooms(g, list, rooms)
	limitCode := roomsCode(g, list, true, areRooms)
	want := impl.EventGraph{}
	if limitCode == impl.ErrNone {
		want = plainLimited(g, list, rooms)
	}
	checkLimited(t, g, list, rooms, want, limitCode)
	code := roomsCode(g, list, isPlainRatio(r), areRooms)
	checkSuffice(t, g, list, rooms, r, code == impl.ErrNone && plainSuffice(g, list, rooms, r), code)
	var least []int64
	leastCode := roomsCode(g, list, isPlainRatio(r), true)
	if leastCode == impl.ErrNone {
		least, leastCode = plainLeastRooms(g, list, r)
	}
	checkLeastRooms(t, g, list, r, least, leastCode)
	for _, i := range list[:min(len(list), 4)] {
		checkOneCode(t, g, i, r)
	}
	return code
}

// checkOneCode looks at the functions of one place.
func checkOneCode(t *testing.T, g impl.EventGraph, i int64, r impl.Ratio) {
	t.Helper()
	list := []int64{i}
	if code := roomsCode(g, list, isPlainRatio(r), true); code != impl.ErrNone {
		checkLeastRooms(t, g, list, r, nil, code)
	}
	code := roomsCode(g, list, true, true)
	if code != impl.ErrNone {
		checkRoomTimes(t, g, i, nil, code)
	} else if times, timesCode := impl.RoomTimes(g, i); timesCode != impl.ErrNone || len(times) != len(plainRooms(g.Places[i])) {
		t.Errorf("RoomTimes of %s and %d = %v, %d", plainGraphText(g), i, times, timesCode)
	}
	// RoomsOf limits no graph, so that there may be as many places as there can be.
	if code == impl.ErrInvalid || code == impl.ErrRange {
		checkRoomsOf(t, g, i, 0, 0, code)
	} else {
		rooms := plainRooms(g.Places[i])
		checkRoomsOf(t, g, i, slices.Min(rooms), slices.Max(rooms), impl.ErrNone)
	}
}

// notBuffers are lists that are none of a graph with some places.
func notBuffers(size int64) [][]int64 {
	list := [][]int64{nil, {}, {0, 0}, {0, 1, 0}, {1, 1, 0}, {0, 1, 1}, {0, 1, 2, 3}, {0, 1, 2, 0}, zeros(300), upTo(300), {size - 1, size - 1}, {size}, {0, size}}
	for _, bad := range notUpTo(size - 1) {
		list = append(list, []int64{bad}, []int64{bad, 0}, []int64{0, bad}, []int64{0, 1, bad}, []int64{bad, bad}, []int64{0, 1, 2, bad})
	}
	return list
}

// someRoomLists are lists of which some are rooms of the places, and others are too short, too long, or none.
func someRoomLists(g impl.EventGraph, list []int64) [][]int64 {
	var least, greatest []int64
	for _, i := range list {
		rooms := []int64{1}
		if isWithin(i, 0, int64(len(g.Places))-1) && plainIsGraph(g) {
			rooms = plainRooms(g.Places[i])
		}
		least, greatest = append(least, slices.Min(rooms)), append(greatest, slices.Max(rooms))
	}
	some := [][]int64{least, greatest, nil, append(slices.Clone(least), 5), zeros(len(list)), constant(len(list), 9), constant(300, 5)}
	if len(list) > 0 {
		last := len(list) - 1
		some = append(some, least[:last], append(slices.Clone(least[:last]), greatest[last]+1), append(slices.Clone(least[:last]), least[last]-1))
	}
	return some
}

func TestP16InvalidGraphs(t *testing.T) {
	ratios := append(notRatios(), ratio(0, 1), ratio(maxFinite, 1))
	for k, bad := range notEventGraphs() {
		for _, list := range [][]int64{nil, {0}, {int64(len(bad.Places)) - 1}, {0, 1}, {0, 0}, {-1}, {300}, {0, 1, 2}, upTo(300)} {
			checkRoomCodes(t, bad, list, nil, ratios[k%len(ratios)])
			checkRoomCodes(t, bad, list, constant(len(list), 5), ratio(maxFinite, 1))
		}
	}
}

// Arguments that are wrong in several ways at once: the graph, the ratio, the places, the rooms, how many of
// them there are, and how many places the limited graph would have.
func TestP16SeveralErrors(t *testing.T) {
	codes := map[int64]int{}
	graphs := []impl.EventGraph{
		eventGraph(0, place(0, 0, 0, 0)), repeatedPlace(2, place(0, 1, 3, 1), maxPlaces+1), eventGraph(2, place(0, 1, 3, 1), place(0, 2, 3, 1)),
		eventGraph(1), eventGraph(maxEvents), eventGraph(2, place(0, 1, 3, 0)), eventGraph(2, place(0, 1, 3, 5), place(1, 0, 2, 1)),
		eventGraph(2, place(0, 1, 3, 0), place(1, 0, 3, 0), place(1, 1, 3, 4), place(0, 0, 0, 2)),
	}
	for size := maxPlaces - maxBuffers - 1; size <= maxPlaces; size++ {
		graphs = append(graphs, repeatedPlace(2, place(0, 1, 3, 1), size), repeatedPlace(maxEvents, place(9, 9, 3, 5), size))
	}
	ratios := append(notRatios(), ratio(3, 1), ratio(-1, 1), ratio(maxFinite, 1))
	for _, g := range graphs {
		size := int64(len(g.Places))
		for k, list := range append(notBuffers(size), []int64{0}, []int64{size - 1}, []int64{1, 0}, []int64{0, size - 1}, []int64{size - 1, 0, 1}) {
			for n, rooms := range someRoomLists(g, list) {
				codes[checkRoomCodes(t, g, list, rooms, ratio(3, 1))]++
				codes[checkRoomCodes(t, g, list, rooms, ratios[(k+n)%len(ratios)])]++
			}
		}
	}
	checkVaried(t, codes, map[int64]int{impl.ErrNone: 30, impl.ErrInvalid: 1000, impl.ErrRange: 1000, impl.ErrLimit: 30})
}

func TestP16InvalidRatios(t *testing.T) {
	graphs := deadGraphs(t)
	for _, text := range []string{"1 0>0:3*1", "2 0>1:5*0", "2 0>1:5*0 1>0:2*1 0>0:3*1", "10" + strings.Repeat(" 9>0:9*5", maxPlaces)} {
		graphs = append(graphs, graphOf(t, text))
	}
	for _, g := range graphs {
		for _, bad := range notRatios() {
			for _, list := range [][]int64{{0}, {0, 1}, {int64(len(g.Places))}, nil, {0, 0}} {
				checkSuffice(t, g, list, constant(len(list), 5), bad, false, impl.ErrInvalid)
				checkLeastRooms(t, g, list, bad, nil, impl.ErrInvalid)
			}
		}
	}
}

// One place more than fits is one too many, for as many places as can be limited.
func TestP16OnePlaceMoreThanFits(t *testing.T) {
	for size := 1; size <= maxBuffers; size++ {
		for count := size; count <= maxPlaces; count++ {
			g := repeatedPlace(2, place(0, 1, 3, 1), count)
			list := down(size)
			code := int64(impl.ErrNone)
			if count+size > maxPlaces {
				code = impl.ErrLimit
			}
			if got := checkRoomCodes(t, g, list, constant(size, 3), ratio(1, 1)); got != code {
				t.Errorf("%d of %d places have the code %d", size, count, got)
			}
			// Rooms that are none are told before, and those that suffice for no ratio after.
			if got := checkRoomCodes(t, g, list, constant(size, 7), ratio(1, 1)); got != impl.ErrRange {
				t.Errorf("%d of %d places have the code %d", size, count, got)
			}
			checkRoomCodes(t, g, list, constant(size, 3), ratio(-1, 1))
		}
	}
}

// ratioLists makes a list of ratios beside a code a table.
func ratioLists(list []impl.Ratio, code int64) ([][]int64, int64) {
	var rows [][]int64
	for _, r := range list {
		rows = append(rows, []int64{r.Num, r.Den})
	}
	return rows, code
}

func TestP16ResultsShareNoMemory(t *testing.T) {
	random := newRandom(179)
	for range 100 {
		g := narrowNet(random, 1+random.Int64N(5), 3+random.IntN(25))
		list := somePlaces(random, g, 1+random.IntN(maxBuffers))
		var rooms []int64
		for _, i := range list {
			rooms = append(rooms, plainRooms(g.Places[i])[0])
		}
		r := ratio(random.Int64N(20), 1)
		checkGraphCalls(t, map[string]graphCall{
			"LimitPlace":  graphResult(func(g impl.EventGraph) (impl.EventGraph, int64) { return impl.LimitPlace(g, list[0], rooms[0]) }),
			"LimitPlaces": graphResult(func(g impl.EventGraph) (impl.EventGraph, int64) { return impl.LimitPlaces(g, list, rooms) }),
			"LeastRooms":  listResult(func(g impl.EventGraph) ([]int64, int64) { return impl.LeastRooms(g, list, r) }),
			"LeastRoom":   numberResult(func(g impl.EventGraph) (int64, int64) { return impl.LeastRoom(g, list[0], r) }),
			"RoomsSuffice": answerResult(func(g impl.EventGraph) (bool, int64) {
				return impl.RoomsSuffice(g, list, rooms, r)
			}),
		}, g)
		checkRowsCalls(t, map[string]rowsCall{
			"RoomTimes": func(g impl.EventGraph) ([][]int64, int64) { return ratioLists(impl.RoomTimes(g, list[0])) },
			"RoomsOf": func(g impl.EventGraph) ([][]int64, int64) {
				low, high, code := impl.RoomsOf(g, list[0])
				return [][]int64{{low, high}}, code
			},
		}, g)
		checkRoomLists(t, g, list, rooms, r)
		checkRoomLists(t, g, []int64{300, -1, 0, 0}, constant(300, 5), r)
		checkRoomLists(t, eventGraph(0, g.Places...), list, rooms, r)
	}
}

// checkRoomLists looks whether the lists of places and of rooms, and the memory behind them, stay as they are.
func checkRoomLists(t *testing.T, g impl.EventGraph, list, rooms []int64, r impl.Ratio) {
	t.Helper()
	before := [][]int64{list, rooms}
	net, args := withSparePlaces(g), withSpare(before)
	impl.LimitPlaces(net, args[0], args[1])
	impl.RoomsSuffice(net, args[0], args[1], r)
	least, _ := impl.LeastRooms(net, args[0], r)
	for k := range least {
		least[k] = -31
	}
	if !isUnchanged(args, before) || !isUnchangedGraph(net, g) {
		t.Errorf("a call changed an argument, %v, %v or %v", g, list, rooms)
	}
}
