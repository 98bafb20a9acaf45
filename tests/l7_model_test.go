package tests

import (
	"slices"
	"testing"

	"loop.example/mailcoaches/impl"
)

// The model goes through all minutes by the clock, with the coaches that have the letter aboard, and tries all journeys one by one.

// modelMinutesOf are all minutes from a time on at which a coach arrives or leaves somewhere.
func modelMinutesOf(net [][]impl.Stop, from int) []int {
	minutes := []int{}
	for _, coach := range net {
		for _, s := range coach {
			minutes = append(minutes, s.Arrive, s.Leave)
		}
	}
	slices.Sort(minutes)
	return slices.DeleteFunc(slices.Compact(minutes), func(minute int) bool { return minute < from })
}

// modelTimes returns for each town the first minute at which the letter is there, or -1.
func modelTimes(c sentLetter) []int {
	times, ready := slices.Repeat([]int{-1}, c.n), make([]int, c.n)
	times[c.from], ready[c.from] = c.time, c.time
	aboard := map[int]bool{}
	for _, now := range modelMinutesOf(c.net, c.time) {
		for i, coach := range c.net {
			for _, s := range coach {
				if aboard[i] && s.Arrive == now && times[s.Town] == -1 {
					times[s.Town], ready[s.Town] = now, now+c.change
				}
			}
		}
		for i, coach := range c.net {
			for _, s := range coach {
				if s.Leave == now && times[s.Town] != -1 && ready[s.Town] <= now {
					aboard[i] = true
				}
			}
		}
	}
	return times
}

// modelFewest returns for each town the least number of rides that bring the letter there, or -1: each coach has it aboard with the least number of rides so far, and what comes to a town waits there for the change.
func modelFewest(c sentLetter) []int {
	type waiting struct{ town, ready, rides int }
	fewest := slices.Repeat([]int{-1}, c.n)
	fewest[c.from] = 0
	letters := []waiting{{c.from, c.time, 0}}
	aboard := map[int]int{}
	for _, now := range modelMinutesOf(c.net, c.time) {
		for i, coach := range c.net {
			for _, s := range coach {
				rides, ok := aboard[i]
				if !ok || s.Arrive != now {
					continue
				}
				letters = append(letters, waiting{s.Town, now + c.change, rides})
				if fewest[s.Town] == -1 || rides < fewest[s.Town] {
					fewest[s.Town] = rides
				}
			}
		}
		for i, coach := range c.net {
			for _, s := range coach {
				for _, l := range letters {
					known, ok := aboard[i]
					if s.Leave == now && l.town == s.Town && l.ready <= now && (!ok || l.rides+1 < known) {
						aboard[i] = l.rides + 1
					}
				}
			}
		}
	}
	return fewest
}

// modelLatest returns the latest Leave in a town with which the letter is in another one up to the time, or -1, and the time itself for the same town.
func modelLatest(c sentLetter, to int) int {
	if c.from == to {
		return c.time
	}
	latest := -1
	for _, s := range stopsOf(c.coachNet, c.from) {
		if there := modelTimes(c.atTime(s.Leave))[to]; there != -1 && there <= c.time {
			latest = max(latest, s.Leave)
		}
	}
	return latest
}

// modelMeets reports whether a letter with a table could take a coach at a stop.
func modelMeets(c sentLetter, times []int, s impl.Stop) bool {
	if s.Town == c.from {
		return c.time <= s.Leave
	}
	return times[s.Town] != -1 && times[s.Town]+c.change <= s.Leave
}

// modelWay returns the rides to a town by the table: it goes back ride by ride, with the first coach and the first stop that the rule allows.
func modelWay(c sentLetter, times []int, to int) []impl.Ride {
	rides := []impl.Ride{}
	for town := to; town != c.from; {
		all := []impl.Ride{}
		for i, coach := range c.net {
			for end, s := range coach {
				for begin := range end {
					if s.Town == town && s.Arrive == times[town] && modelMeets(c, times, coach[begin]) {
						all = append(all, impl.Ride{Coach: i, From: begin, To: end})
					}
				}
			}
		}
		ride := all[0]
		rides = append([]impl.Ride{ride}, rides...)
		town = c.net[ride.Coach][ride.From].Town
	}
	return rides
}

// modelJourney reports whether rides are a journey, and returns the town and the time at which they end.
func modelJourney(c coachNet, rides []impl.Ride, change int) (int, int, bool) {
	town, time := 0, 0
	for i, r := range rides {
		if r.Coach < 0 || r.Coach >= len(c.net) {
			return 0, 0, false
		}
		coach := c.net[r.Coach]
		if r.From < 0 || r.From >= r.To || r.To >= len(coach) {
			return 0, 0, false
		}
		if i > 0 && (coach[r.From].Town != town || coach[r.From].Leave < time+change) {
			return 0, 0, false
		}
		town, time = coach[r.To].Town, coach[r.To].Arrive
	}
	return town, time, true
}

// ridesOf are all rides with the coaches of a net.
func ridesOf(c coachNet) []impl.Ride {
	rides := []impl.Ride{}
	for i, coach := range c.net {
		for to := range coach {
			for from := range to {
				rides = append(rides, impl.Ride{Coach: i, From: from, To: to})
			}
		}
	}
	return rides
}

// journeysOf are the journeys of a net, up to a number of them, and whether these are all.
func journeysOf(c coachNet, change int, most int) ([][]impl.Ride, bool) {
	journeys, all := [][]impl.Ride{{}}, ridesOf(c)
	for i := 0; i < len(journeys); i++ {
		for _, r := range all {
			longer := append(slices.Clone(journeys[i]), r)
			if _, _, ok := modelJourney(c, longer, change); !ok {
				continue
			}
			if len(journeys) == most {
				return journeys, false
			}
			journeys = append(journeys, longer)
		}
	}
	return journeys, true
}

func TestModelOfPosts(t *testing.T) {
	number := map[bool]int{}
	eachLetter(t, func(t *testing.T, c sentLetter) {
		want := modelTimes(c)
		got, ok := tableOf(c)
		numbersDiffer(t, "PostTable", got, ok, want)
		for to, time := range want {
			if got := arriveIn(c, to); got != time {
				t.Errorf("PostArrive in %d: got %d, want %d", to, got, time)
			}
			number[time != -1]++
		}
		for _, until := range append(slices.Clone(want), -2, 0, c.time-1, c.time+1, c.time+20, impl.TimeMax, impl.TimeMax+1) {
			towns := []int{}
			for town, time := range want {
				if time != -1 && time <= until {
					towns = append(towns, town)
				}
			}
			if got := reachUntil(c, until); !slices.Equal(got, towns) {
				t.Errorf("PostReach until %d: got %v, want %v", until, got, towns)
			}
		}
	})
	if number[true] < 20000 || number[false] < 20000 {
		t.Errorf("only %d towns are reached and only %d are not", number[true], number[false])
	}
}

func TestModelOfPostWays(t *testing.T) {
	number := map[int]int{}
	eachLetter(t, func(t *testing.T, c sentLetter) {
		times := modelTimes(c)
		for to, time := range times {
			got, ok := wayTo(c, to)
			if ok != (time != -1) {
				t.Errorf("PostWay to %d gives %v and %v", to, got, ok)
			}
			want := []impl.Ride{}
			if ok {
				want = modelWay(c, times, to)
				number[len(want)]++
			}
			if !slices.Equal(got, want) {
				t.Errorf("PostWay to %d: got %v, want %v", to, got, want)
			}
		}
	})
	if number[1] < 5000 || number[2] < 1000 || number[3] < 100 || number[4] < 10 {
		t.Errorf("the numbers of ways with so many rides are %v", number)
	}
}

func TestModelOfFewestRides(t *testing.T) {
	number := map[int]int{}
	fewer := 0
	eachLetter(t, func(t *testing.T, c sentLetter) {
		for to, want := range modelFewest(c) {
			if got := fewestTo(c, to); got != want {
				t.Errorf("PostFewest to %d: got %d, want %d", to, got, want)
			}
			number[want]++
			if rides, _ := wayTo(c, to); want != -1 && want < len(rides) {
				fewer++
			}
		}
	})
	if number[1] < 5000 || number[2] < 1000 || number[3] < 100 || number[4] < 10 || fewer < 200 {
		t.Errorf("the numbers of ways with so few rides are %v, and only %d are less than the rides of PostWay", number, fewer)
	}
}

func TestModelOfLatestLeaving(t *testing.T) {
	number := map[string]int{}
	eachLetter(t, func(t *testing.T, c sentLetter) {
		for to := range c.n {
			want := modelLatest(c, to)
			if got := leaveFor(c, to); got != want {
				t.Errorf("PostLeave to %d: got %d, want %d", to, got, want)
			}
			switch {
			case c.from == to:
			case want == -1:
				number["none"]++
			case impl.PostFewest(c.n, c.net, c.from, to, want, c.change) > 1:
				number["several rides"]++
			default:
				number["one ride"]++
			}
		}
	})
	if number["none"] < 5000 || number["one ride"] < 5000 || number["several rides"] < 1000 {
		t.Errorf("the numbers of latest leavings are %v", number)
	}
}

// TestModelOfAllJourneys holds tables, latest leavings and fewest rides against all journeys of the nets that do not have too many.
func TestModelOfAllJourneys(t *testing.T) {
	nets := map[bool]int{}
	s := &numbers{state: 151}
	eachNet(t, func(t *testing.T, c coachNet) {
		for _, change := range someShort(s, changesNear(c), 3) {
			journeys, all := journeysOf(c, change, 200)
			nets[all]++
			if !all {
				continue
			}
			for from := range c.n {
				for _, time := range someOf(s, timesNear(c, from), 4) {
					checkJourneys(t, sentLetter{c, from, time, change}, journeys)
				}
			}
		}
	})
	if nets[true] < 2000 {
		t.Errorf("only %d nets have few journeys, and %d have many", nets[true], nets[false])
	}
}

// checkJourneys checks what is told of a letter by all journeys.
func checkJourneys(t *testing.T, c sentLetter, journeys [][]impl.Ride) {
	t.Helper()
	times, fewest, latest := slices.Repeat([]int{-1}, c.n), slices.Repeat([]int{-1}, c.n), slices.Repeat([]int{-1}, c.n)
	times[c.from], fewest[c.from], latest[c.from] = c.time, 0, c.time
	for _, rides := range journeys[1:] {
		first := c.net[rides[0].Coach][rides[0].From]
		to, end, _ := modelJourney(c.coachNet, rides, c.change)
		if first.Town != c.from || to == c.from {
			continue
		}
		if first.Leave >= c.time {
			if times[to] == -1 || end < times[to] {
				times[to] = end
			}
			if fewest[to] == -1 || len(rides) < fewest[to] {
				fewest[to] = len(rides)
			}
		}
		if end <= c.time {
			latest[to] = max(latest[to], first.Leave)
		}
	}
	got, ok := tableOf(c)
	numbersDiffer(t, "PostTable", got, ok, times)
	for to := range c.n {
		if got := fewestTo(c, to); got != fewest[to] {
			t.Errorf("PostFewest from %d at %d to %d, change %d: got %d, want %d", c.from, c.time, to, c.change, got, fewest[to])
		}
		if got := leaveFor(c, to); got != latest[to] {
			t.Errorf("PostLeave from %d to %d at %d, change %d: got %d, want %d", c.from, to, c.time, c.change, got, latest[to])
		}
	}
}

// checkSameJourney checks JourneyValid and JourneyEnd of some rides, and reports whether they are a journey.
func checkSameJourney(t *testing.T, c coachNet, rides []impl.Ride, change int) bool {
	t.Helper()
	town, time, valid := modelJourney(c, rides, change)
	if got := impl.JourneyValid(c.n, c.net, rides, change); got != valid {
		t.Errorf("JourneyValid of %v with the change %d: got %v, want %v", rides, change, got, valid)
	}
	gotTown, gotTime, ok := impl.JourneyEnd(c.n, c.net, rides, change)
	if ok != (valid && len(rides) > 0) || gotTown != town || gotTime != time {
		t.Errorf("JourneyEnd of %v with the change %d: got %d, %d and %v, want %d and %d", rides, change, gotTown, gotTime, ok, town, time)
	}
	return valid
}

// TestModelOfJourneys has the journeys of all nets, and those with one number changed.
func TestModelOfJourneys(t *testing.T) {
	number := map[bool]int{}
	eachJourney(t, func(t *testing.T, c coachNet, rides []impl.Ride, change int) {
		checkSameJourney(t, c, rides, change)
		for i := range rides {
			for _, other := range othersOf(rides[i]) {
				changed := slices.Clone(rides)
				changed[i] = other
				number[checkSameJourney(t, c, changed, change)]++
			}
		}
	})
	if number[true] < 10000 || number[false] < 10000 {
		t.Errorf("only %d changed lists are journeys and only %d are none", number[true], number[false])
	}
}

// othersOf are rides that differ from a ride in one number, or go the other way.
func othersOf(r impl.Ride) []impl.Ride {
	others := []impl.Ride{{Coach: r.Coach, From: r.To, To: r.From}}
	for _, k := range []int{-1, 1} {
		others = append(others, impl.Ride{Coach: r.Coach + k, From: r.From, To: r.To}, impl.Ride{Coach: r.Coach, From: r.From + k, To: r.To}, impl.Ride{Coach: r.Coach, From: r.From, To: r.To + k})
	}
	return others
}

// TestModelOfTwoRides has all lists of up to two rides, also of such that are not there, of a few nets.
func TestModelOfTwoRides(t *testing.T) {
	number := map[bool]int{}
	for _, c := range []coachNet{returnNet(), throughNet(), ringNet(), {"one coach", 3, [][]impl.Stop{plainStops()}}, {"no coach", 2, nil}} {
		rides := []impl.Ride{}
		for code := range (len(c.net) + 2) * 5 * 5 {
			rides = append(rides, impl.Ride{Coach: code/25 - 1, From: code/5%5 - 1, To: code%5 - 1})
		}
		for _, change := range []int{0, 1, 5, 10, 11, 300} {
			for _, a := range rides {
				number[checkSameJourney(t, c, []impl.Ride{a}, change)]++
				if _, _, ok := modelJourney(c, []impl.Ride{a}, change); !ok && a.To < 3 {
					continue
				}
				for _, b := range rides {
					number[checkSameJourney(t, c, []impl.Ride{a, b}, change)]++
				}
			}
		}
	}
	if number[true] < 200 || number[false] < 20000 {
		t.Errorf("only %d lists are journeys and only %d are none", number[true], number[false])
	}
}

func TestModelOfNetsThatGoBack(t *testing.T) {
	number := map[bool]int{}
	eachNet(t, func(t *testing.T, c coachNet) {
		for _, turn := range turnsOfNet(c) {
			want, fits := [][]impl.Stop{}, true
			for _, stops := range c.net {
				back, ok := modelBack(stops, turn)
				want, fits = append(want, back), fits && ok
			}
			if !fits {
				want = nil
			}
			if got, ok := impl.PostBack(c.n, c.net, turn); ok != fits || !netsEqual(got, want) {
				t.Errorf("PostBack with %d: got %v and %v, want %v", turn, got, ok, want)
			}
			number[fits]++
		}
	})
	if number[true] < 5000 || number[false] < 2000 {
		t.Errorf("only %d nets can go back and only %d can not", number[true], number[false])
	}
}

// turnsOfNet are turns with which all, some or none of the coaches of a net can go back.
func turnsOfNet(c coachNet) []int {
	turns := []int{-1, 0, 1, 100, 2881, impl.TimeMax - 1, impl.TimeMax, impl.TimeMax + 1}
	for _, coach := range c.net {
		first, last := coach[0].Arrive, coach[len(coach)-1].Leave
		turns = append(turns, last-1, last, last+1, first+impl.TimeMax, first+impl.TimeMax+1)
	}
	slices.Sort(turns)
	return slices.Compact(turns)
}

func TestModelOfAddedCoaches(t *testing.T) {
	number := map[bool]int{}
	eachNet(t, func(t *testing.T, c coachNet) {
		for _, more := range moreCoaches(c) {
			fits := len(c.net) < impl.CoachesMax
			want := append(cloneNet(c.net), more)
			if !fits {
				want = nil
			}
			if got, ok := impl.PostAdd(c.n, c.net, more); ok != fits || !netsEqual(got, want) {
				t.Errorf("PostAdd of %v: got %v and %v", more, got, ok)
			}
			number[fits]++
		}
	})
	if number[true] < 5000 || number[false] < 200 {
		t.Errorf("only %d coaches are added and only %d are too many", number[true], number[false])
	}
}
