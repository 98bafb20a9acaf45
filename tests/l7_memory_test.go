package tests

import (
	"slices"
	"testing"

	"loop.example/mailcoaches/impl"
)

// markStop and markRide are written into results and behind arguments.
var (
	markStop = impl.Stop{Town: -7, Arrive: -7, Leave: -7}
	markRide = impl.Ride{Coach: -7, From: -7, To: -7}
)

// overwriteNet writes into all memory of a net: that of all its timetables, and then that of the list.
func overwriteNet(net [][]impl.Stop) {
	for _, stops := range net[:cap(net)] {
		overwrite(stops, markStop)
	}
	overwrite(net, []impl.Stop{markStop})
}

// roomyNet returns a net with room behind the list and behind each timetable, and a function that reports whether all of its memory is as it was.
func roomyNet(net [][]impl.Stop) ([][]impl.Stop, func() bool) {
	lists, memories, before := [][]impl.Stop{}, [][]impl.Stop{}, [][]impl.Stop{}
	for _, stops := range net {
		list, memory := roomy(stops, markStop)
		lists, memories, before = append(lists, list), append(memories, memory), append(before, slices.Clone(memory))
	}
	room := plainStops()
	list, whole := roomy(lists, room)
	same := func() bool {
		for i, stops := range whole {
			want := room
			if i < len(lists) {
				want = lists[i]
			}
			if len(stops) != len(want) || len(stops) > 0 && &stops[0] != &want[0] {
				return false
			}
		}
		return netsEqual(memories, before) && slices.Equal(room, plainStops())
	}
	return list, same
}

// callAllPosts calls all functions of the chapter with a letter, rides and another timetable, overwrites all results, and calls a check after each.
func callAllPosts(c sentLetter, rides []impl.Ride, stops []impl.Stop, check func(name string)) {
	impl.NetValid(c.n, c.net)
	check("NetValid")
	impl.JourneyValid(c.n, c.net, rides, c.change)
	check("JourneyValid")
	impl.JourneyEnd(c.n, c.net, rides, c.change)
	check("JourneyEnd")
	times, _ := tableOf(c)
	overwrite(times, -7)
	check("PostTable")
	overwrite(reachUntil(c, c.time+50), -7)
	check("PostReach")
	for to := range 4 {
		arriveIn(c, to)
		check("PostArrive")
		way, _ := wayTo(c, to)
		overwrite(way, markRide)
		check("PostWay")
		leaveFor(c, to)
		check("PostLeave")
		fewestTo(c, to)
		check("PostFewest")
	}
	for _, turn := range []int{200, impl.TimeMax} {
		back, _ := impl.PostBack(c.n, c.net, turn)
		overwriteNet(back)
		check("PostBack")
	}
	longer, _ := impl.PostAdd(c.n, c.net, stops)
	overwriteNet(longer)
	check("PostAdd")
}

// TestArgumentsOfPosts checks that no argument is written into, and that no result shares memory with an argument: neither with the list nor with any timetable in it.
func TestArgumentsOfPosts(t *testing.T) {
	rideLists := [][]impl.Ride{nil, byRides(0, 0, 1), byRides(0, 0, 2, 3, 0, 1), byRides(0, 0, 1, 2, 0, 1), byRides(7, -1, 9)}
	stopLists := [][]impl.Stop{plainStops(), byCoach(0, 0, 0, 1, 1, 1), nil, byCoach(0, 0, 0)}
	for i, c := range slices.Concat(namedNets(), mixedNets(100), noNets()) {
		net, netSame := roomyNet(c.net)
		for k, from := range []int{0, 1, 2} {
			rides, ridesMemory := roomy(rideLists[(i+k)%len(rideLists)], markRide)
			stops, stopsMemory := roomy(stopLists[(i+k)%len(stopLists)], markStop)
			ridesBefore, stopsBefore := slices.Clone(ridesMemory), slices.Clone(stopsMemory)
			l := sentLetter{coachNet{c.name, c.n, net}, from, 5, 2}
			callAllPosts(l, rides, stops, func(name string) {
				if !netSame() || !slices.Equal(ridesMemory, ridesBefore) || !slices.Equal(stopsMemory, stopsBefore) {
					t.Fatalf("%s: after %s the net is %v, the rides are %v and the stops %v", c.name, name, net, ridesMemory, stopsMemory)
				}
			})
		}
	}
}

// checkApart checks that the timetables of a net share no memory with each other, also not behind their ends.
func checkApart(t *testing.T, name string, net [][]impl.Stop) {
	t.Helper()
	for i := range net {
		before := cloneNet(net)
		// Appending writes into the room behind a timetable, if there is any.
		_ = append(net[i], markStop, markStop)
		overwrite(net[i], markStop)
		for k := range net {
			if k != i && !slices.Equal(net[k], before[k]) {
				t.Errorf("%s: writing into the timetable %d changes the timetable %d", name, i, k)
			}
		}
	}
}

// TestResultsOfPostsShareNothing checks that the timetables of one result are apart.
func TestResultsOfPostsShareNothing(t *testing.T) {
	eachNet(t, func(t *testing.T, c coachNet) {
		if back, ok := impl.PostBack(c.n, c.net, impl.TimeMax); ok {
			checkApart(t, "PostBack", back)
		}
		if c.n < 2 {
			return
		}
		if longer, ok := impl.PostAdd(c.n, c.net, byCoach(0, 5, 5, 1, 6, 6)); ok {
			checkApart(t, "PostAdd", longer)
		}
	})
}

// TestResultsOfPosts checks that nothing is kept from call to call.
func TestResultsOfPosts(t *testing.T) {
	s := &numbers{state: 163}
	eachNet(t, func(t *testing.T, c coachNet) {
		for _, l := range lettersOf(s, c, 3, 3)[:1] {
			checkAgain(t, "PostTable", -7, func() ([]int, bool) { return tableOf(l) })
			checkAgain(t, "PostReach", -7, func() ([]int, bool) { return reachUntil(l, l.time+40), true })
			for to := range c.n {
				if arriveIn(l, to) != -1 {
					checkAgain(t, "PostWay", markRide, func() ([]impl.Ride, bool) { return wayTo(l, to) })
				}
			}
		}
		back, _ := impl.PostBack(c.n, c.net, impl.TimeMax)
		before := cloneNet(back)
		overwriteNet(back)
		if again, ok := impl.PostBack(c.n, c.net, impl.TimeMax); !ok || !netsEqual(again, before) {
			t.Errorf("PostBack is %v, and then %v and %v", before, again, ok)
		}
	})
}

// TestPostsBesideOther checks that what is told of a letter does not depend on another one that was asked about in between.
func TestPostsBesideOther(t *testing.T) {
	s := &numbers{state: 167}
	letters := []sentLetter{}
	for _, c := range slices.Concat(namedNets(), mixedNets(40)) {
		letters = append(letters, lettersOf(s, c, 3, 3)...)
	}
	for i, c := range letters {
		before, _ := tableOf(c)
		fewest := fewestTo(c, 0)
		other := letters[(i*7+3)%len(letters)]
		tableOf(other)
		fewestTo(other, 0)
		after, ok := tableOf(c)
		numbersDiffer(t, c.name+" behind "+other.name, after, ok, before)
		if again := fewestTo(c, 0); again != fewest {
			t.Errorf("%s behind %s: PostFewest is %d, but was %d", c.name, other.name, again, fewest)
		}
	}
}
