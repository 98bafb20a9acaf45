package tests

import (
	"fmt"
	"slices"
	"testing"

	"loop.example/mailcoaches/impl"
)

// coachNet is a number of towns with a net, and the name by which a failure is told.
type coachNet struct {
	name string
	n    int
	net  [][]impl.Stop
}

// sentLetter is a letter that is in a town of a net at a time, with the change that it needs between two rides.
type sentLetter struct {
	coachNet
	from   int
	time   int
	change int
}

// byCoach is a timetable out of the Town, Arrive and Leave of each stop.
func byCoach(numbers ...int) []impl.Stop {
	stops := []impl.Stop{}
	for stop := range slices.Chunk(numbers, 3) {
		stops = append(stops, impl.Stop{Town: stop[0], Arrive: stop[1], Leave: stop[2]})
	}
	return stops
}

// byRides is a journey out of the Coach, From and To of each ride.
func byRides(numbers ...int) []impl.Ride {
	rides := []impl.Ride{}
	for ride := range slices.Chunk(numbers, 3) {
		rides = append(rides, impl.Ride{Coach: ride[0], From: ride[1], To: ride[2]})
	}
	return rides
}

// plainNet is an ordinary net of 5 towns: from the town 0 to the town 3 a letter needs two coaches, which it takes in the town 2 or, with a longer change, in the town 1; no coach stops in the town 4.
func plainNet() coachNet {
	return coachNet{"plain", 5, [][]impl.Stop{
		byCoach(0, 100, 110, 1, 130, 135, 2, 160, 165),
		byCoach(2, 120, 125, 1, 134, 140, 0, 170, 180),
		byCoach(1, 150, 155, 3, 190, 195),
		byCoach(2, 168, 169, 3, 185, 185),
	}}
}

// returnNet brings a letter from the town 0 back to it, and on from there with a coach that it can also take without going away.
func returnNet() coachNet {
	return coachNet{"back to the first town", 3, [][]impl.Stop{
		byCoach(0, 0, 10, 1, 20, 25),
		byCoach(1, 22, 30, 0, 40, 45),
		byCoach(0, 30, 50, 2, 60, 60),
	}}
}

// throughNet has a coach through the town 0 that a letter of this town can take there, but can meet earlier in the town 1, too.
func throughNet() coachNet {
	return coachNet{"through the first town", 3, [][]impl.Stop{
		byCoach(0, 0, 10, 1, 15, 15),
		byCoach(1, 17, 18, 0, 20, 25, 2, 30, 30),
	}}
}

// togetherNet has several coaches that arrive in the towns 2 and 3 at the same time.
func togetherNet() coachNet {
	return coachNet{"arrive together", 4, [][]impl.Stop{
		byCoach(3, 0, 5, 2, 40, 41),
		byCoach(1, 10, 20, 2, 40, 60, 3, 70, 70),
		byCoach(0, 0, 15, 2, 40, 50, 3, 70, 75),
		byCoach(0, 0, 5, 1, 10, 12, 2, 40, 40),
		byCoach(2, 42, 44, 3, 70, 71),
		byCoach(0, 0, 16, 2, 39, 40, 1, 80, 80),
	}}
}

// laterStopsNet has a coach that a letter of the town 0 can meet at several of its stops, by one coach each.
func laterStopsNet() coachNet {
	return coachNet{"several stops ahead", 6, [][]impl.Stop{
		byCoach(1, 15, 16, 2, 25, 26, 3, 35, 36, 4, 45, 46),
		byCoach(0, 0, 5, 1, 20, 20),
		byCoach(0, 0, 5, 2, 22, 22),
		byCoach(0, 0, 5, 3, 34, 34),
		byCoach(4, 50, 50, 5, 60, 60),
		byCoach(3, 36, 40, 4, 44, 48, 5, 60, 61),
	}}
}

// fewestNet brings a letter from the town 0 to the town 4 with four rides, and with three, two or one later.
func fewestNet() coachNet {
	return coachNet{"fewer rides are later", 5, [][]impl.Stop{
		byCoach(0, 0, 0, 1, 10, 10),
		byCoach(1, 11, 12, 2, 20, 20),
		byCoach(2, 22, 22, 3, 30, 30, 4, 60, 60),
		byCoach(3, 33, 33, 4, 40, 40),
		byCoach(1, 15, 16, 4, 70, 70),
		byCoach(0, 5, 5, 4, 80, 80),
	}}
}

// ringNet has coaches that go round the towns 0, 1 and 2, and one that leaves each town as it arrives.
func ringNet() coachNet {
	return coachNet{"round and round", 3, [][]impl.Stop{
		byCoach(0, 0, 0, 1, 10, 10, 2, 20, 20),
		byCoach(2, 20, 20, 0, 30, 30, 1, 40, 40),
		byCoach(1, 40, 40, 2, 50, 50, 0, 60, 60),
		byCoach(0, 60, 60, 1, 70, 70, 2, 80, 80),
		byCoach(2, 81, 81, 0, 90, 90),
		byCoach(0, 95, 95, 2, 100, 100),
	}}
}

// ladderNet has one coach from each town to the next one, with 4 minutes between the first two, 3 between the next ones and so on.
func ladderNet(first int) coachNet {
	c := coachNet{fmt.Sprintf("ladder from %d on", first), 7, nil}
	for town := range 6 {
		leave := first + 10*town + town*(9-town)/2
		c.net = append(c.net, byCoach(town, first, leave, town+1, leave+10, leave+10))
	}
	return c
}

// farApartNet has changes of DelayMax minutes, of one less and of one more.
func farApartNet() coachNet {
	return coachNet{"far apart", 5, [][]impl.Stop{
		byCoach(0, 0, 100, 1, 200, 200),
		byCoach(1, 300, 499, 2, 600, 600),
		byCoach(1, 300, 500, 3, 600, 600),
		byCoach(1, 300, 501, 4, 600, 600),
		byCoach(4, 900, 900, 0, 1000, 1000),
		byCoach(0, 1300, 1300, 2, 1400, 1400),
	}}
}

// shuttleNet has CoachesMax coaches that go through all towns by turns there and back, so that there are far too many journeys to try each of them.
func shuttleNet() coachNet {
	c := coachNet{"there and back", 8, nil}
	for i := range 6 {
		stops, turn := minuteStops(10*i), 20*i+7
		if i%2 == 1 {
			stops, _ = impl.StopsBack(8, stops, turn)
		}
		c.net = append(c.net, stops)
	}
	return c
}

// namedNets are the nets with the edge cases of the chapter.
func namedNets() []coachNet {
	six := [][]impl.Stop{minuteStops(0), minuteStops(1), minuteStops(5), minuteStops(9), minuteStops(20), minuteStops(21)}
	return []coachNet{
		{"one town, no coach", 1, nil},
		{"three towns, no coach", 3, [][]impl.Stop{}},
		{"eight towns, no coach", 8, nil},
		{"one coach", 3, [][]impl.Stop{plainStops()}},
		{"one coach, with towns in which it does not stop", 8, [][]impl.Stop{plainStops()}},
		{"one coach of all towns", 8, [][]impl.Stop{fullStops()}},
		{"one coach from the first to the last time", 2, [][]impl.Stop{byCoach(0, 0, 0, 1, impl.TimeMax, impl.TimeMax)}},
		{"two coaches from the first to the last time", 3, [][]impl.Stop{byCoach(0, 0, 0, 1, 5000, 5000), byCoach(1, 5000, 5300, 2, impl.TimeMax, impl.TimeMax)}},
		{"over midnight", 4, [][]impl.Stop{nightStops(), byCoach(0, 1430, 1445, 3, 1500, 1500)}},
		{"a coach three times", 3, [][]impl.Stop{plainStops(), plainStops(), plainStops()}},
		{"CoachesMax coaches with StopsMax stops", 8, six},
		{"a coach CoachesMax times", 8, slices.Repeat([][]impl.Stop{minuteStops(impl.TimeMax - 7)}, 6)},
		plainNet(), returnNet(), throughNet(), togetherNet(), laterStopsNet(), fewestNet(), ringNet(), ladderNet(0), ladderNet(impl.TimeMax - 70), farApartNet(), shuttleNet(),
	}
}

// crowdedStops returns a timetable of n towns out of a fixed sequence, within few minutes from a time on.
func crowdedStops(s *numbers, n int, first int) []impl.Stop {
	towns := ascending(n)
	for i := n - 1; i > 0; i-- {
		k := s.below(i + 1)
		towns[i], towns[k] = towns[k], towns[i]
	}
	stops, time := []impl.Stop{}, first+s.below(25)
	for _, town := range towns[:2+s.below(min(n-1, 4))] {
		arrive := time + s.below(9)
		leave := arrive + max(0, s.below(9)-3)
		stops = append(stops, impl.Stop{Town: town, Arrive: arrive, Leave: leave})
		time = leave + 1
	}
	return stops
}

// mixedNets are nets out of a fixed sequence, crowded into so few minutes that the coaches meet.
func mixedNets(number int) []coachNet {
	s := &numbers{state: 131}
	nets := []coachNet{}
	for i := range number {
		n := 2 + s.below(1+s.below(7))
		c := coachNet{fmt.Sprintf("mixed %d", i), n, nil}
		first := []int{0, 0, 0, 1410, impl.TimeMax - 100}[s.below(5)]
		for range 1 + s.below(6) {
			c.net = append(c.net, crowdedStops(s, n, first))
		}
		nets = append(nets, c)
	}
	return nets
}

// smallNets are pairs of short timetables of 3 towns, of which the second one runs some minutes later.
func smallNets() []coachNet {
	nets := []coachNet{}
	tables := allSmallTables(0)
	for i, a := range tables {
		for k, b := range tables {
			if (i*len(tables)+k)%197 > 0 {
				continue
			}
			later, _ := impl.StopsLater(3, b.stops, k%6)
			nets = append(nets, coachNet{fmt.Sprintf("small %d and %d", i, k), 3, [][]impl.Stop{a.stops, later}})
		}
	}
	return nets
}

// allNets are all nets on which the tests are done.
func allNets() []coachNet {
	return slices.Concat(namedNets(), mixedNets(600), smallNets())
}

// eachNet does a test with all nets.
func eachNet(t *testing.T, test func(t *testing.T, c coachNet)) {
	t.Helper()
	for _, c := range allNets() {
		test(t, c)
		if t.Failed() {
			t.Fatalf("net %q: %d towns, coaches %v", c.name, c.n, c.net)
		}
	}
}

// stopsOf are all stops of a net in a town.
func stopsOf(c coachNet, town int) []impl.Stop {
	stops := []impl.Stop{}
	for _, coach := range c.net {
		for _, s := range coach {
			if s.Town == town {
				stops = append(stops, s)
			}
		}
	}
	return stops
}

// timesNear are the times about at which a coach arrives or leaves in a town, and the first and the last one, ascending.
func timesNear(c coachNet, town int) []int {
	times := []int{0, impl.TimeMax}
	for _, s := range stopsOf(c, town) {
		for _, time := range []int{s.Arrive, s.Leave - 1, s.Leave, s.Leave + 1} {
			if 0 <= time && time <= impl.TimeMax {
				times = append(times, time)
			}
		}
	}
	slices.Sort(times)
	return slices.Compact(times)
}

// changesNear are the changes that are about as long as some change of the net takes, and the least and the greatest one, ascending.
func changesNear(c coachNet) []int {
	changes := []int{0, impl.DelayMax}
	for town := range c.n {
		for _, a := range stopsOf(c, town) {
			for _, b := range stopsOf(c, town) {
				for _, change := range []int{b.Leave - a.Arrive, b.Leave - a.Arrive + 1} {
					if 0 <= change && change <= impl.DelayMax {
						changes = append(changes, change)
					}
				}
			}
		}
	}
	slices.Sort(changes)
	return slices.Compact(changes)
}

// someOf are a few numbers of a list, or all if there are not more.
func someOf(s *numbers, list []int, most int) []int {
	if len(list) <= most {
		return list
	}
	some := []int{}
	for range most {
		some = append(some, list[s.below(len(list))])
	}
	return some
}

// someShort are a few numbers of an ascending list, most of them small ones, as more journeys can be made with short changes; or all if there are not more.
func someShort(s *numbers, list []int, most int) []int {
	if len(list) <= most {
		return list
	}
	some := []int{}
	for range most {
		some = append(some, list[s.below(1+s.below(len(list)))])
	}
	return some
}

// lettersOf are letters in each town of a net, with up to so many times and changes of those that make a difference.
func lettersOf(s *numbers, c coachNet, times int, changes int) []sentLetter {
	letters := []sentLetter{}
	for from := range c.n {
		for _, time := range someOf(s, timesNear(c, from), times) {
			for _, change := range someShort(s, changesNear(c), changes) {
				letters = append(letters, sentLetter{c, from, time, change})
			}
		}
	}
	return letters
}

// allLetters are all letters on which the tests are done.
func allLetters() []sentLetter {
	s := &numbers{state: 137}
	letters := []sentLetter{}
	for _, c := range namedNets() {
		letters = append(letters, lettersOf(s, c, 16, 10)...)
	}
	for _, c := range slices.Concat(mixedNets(600), smallNets()) {
		letters = append(letters, lettersOf(s, c, 3, 3)...)
	}
	return letters
}

// eachLetter does a test with all letters.
func eachLetter(t *testing.T, test func(t *testing.T, c sentLetter)) {
	t.Helper()
	for _, c := range allLetters() {
		test(t, c)
		if t.Failed() {
			t.Fatalf("net %q: %d towns, coaches %v, from %d at %d, change %d", c.name, c.n, c.net, c.from, c.time, c.change)
		}
	}
}

// eachJourney does a test with journeys of all nets, with changes about as long as there is time.
func eachJourney(t *testing.T, test func(t *testing.T, c coachNet, rides []impl.Ride, change int)) {
	t.Helper()
	s := &numbers{state: 139}
	eachNet(t, func(t *testing.T, c coachNet) {
		for _, change := range someShort(s, changesNear(c), 4) {
			journeys, _ := journeysOf(c, change, 60)
			for _, rides := range journeys {
				test(t, c, rides, change)
				if t.Failed() {
					t.Fatalf("rides %v, change %d", rides, change)
				}
			}
		}
	})
}

// tableOf is PostTable of a letter.
func tableOf(c sentLetter) ([]int, bool) {
	return impl.PostTable(c.n, c.net, c.from, c.time, c.change)
}

// arriveIn is PostArrive of a letter in a town.
func arriveIn(c sentLetter, to int) int {
	return impl.PostArrive(c.n, c.net, c.from, to, c.time, c.change)
}

// reachUntil is PostReach of a letter up to a time.
func reachUntil(c sentLetter, until int) []int {
	return impl.PostReach(c.n, c.net, c.from, c.time, c.change, until)
}

// wayTo is PostWay of a letter to a town.
func wayTo(c sentLetter, to int) ([]impl.Ride, bool) {
	return impl.PostWay(c.n, c.net, c.from, to, c.time, c.change)
}

// leaveFor is PostLeave of a letter that is to be in a town up to the time.
func leaveFor(c sentLetter, to int) int {
	return impl.PostLeave(c.n, c.net, c.from, to, c.time, c.change)
}

// fewestTo is PostFewest of a letter to a town.
func fewestTo(c sentLetter, to int) int {
	return impl.PostFewest(c.n, c.net, c.from, to, c.time, c.change)
}

// atTime is a letter at another time.
func (c sentLetter) atTime(time int) sentLetter {
	c.time = time
	return c
}

// withChange is a letter that needs another change.
func (c sentLetter) withChange(change int) sentLetter {
	c.change = change
	return c
}

// inTown is a letter in another town.
func (c sentLetter) inTown(from int) sentLetter {
	c.from = from
	return c
}

// inNet is a letter in another net.
func (c sentLetter) inNet(net [][]impl.Stop) sentLetter {
	c.net = net
	return c
}

// netsEqual reports whether two nets have the same timetables.
func netsEqual(a [][]impl.Stop, b [][]impl.Stop) bool {
	return slices.EqualFunc(a, b, slices.Equal[[]impl.Stop])
}

// cloneNet returns a net that shares no memory with another one.
func cloneNet(net [][]impl.Stop) [][]impl.Stop {
	clone := [][]impl.Stop{}
	for _, stops := range net {
		clone = append(clone, slices.Clone(stops))
	}
	return clone
}

// moreCoaches are timetables of n towns that are put behind the coaches of a net.
func moreCoaches(c coachNet) [][]impl.Stop {
	if c.n < 2 {
		return nil
	}
	s := &numbers{state: uint64(149 + c.n)}
	coaches := [][]impl.Stop{byCoach(0, 0, 0, c.n-1, 1, 1), byCoach(c.n-1, 30, 40, 0, 50, 60)}
	for range 4 {
		coaches = append(coaches, crowdedStops(s, c.n, 0))
	}
	return append(coaches, crowdedStops(s, c.n, 1410), crowdedStops(s, c.n, impl.TimeMax-100))
}

// noNets are lists that are no nets, or numbers of towns of which there are no nets.
func noNets() []coachNet {
	nets := []coachNet{}
	for _, n := range append(farNumbers(), -2, -1, 0, 9, 10, 100) {
		nets = append(nets, coachNet{"no number of towns", n, nil}, coachNet{"no number of towns, one coach", n, [][]impl.Stop{plainStops()}})
	}
	for _, c := range noTables() {
		nets = append(nets,
			coachNet{c.name + " alone", c.n, [][]impl.Stop{c.stops}},
			coachNet{c.name + " first", c.n, [][]impl.Stop{c.stops, plainStops()}},
			coachNet{c.name + " last", c.n, [][]impl.Stop{plainStops(), plainStops(), plainStops(), plainStops(), plainStops(), c.stops}},
			coachNet{c.name + " between", c.n, [][]impl.Stop{plainStops(), c.stops, plainStops()}},
		)
	}
	return append(nets,
		coachNet{"one coach more than CoachesMax", 3, slices.Repeat([][]impl.Stop{plainStops()}, 7)},
		coachNet{"far too many coaches", 3, slices.Repeat([][]impl.Stop{plainStops()}, 1000)},
		coachNet{"too many empty lists", 3, make([][]impl.Stop, 7)},
		coachNet{"an empty list", 3, make([][]impl.Stop, 1)},
	)
}

// noTimesOfPosts are numbers that are no times.
func noTimesOfPosts() []int {
	return append(farNumbers(), -300, -2, -1, impl.TimeMax+1, impl.TimeMax+2, 2*impl.TimeMax)
}

// townsOutOf are numbers that are none of n towns.
func townsOutOf(n int) []int {
	return append(farNumbers(), -8, -2, -1, n, n+1, 9, 100)
}
