package tests

import (
	"fmt"
	"slices"
	"testing"

	"loop.example/mailcoaches/impl"
)

func TestConstantsOfPosts(t *testing.T) {
	if impl.CoachesMax != 6 {
		t.Errorf("CoachesMax is %d", impl.CoachesMax)
	}
}

func TestNumberOfCoaches(t *testing.T) {
	for number := range 9 {
		net := slices.Repeat([][]impl.Stop{plainStops()}, number)
		if got := impl.NetValid(3, net); got != (number <= 6) {
			t.Errorf("NetValid of %d coaches is %v", number, got)
		}
		if got := impl.JourneyValid(3, net, nil, 0); got != (number <= 6) {
			t.Errorf("JourneyValid without rides of %d coaches is %v", number, got)
		}
		if _, ok := impl.PostTable(3, net, 0, 0, 0); ok != (number <= 6) {
			t.Errorf("PostTable of %d coaches gives %v", number, ok)
		}
		if _, ok := impl.PostAdd(3, net, plainStops()); ok != (number <= 5) {
			t.Errorf("PostAdd to %d coaches gives %v", number, ok)
		}
	}
}

// TestNumberOfTownsOfNets has nets with and without coaches, of which there can be only as many towns as timetables can have.
func TestNumberOfTownsOfNets(t *testing.T) {
	for n := -2; n <= 11; n++ {
		for _, net := range [][][]impl.Stop{nil, {}} {
			if got := impl.NetValid(n, net); got != (1 <= n && n <= 8) {
				t.Errorf("NetValid of %d towns without coaches is %v", n, got)
			}
		}
		if got := impl.NetValid(n, [][]impl.Stop{plainStops()}); got != (3 <= n && n <= 8) {
			t.Errorf("NetValid of %d towns is %v", n, got)
		}
		if got := impl.NetValid(n, [][]impl.Stop{plainStops(), fullStops()}); got != (n == 8) {
			t.Errorf("NetValid of %d towns with a coach of all towns is %v", n, got)
		}
	}
}

func TestNetsWithoutCoaches(t *testing.T) {
	for n := 1; n <= 8; n++ {
		for _, time := range []int{0, 1, 5000, impl.TimeMax} {
			for _, change := range []int{0, 300} {
				for from := range n {
					c := sentLetter{coachNet{"no coach", n, nil}, from, time, change}
					want := slices.Repeat([]int{-1}, n)
					want[from] = time
					got, ok := tableOf(c)
					numbersDiffer(t, "PostTable", got, ok, want)
					for to := range n {
						if to == from {
							checkTo(t, c, to, time, 0, nil)
							continue
						}
						checkNoWay(t, c, to)
						if got := leaveFor(c, to); got != -1 {
							t.Errorf("PostLeave is %d", got)
						}
					}
				}
			}
		}
		for _, turn := range append(farNumbers(), -1, 0, 1, impl.TimeMax, impl.TimeMax+1) {
			if back, ok := impl.PostBack(n, nil, turn); !ok || len(back) > 0 {
				t.Errorf("PostBack of %d towns without coaches with %d gives %v and %v", n, turn, back, ok)
			}
		}
	}
	if town, time, ok := impl.JourneyEnd(3, nil, nil, 0); ok || town != 0 || time != 0 {
		t.Errorf("JourneyEnd without coaches gives %d, %d and %v", town, time, ok)
	}
	if !impl.JourneyValid(3, nil, nil, 0) || !impl.JourneyValid(3, nil, nil, 300) || impl.JourneyValid(3, nil, byRides(0, 0, 1), 0) {
		t.Errorf("JourneyValid without coaches is wrong")
	}
}

// knownPost is a letter and a town with what is told of them.
type knownPost struct {
	c      sentLetter
	to     int
	arrive int
	fewest int
	rides  []impl.Ride
}

// knownPlain are letters of the plain net.
func knownPlain() []knownPost {
	c := plainNet()
	return []knownPost{
		{sentLetter{c, 0, 105, 0}, 1, 130, 1, byRides(0, 0, 1)},
		{sentLetter{c, 0, 105, 0}, 2, 160, 1, byRides(0, 0, 2)},
		{sentLetter{c, 0, 105, 0}, 3, 185, 2, byRides(0, 0, 2, 3, 0, 1)},
		{sentLetter{c, 0, 0, 9}, 3, 185, 2, byRides(0, 0, 2, 3, 0, 1)},
		{sentLetter{c, 0, 110, 10}, 3, 190, 2, byRides(0, 0, 1, 2, 0, 1)},
		{sentLetter{c, 0, 110, 25}, 3, 190, 2, byRides(0, 0, 1, 2, 0, 1)},
		{sentLetter{c, 0, 110, 26}, 3, -1, -1, nil},
		{sentLetter{c, 0, 111, 0}, 3, -1, -1, nil},
		{sentLetter{c, 0, 0, 0}, 4, -1, -1, nil},
		{sentLetter{c, 4, 0, 0}, 0, -1, -1, nil},
		{sentLetter{c, 4, 0, 0}, 4, 0, 0, nil},
		{sentLetter{c, 4, impl.TimeMax, 300}, 4, impl.TimeMax, 0, nil},
		{sentLetter{c, 3, 0, 0}, 0, -1, -1, nil},
		{sentLetter{c, 3, 185, 0}, 3, 185, 0, nil},
		{sentLetter{c, 2, 120, 300}, 3, 185, 1, byRides(3, 0, 1)},
		{sentLetter{c, 2, 125, 300}, 0, 170, 1, byRides(1, 0, 2)},
		{sentLetter{c, 2, 126, 300}, 0, -1, -1, nil},
		{sentLetter{c, 1, 136, 9}, 3, 190, 1, byRides(2, 0, 1)},
		{sentLetter{c, 1, 135, 9}, 3, 185, 1, byRides(0, 1, 2, 3, 0, 1)},
		{sentLetter{c, 1, 135, 8}, 3, 185, 1, byRides(0, 1, 2, 3, 0, 1)},
		{sentLetter{c, 1, 135, 10}, 3, 190, 1, byRides(2, 0, 1)},
	}
}

// knownTogether are letters to towns in which several coaches arrive at the same time.
func knownTogether() []knownPost {
	c := togetherNet()
	fewer := coachNet{"arrive together, without the earliest one", c.n, c.net[:5]}
	return []knownPost{
		{sentLetter{c, 0, 5, 0}, 2, 39, 1, byRides(5, 0, 1)},
		{sentLetter{c, 0, 5, 0}, 3, 70, 1, byRides(3, 0, 1, 1, 0, 2)},
		{sentLetter{c, 0, 5, 10}, 3, 70, 1, byRides(3, 0, 1, 1, 0, 2)},
		{sentLetter{c, 0, 5, 11}, 3, 70, 1, byRides(5, 0, 1, 1, 1, 2)},
		{sentLetter{c, 0, 5, 21}, 3, 70, 1, byRides(5, 0, 1, 1, 1, 2)},
		{sentLetter{c, 0, 5, 22}, 3, 70, 1, byRides(2, 0, 2)},
		{sentLetter{c, 0, 5, 300}, 3, 70, 1, byRides(2, 0, 2)},
		{sentLetter{c, 0, 16, 21}, 3, 70, 2, byRides(5, 0, 1, 1, 1, 2)},
		{sentLetter{c, 0, 16, 22}, 3, -1, -1, nil},
		{sentLetter{fewer, 0, 5, 10}, 2, 40, 1, byRides(3, 0, 1, 1, 0, 1)},
		{sentLetter{fewer, 0, 5, 11}, 2, 40, 1, byRides(2, 0, 1)},
		{sentLetter{fewer, 0, 6, 0}, 2, 40, 1, byRides(2, 0, 1)},
		{sentLetter{fewer, 0, 16, 0}, 2, -1, -1, nil},
		{sentLetter{fewer, 3, 5, 0}, 2, 40, 1, byRides(0, 0, 1)},
		{sentLetter{fewer, 1, 10, 0}, 2, 40, 1, byRides(1, 0, 1)},
		{sentLetter{fewer, 1, 10, 0}, 3, 70, 1, byRides(1, 0, 2)},
		{sentLetter{coachNet{"two equal coaches", 3, [][]impl.Stop{plainStops(), plainStops()}}, 2, 0, 0}, 1, 600, 1, byRides(0, 0, 2)},
	}
}

// knownLaterStops are letters that can take a coach at several of its stops ahead of a town.
func knownLaterStops() []knownPost {
	c := laterStopsNet()
	without := func(name string, coaches ...int) coachNet {
		net := [][]impl.Stop{}
		for _, i := range coaches {
			net = append(net, c.net[i])
		}
		return coachNet{name, c.n, net}
	}
	all, third, none := without("at two stops", 0, 1, 2, 3), without("at the third stop", 0, 1, 3), without("at no stop", 0, 1)
	return []knownPost{
		{sentLetter{c, 0, 0, 0}, 5, 60, 2, byRides(3, 0, 1, 5, 0, 1, 4, 0, 1)},
		{sentLetter{c, 0, 5, 6}, 5, 60, 2, byRides(3, 0, 1, 5, 0, 1, 4, 0, 1)},
		{sentLetter{c, 0, 5, 7}, 5, -1, -1, nil},
		{sentLetter{all, 0, 0, 0}, 4, 45, 2, byRides(2, 0, 1, 0, 1, 3)},
		{sentLetter{all, 0, 0, 2}, 4, 45, 2, byRides(2, 0, 1, 0, 1, 3)},
		{sentLetter{all, 0, 0, 4}, 4, 45, 2, byRides(2, 0, 1, 0, 1, 3)},
		{sentLetter{all, 0, 0, 5}, 4, -1, -1, nil},
		{sentLetter{third, 0, 0, 2}, 4, 45, 2, byRides(2, 0, 1, 0, 2, 3)},
		{sentLetter{third, 0, 0, 3}, 4, -1, -1, nil},
		{sentLetter{none, 0, 0, 0}, 4, -1, -1, nil},
		{sentLetter{none, 1, 16, 0}, 4, 45, 1, byRides(0, 0, 3)},
	}
}

// knownFewest are letters that come later with fewer rides.
func knownFewest() []knownPost {
	c := fewestNet()
	return []knownPost{
		{sentLetter{c, 0, 0, 0}, 4, 40, 1, byRides(0, 0, 1, 1, 0, 1, 2, 0, 1, 3, 0, 1)},
		{sentLetter{c, 0, 0, 2}, 4, 40, 1, byRides(0, 0, 1, 1, 0, 1, 2, 0, 1, 3, 0, 1)},
		{sentLetter{c, 0, 0, 3}, 4, 70, 1, byRides(0, 0, 1, 4, 0, 1)},
		{sentLetter{c, 0, 0, 6}, 4, 70, 1, byRides(0, 0, 1, 4, 0, 1)},
		{sentLetter{c, 0, 0, 7}, 4, 80, 1, byRides(5, 0, 1)},
		{sentLetter{c, 0, 1, 0}, 4, 80, 1, byRides(5, 0, 1)},
		{sentLetter{c, 0, 6, 0}, 4, -1, -1, nil},
		{sentLetter{c, 0, 0, 2}, 3, 30, 3, byRides(0, 0, 1, 1, 0, 1, 2, 0, 1)},
		{sentLetter{c, 1, 12, 2}, 4, 40, 1, byRides(1, 0, 1, 2, 0, 1, 3, 0, 1)},
		{sentLetter{coachNet{"fewest of two", 5, c.net[:4]}, 0, 0, 0}, 4, 40, 3, byRides(0, 0, 1, 1, 0, 1, 2, 0, 1, 3, 0, 1)},
	}
}

// knownFar are letters with changes of about DelayMax, and at the first and the last time.
func knownFar() []knownPost {
	c := farApartNet()
	whole := coachNet{"from the first to the last time", 3, [][]impl.Stop{byCoach(0, 0, 0, 1, 5000, 5000), byCoach(1, 5000, 5300, 2, impl.TimeMax, impl.TimeMax)}}
	return []knownPost{
		{sentLetter{c, 0, 100, 299}, 2, 600, 1, byRides(0, 0, 1, 1, 0, 1)},
		{sentLetter{c, 0, 100, 300}, 2, 1400, 1, byRides(5, 0, 1)},
		{sentLetter{c, 0, 100, 300}, 3, 600, 2, byRides(0, 0, 1, 2, 0, 1)},
		{sentLetter{c, 0, 100, 300}, 4, 600, 2, byRides(0, 0, 1, 3, 0, 1)},
		{sentLetter{c, 1, 500, 300}, 2, 1400, 3, byRides(3, 0, 1, 4, 0, 1, 5, 0, 1)},
		{sentLetter{c, 1, 499, 300}, 2, 600, 1, byRides(1, 0, 1)},
		{sentLetter{c, 1, 502, 0}, 4, -1, -1, nil},
		{sentLetter{whole, 0, 0, 300}, 2, impl.TimeMax, 2, byRides(0, 0, 1, 1, 0, 1)},
		{sentLetter{whole, 0, 1, 0}, 2, -1, -1, nil},
		{sentLetter{whole, 2, impl.TimeMax, 0}, 2, impl.TimeMax, 0, nil},
		{sentLetter{whole, 1, impl.TimeMax, 0}, 2, -1, -1, nil},
		{sentLetter{whole, 1, 5300, 300}, 2, impl.TimeMax, 1, byRides(1, 0, 1)},
	}
}

func TestKnownPosts(t *testing.T) {
	for _, k := range slices.Concat(knownPlain(), knownTogether(), knownLaterStops(), knownFewest(), knownFar()) {
		checkTo(t, k.c, k.to, k.arrive, k.fewest, k.rides)
	}
}

func TestKnownTables(t *testing.T) {
	for _, k := range []struct {
		c    sentLetter
		want []int
	}{
		{sentLetter{plainNet(), 0, 105, 9}, []int{105, 130, 160, 185, -1}},
		{sentLetter{plainNet(), 0, 110, 10}, []int{110, 130, 160, 190, -1}},
		{sentLetter{plainNet(), 0, 110, 26}, []int{110, 130, 160, -1, -1}},
		{sentLetter{plainNet(), 0, 111, 0}, []int{111, -1, -1, -1, -1}},
		{sentLetter{plainNet(), 2, 120, 300}, []int{170, 134, 120, 185, -1}},
		{sentLetter{plainNet(), 4, 0, 0}, []int{-1, -1, -1, -1, 0}},
		{sentLetter{farApartNet(), 0, 0, 300}, []int{0, 200, 1400, 600, 600}},
		{sentLetter{farApartNet(), 1, 500, 300}, []int{1000, 500, 1400, 600, 600}},
		{sentLetter{ladderNet(0), 0, 0, 0}, []int{0, 10, 24, 37, 49, 60, 70}},
		{sentLetter{ladderNet(0), 0, 0, 1}, []int{0, 10, 24, 37, 49, 60, -1}},
		{sentLetter{ladderNet(0), 0, 0, 4}, []int{0, 10, 24, -1, -1, -1, -1}},
		{sentLetter{ladderNet(0), 0, 0, 5}, []int{0, 10, -1, -1, -1, -1, -1}},
		{sentLetter{ladderNet(0), 2, 27, 300}, []int{-1, -1, 27, 37, -1, -1, -1}},
		{sentLetter{ladderNet(impl.TimeMax - 70), 0, 0, 0}, []int{0, 9940, 9954, 9967, 9979, 9990, 10000}},
	} {
		got, ok := tableOf(k.c)
		numbersDiffer(t, fmt.Sprintf("%s: PostTable from %d at %d, change %d", k.c.name, k.c.from, k.c.time, k.c.change), got, ok, k.want)
	}
}

// TestReachUntil has times that are negative, earlier than the letter, between, and beyond TimeMax.
func TestReachUntil(t *testing.T) {
	c := sentLetter{plainNet(), 0, 105, 9}
	for _, k := range []struct {
		until int
		want  []int
	}{
		{-1 << 63, nil}, {-2, nil}, {-1, nil}, {0, nil}, {104, nil}, {105, []int{0}}, {129, []int{0}}, {130, []int{0, 1}}, {159, []int{0, 1}}, {160, []int{0, 1, 2}}, {184, []int{0, 1, 2}},
		{185, []int{0, 1, 2, 3}}, {impl.TimeMax, []int{0, 1, 2, 3}}, {impl.TimeMax + 1, []int{0, 1, 2, 3}}, {1<<63 - 1, []int{0, 1, 2, 3}},
	} {
		if got := reachUntil(c, k.until); !slices.Equal(got, k.want) {
			t.Errorf("PostReach until %d is %v, want %v", k.until, got, k.want)
		}
	}
	if got := reachUntil(sentLetter{plainNet(), 4, 0, 0}, -1); len(got) > 0 {
		t.Errorf("PostReach of a letter at 0 until -1 is %v", got)
	}
	if got := reachUntil(sentLetter{plainNet(), 2, 125, 0}, 170); !slices.Equal(got, []int{0, 1, 2}) {
		t.Errorf("PostReach from a town in the middle is %v", got)
	}
}

// TestLatestLeaving has the latest of several Leaves, the time itself, and none.
func TestLatestLeaving(t *testing.T) {
	for _, k := range []struct {
		c        coachNet
		from, to int
		until    int
		change   int
		want     int
	}{
		{plainNet(), 0, 3, 200, 9, 110}, {plainNet(), 0, 3, 185, 9, 110}, {plainNet(), 0, 3, 184, 9, -1}, {plainNet(), 0, 3, 189, 10, -1}, {plainNet(), 0, 3, 190, 10, 110}, {plainNet(), 0, 3, 190, 26, -1},
		{plainNet(), 1, 3, 200, 0, 155}, {plainNet(), 1, 3, 190, 300, 155}, {plainNet(), 1, 3, 189, 9, 135}, {plainNet(), 1, 3, 189, 10, -1},
		{plainNet(), 2, 3, 185, 300, 169}, {plainNet(), 2, 0, 170, 300, 125}, {plainNet(), 2, 0, 169, 0, -1},
		{plainNet(), 0, 0, 77, 0, 77}, {plainNet(), 0, 0, 0, 0, 0}, {plainNet(), 4, 4, impl.TimeMax, 300, impl.TimeMax}, {plainNet(), 3, 0, impl.TimeMax, 0, -1}, {plainNet(), 0, 4, impl.TimeMax, 0, -1}, {plainNet(), 4, 0, impl.TimeMax, 0, -1},
		{fewestNet(), 0, 4, 40, 2, 0}, {fewestNet(), 0, 4, 39, 0, -1}, {fewestNet(), 0, 4, 40, 3, -1}, {fewestNet(), 0, 4, 79, 0, 0}, {fewestNet(), 0, 4, 80, 0, 5}, {fewestNet(), 0, 4, 70, 6, 0}, {fewestNet(), 0, 4, 70, 7, -1}, {fewestNet(), 0, 4, 80, 300, 5},
		{ringNet(), 0, 2, 100, 0, 95}, {ringNet(), 0, 2, 99, 0, 60}, {ringNet(), 0, 2, 79, 0, 30}, {ringNet(), 0, 2, 49, 0, 0}, {ringNet(), 0, 2, 19, 0, -1}, {ringNet(), 0, 2, 79, 1, 0}, {ringNet(), 1, 2, 79, 1, 40},
		{farApartNet(), 0, 2, 600, 299, 100}, {farApartNet(), 0, 2, 600, 300, -1}, {farApartNet(), 0, 2, 1400, 300, 1300}, {farApartNet(), 1, 2, 1400, 300, 501}, {farApartNet(), 1, 2, 1399, 300, 499},
	} {
		if got := impl.PostLeave(k.c.n, k.c.net, k.from, k.to, k.until, k.change); got != k.want {
			t.Errorf("%s: PostLeave from %d to %d up to %d with the change %d is %d, want %d", k.c.name, k.from, k.to, k.until, k.change, got, k.want)
		}
	}
}

// checkJourney checks whether rides are a journey with each of some changes, and where they end.
func checkJourney(t *testing.T, c coachNet, rides []impl.Ride, longest int, town int, time int) {
	t.Helper()
	for _, change := range []int{0, 1, longest - 1, longest, longest + 1, 300} {
		if change < 0 || change > 300 {
			continue
		}
		want := change <= longest
		if got := impl.JourneyValid(c.n, c.net, rides, change); got != want {
			t.Errorf("%s: JourneyValid of %v with the change %d is %v", c.name, rides, change, got)
		}
		wantTown, wantTime := town, time
		if !want {
			wantTown, wantTime = 0, 0
		}
		if gotTown, gotTime, ok := impl.JourneyEnd(c.n, c.net, rides, change); ok != want || gotTown != wantTown || gotTime != wantTime {
			t.Errorf("%s: JourneyEnd of %v with the change %d gives %d, %d and %v", c.name, rides, change, gotTown, gotTime, ok)
		}
	}
}

// TestKnownJourneys has journeys with the longest change with which they can be made, less than 0 for none.
func TestKnownJourneys(t *testing.T) {
	ring, far := ringNet(), farApartNet()
	checkJourney(t, plainNet(), byRides(0, 0, 1), 300, 1, 130)
	checkJourney(t, plainNet(), byRides(0, 1, 2), 300, 2, 160)
	checkJourney(t, plainNet(), byRides(0, 0, 2, 3, 0, 1), 9, 3, 185)
	checkJourney(t, plainNet(), byRides(0, 0, 1, 2, 0, 1), 25, 3, 190)
	checkJourney(t, plainNet(), byRides(0, 0, 1, 1, 1, 2), 10, 0, 170)
	checkJourney(t, ring, byRides(0, 0, 2, 1, 0, 2, 2, 0, 2, 3, 0, 2, 4, 0, 1, 5, 0, 1), 0, 2, 100)
	checkJourney(t, ring, byRides(3, 0, 2, 4, 0, 1, 5, 0, 1), 1, 2, 100)
	checkJourney(t, ring, byRides(4, 0, 1, 5, 0, 1), 5, 2, 100)
	checkJourney(t, ring, byRides(0, 0, 2, 4, 0, 1), 61, 0, 90)
	checkJourney(t, far, byRides(0, 0, 1, 1, 0, 1), 299, 2, 600)
	checkJourney(t, far, byRides(0, 0, 1, 2, 0, 1), 300, 3, 600)
	checkJourney(t, far, byRides(0, 0, 1, 3, 0, 1), 300, 4, 600)
	checkJourney(t, far, byRides(3, 0, 1, 4, 0, 1, 5, 0, 1), 300, 2, 1400)
	// The next coach leaves ahead of Arrive, or begins in another town, or the ride does not go on.
	checkJourney(t, ring, byRides(1, 0, 2, 0, 0, 1), -1, 0, 0)
	checkJourney(t, ring, byRides(0, 0, 2, 2, 0, 1), -1, 0, 0)
	checkJourney(t, plainNet(), byRides(0, 0, 2, 1, 0, 1), -1, 0, 0)
	checkJourney(t, plainNet(), byRides(0, 0, 0), -1, 0, 0)
	checkJourney(t, plainNet(), byRides(0, 1, 0), -1, 0, 0)
	checkJourney(t, plainNet(), byRides(0, 2, 2), -1, 0, 0)
	checkJourney(t, plainNet(), byRides(0, 0, 1, 2, 1, 0), -1, 0, 0)
	checkJourney(t, plainNet(), byRides(0, 0, 1, 0, 1, 1), -1, 0, 0)
}

// TestSameCoachOnceMore has a letter that leaves a coach and takes it again at the same stop, for which it needs the change, and one that stays aboard.
func TestSameCoachOnceMore(t *testing.T) {
	for _, stay := range []int{0, 1, 5, 299, 300, 301} {
		c := coachNet{fmt.Sprintf("a stay of %d", stay), 4, [][]impl.Stop{byCoach(0, 100, 100, 1, 200, 200+stay, 2, 600, 600+stay, 3, 1000, 1000)}}
		checkJourney(t, c, byRides(0, 0, 1, 0, 1, 2), min(stay, 300), 2, 600)
		checkJourney(t, c, byRides(0, 0, 2, 0, 2, 3), min(stay, 300), 3, 1000)
		checkJourney(t, c, byRides(0, 0, 1, 0, 1, 2, 0, 2, 3), min(stay, 300), 3, 1000)
		checkJourney(t, c, byRides(0, 0, 3), 300, 3, 1000)
		checkJourney(t, c, byRides(0, 0, 2, 0, 1, 3), -1, 0, 0)
		checkJourney(t, c, byRides(0, 0, 1, 0, 2, 3), -1, 0, 0)
		for _, change := range changesOfAll() {
			checkTo(t, sentLetter{c, 0, 100, change}, 3, 1000, 1, byRides(0, 0, 3))
		}
	}
}

// TestJourneysWithoutRides checks that they are valid, but end nowhere.
func TestJourneysWithoutRides(t *testing.T) {
	eachNet(t, func(t *testing.T, c coachNet) {
		for _, change := range append(changesOfAll(), noDelays()...) {
			for _, rides := range [][]impl.Ride{nil, {}} {
				if got, want := impl.JourneyValid(c.n, c.net, rides, change), 0 <= change && change <= 300; got != want {
					t.Errorf("JourneyValid without rides with the change %d is %v", change, got)
				}
				if town, time, ok := impl.JourneyEnd(c.n, c.net, rides, change); ok || town != 0 || time != 0 {
					t.Errorf("JourneyEnd without rides with the change %d gives %d, %d and %v", change, town, time, ok)
				}
			}
		}
	})
}

// TestRidesThatAreNotThere has rides with an index of a coach or of a stop that is not there, ahead of a ride, behind one and alone.
func TestRidesThatAreNotThere(t *testing.T) {
	c := ringNet()
	for _, no := range append(farNumbers(), -6, -1, 6, 7, 100) {
		for _, r := range []impl.Ride{{Coach: no, From: 0, To: 1}, {Coach: 1, From: no, To: 1}, {Coach: 1, From: 0, To: no}, {Coach: no, From: no, To: no}, {Coach: 1, From: no, To: no}} {
			for _, rides := range [][]impl.Ride{{r}, append(byRides(0, 0, 2), r), append([]impl.Ride{r}, byRides(2, 0, 1)...), append(byRides(0, 0, 2, 1, 0, 2), r)} {
				checkJourney(t, c, rides, -1, 0, 0)
			}
		}
	}
	for _, r := range byRides(0, 1, 3, 0, 2, 3, 4, 0, 2, 4, 1, 2, 0, -1, 1, 0, 3, 4) {
		checkJourney(t, c, []impl.Ride{r}, -1, 0, 0)
	}
	checkJourney(t, coachNet{"no coach", 3, nil}, byRides(0, 0, 1), -1, 0, 0)
}

// TestTurnsOfNets has turns with which one of the coaches can't go back.
func TestTurnsOfNets(t *testing.T) {
	c := coachNet{"turned", 3, [][]impl.Stop{byCoach(0, 10, 20, 1, 30, 40), byCoach(1, 5, 6, 2, 100, 110, 0, 120, 130), byCoach(2, 60, 70, 1, 90, 90)}}
	for turn, want := range map[int]bool{-1: false, 0: false, 90: false, 129: false, 130: true, 131: true, 5000: true, 10000: true, 10005: true, 10006: false, 10010: false, 10060: false, 20000: false} {
		back, ok := impl.PostBack(3, c.net, turn)
		if ok != want || ok && len(back) != 3 || !ok && len(back) != 0 {
			t.Errorf("PostBack with %d gives %v and %v", turn, back, ok)
		}
		for i := range back {
			if stops, _ := impl.StopsBack(3, c.net[i], turn); !slices.Equal(back[i], stops) {
				t.Errorf("PostBack with %d is %v", turn, back)
			}
		}
	}
	want := [][]impl.Stop{byCoach(1, 90, 100, 0, 110, 120), byCoach(0, 0, 10, 2, 20, 30, 1, 124, 125), byCoach(1, 40, 40, 2, 60, 70)}
	if back, ok := impl.PostBack(3, c.net, 130); !ok || !netsEqual(back, want) {
		t.Errorf("PostBack with 130 gives %v and %v, want %v", back, ok, want)
	}
	for _, turn := range farNumbers() {
		if back, ok := impl.PostBack(3, c.net, turn); ok || len(back) > 0 {
			t.Errorf("PostBack with %d gives %v and %v", turn, back, ok)
		}
	}
}

// TestAddedCoaches puts a coach to nets of each number of coaches, and lists that are no timetables.
func TestAddedCoaches(t *testing.T) {
	net := [][]impl.Stop{}
	for number := range 6 {
		more, _ := impl.StopsLater(3, plainStops(), number)
		longer, ok := impl.PostAdd(3, net, more)
		if !ok || len(longer) != number+1 || !netsEqual(longer[:number], net) || !slices.Equal(longer[number], more) {
			t.Fatalf("PostAdd to %d coaches gives %v and %v", number, longer, ok)
		}
		net = longer
		for _, c := range noTables() {
			for _, before := range [][][]impl.Stop{net, net[:1], nil} {
				if got, ok := impl.PostAdd(c.n, before, c.stops); ok || len(got) > 0 {
					t.Errorf("PostAdd of the list %q to %d coaches gives %v and %v", c.name, len(before), got, ok)
				}
			}
		}
	}
	if got, ok := impl.PostAdd(3, net, plainStops()); ok || len(got) > 0 {
		t.Errorf("PostAdd to CoachesMax coaches gives %v and %v", got, ok)
	}
}

// checkNoTable checks that nothing is told of a letter, also for its own town.
func checkNoTable(t *testing.T, c sentLetter) {
	t.Helper()
	name := fmt.Sprintf("%s, %d towns, coaches %v, from %d at %d, change %d", c.name, c.n, c.net, c.from, c.time, c.change)
	if got, ok := tableOf(c); ok || len(got) > 0 {
		t.Errorf("%s: PostTable gives %v and %v", name, got, ok)
	}
	for _, until := range []int{-1, 0, impl.TimeMax, 1<<63 - 1} {
		if got := reachUntil(c, until); len(got) > 0 {
			t.Errorf("%s: PostReach until %d is %v", name, until, got)
		}
	}
	for _, to := range []int{0, 1, 2, c.from} {
		checkNoWay(t, c, to)
		if got := leaveFor(c, to); got != -1 {
			t.Errorf("%s: PostLeave to %d is %d", name, to, got)
		}
	}
}

func TestPostsOfListsThatAreNoNets(t *testing.T) {
	for _, c := range noNets() {
		if impl.NetValid(c.n, c.net) {
			t.Errorf("%s: NetValid of %d towns holds for %v", c.name, c.n, c.net)
		}
		for _, from := range []int{0, 1, 2} {
			checkNoTable(t, sentLetter{c, from, 100, 0})
			checkNoTable(t, sentLetter{c, from, impl.TimeMax, 300})
		}
		checkNoTable(t, sentLetter{c, -1, -1, -1})
		for _, rides := range [][]impl.Ride{nil, byRides(0, 0, 1), byRides(1, 0, 1), byRides(0, 0, 1, 0, 1, 2)} {
			for _, change := range []int{0, 300, -1, 301} {
				if impl.JourneyValid(c.n, c.net, rides, change) {
					t.Errorf("%s: JourneyValid of %d towns holds for %v and %v", c.name, c.n, c.net, rides)
				}
				if town, time, ok := impl.JourneyEnd(c.n, c.net, rides, change); ok || town != 0 || time != 0 {
					t.Errorf("%s: JourneyEnd of %v gives %d, %d and %v", c.name, rides, town, time, ok)
				}
			}
		}
		for _, turn := range []int{0, 1000, impl.TimeMax} {
			if got, ok := impl.PostBack(c.n, c.net, turn); ok || len(got) > 0 {
				t.Errorf("%s: PostBack with %d gives %v and %v", c.name, turn, got, ok)
			}
		}
		for _, more := range [][]impl.Stop{plainStops(), byCoach(0, 0, 0, 1, 1, 1), nil} {
			if got, ok := impl.PostAdd(c.n, c.net, more); ok || len(got) > 0 {
				t.Errorf("%s: PostAdd of %v gives %v and %v", c.name, more, got, ok)
			}
		}
	}
}

// someNets are the few nets on which invalid arguments are tried.
func someNets() []coachNet {
	return []coachNet{
		{"no coach", 3, nil}, {"one coach", 3, [][]impl.Stop{plainStops()}}, {"one coach of all towns", 8, [][]impl.Stop{fullStops()}},
		{"CoachesMax coaches", 8, slices.Repeat([][]impl.Stop{minuteStops(3)}, 6)}, plainNet(), ringNet(),
	}
}

func TestTownsOutOfNets(t *testing.T) {
	for _, c := range someNets() {
		for _, no := range townsOutOf(c.n) {
			checkNoTable(t, sentLetter{c, no, 0, 0})
			checkNoTable(t, sentLetter{c, no, impl.TimeMax, 300})
			for from := range c.n {
				checkNoWay(t, sentLetter{c, from, 0, 0}, no)
				for _, time := range []int{0, 700, impl.TimeMax} {
					if got := leaveFor(sentLetter{c, from, time, 0}, no); got != -1 {
						t.Errorf("%s: PostLeave from %d to %d is %d", c.name, from, no, got)
					}
				}
			}
		}
	}
}

func TestTimesOfPostsThatAreNone(t *testing.T) {
	for _, c := range someNets() {
		for _, no := range noTimesOfPosts() {
			for from := range c.n {
				checkNoTable(t, sentLetter{c, from, no, 0})
				checkNoTable(t, sentLetter{c, from, no, 300})
			}
		}
	}
}

func TestChangesThatAreNone(t *testing.T) {
	for _, c := range someNets() {
		for _, no := range noDelays() {
			for from := range c.n {
				checkNoTable(t, sentLetter{c, from, 0, no})
				checkNoTable(t, sentLetter{c, from, impl.TimeMax, no})
			}
			for _, rides := range [][]impl.Ride{nil, byRides(0, 0, 1), byRides(0, 0, 1, 2, 0, 1)} {
				if impl.JourneyValid(c.n, c.net, rides, no) {
					t.Errorf("%s: JourneyValid of %v holds with the change %d", c.name, rides, no)
				}
				if town, time, ok := impl.JourneyEnd(c.n, c.net, rides, no); ok || town != 0 || time != 0 {
					t.Errorf("%s: JourneyEnd of %v with the change %d gives %d, %d and %v", c.name, rides, no, town, time, ok)
				}
			}
		}
	}
}
