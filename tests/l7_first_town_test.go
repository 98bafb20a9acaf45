package tests

import (
	"fmt"
	"slices"
	"testing"

	"loop.example/mailcoaches/impl"
)

// backAgain is a net in which a letter of the town 0 comes back there at 1000, and a coach leaves there for the town 2 some minutes later; in the town 1 it has 400 minutes for the change.
func backAgain(minutes int) coachNet {
	return coachNet{fmt.Sprintf("back again, %d minutes", minutes), 3, [][]impl.Stop{
		byCoach(0, 0, 100, 1, 200, 210),
		byCoach(1, 550, 600, 0, 1000, 1010),
		byCoach(0, 900, 1000+minutes, 2, 2000, 2000),
	}}
}

// awayAndBack are the rides from the town 0 back to it, and on to the town 2.
func awayAndBack() []impl.Ride {
	return byRides(0, 0, 1, 1, 0, 1, 2, 0, 1)
}

// changesOfAll are changes at their limits and between.
func changesOfAll() []int {
	return []int{0, 1, 2, 10, 150, 299, 300}
}

// checkTo checks all that is told of a letter and a town that it reaches.
func checkTo(t *testing.T, c sentLetter, to int, arrive int, fewest int, rides []impl.Ride) {
	t.Helper()
	if got := arriveIn(c, to); got != arrive {
		t.Errorf("%s: PostArrive from %d at %d in %d, change %d, is %d, want %d", c.name, c.from, c.time, to, c.change, got, arrive)
	}
	if got := fewestTo(c, to); got != fewest {
		t.Errorf("%s: PostFewest from %d at %d to %d, change %d, is %d, want %d", c.name, c.from, c.time, to, c.change, got, fewest)
	}
	if got, ok := wayTo(c, to); ok != (arrive != -1) || !slices.Equal(got, rides) {
		t.Errorf("%s: PostWay from %d at %d to %d, change %d, gives %v and %v, want %v", c.name, c.from, c.time, to, c.change, got, ok, rides)
	}
}

// checkNoWay checks that a letter does not come to a town.
func checkNoWay(t *testing.T, c sentLetter, to int) {
	t.Helper()
	checkTo(t, c, to, -1, -1, nil)
}

// TestFirstRideInTime has a letter in its first town one minute earlier than a coach leaves, just as late, and one minute later: it needs no change there, whatever it needs elsewhere.
func TestFirstRideInTime(t *testing.T) {
	c := returnNet()
	for _, change := range changesOfAll() {
		for _, time := range []int{0, 1, 9, 10} {
			checkTo(t, sentLetter{c, 0, time, change}, 1, 20, 1, byRides(0, 0, 1))
		}
		for _, time := range []int{11, 12, 40, 50} {
			checkNoWay(t, sentLetter{c, 0, time, change}, 1)
		}
		for _, time := range []int{0, 10, 11, 40, 41, 45, 49, 50} {
			checkTo(t, sentLetter{c, 0, time, change}, 2, 60, 1, byRides(2, 0, 1))
		}
		for _, time := range []int{51, 52, 60, impl.TimeMax} {
			checkNoWay(t, sentLetter{c, 0, time, change}, 2)
		}
		for _, time := range []int{0, 22, 29, 30} {
			checkTo(t, sentLetter{c, 1, time, change}, 0, 40, 1, byRides(1, 0, 1))
		}
		checkNoWay(t, sentLetter{c, 1, 31, change}, 0)
	}
}

// TestFirstRideOfEveryStop has a letter at every stop of every coach, a minute ahead of Leave, at Leave and a minute behind it.
func TestFirstRideOfEveryStop(t *testing.T) {
	number := 0
	eachNet(t, func(t *testing.T, c coachNet) {
		for _, coach := range c.net {
			alone := coachNet{"alone", c.n, [][]impl.Stop{coach}}
			for i, s := range coach[:len(coach)-1] {
				next := coach[i+1]
				for _, change := range []int{0, 1, 300} {
					ride := byRides(0, i, i+1)
					checkTo(t, sentLetter{alone, s.Town, s.Leave, change}, next.Town, next.Arrive, 1, ride)
					if s.Leave > 0 {
						checkTo(t, sentLetter{alone, s.Town, s.Leave - 1, change}, next.Town, next.Arrive, 1, ride)
					}
					checkNoWay(t, sentLetter{alone, s.Town, s.Leave + 1, change}, next.Town)
					if got := leaveFor(sentLetter{alone, s.Town, next.Arrive, change}, next.Town); got != s.Leave {
						t.Errorf("PostLeave from %d to %d up to %d is %d", s.Town, next.Town, next.Arrive, got)
					}
					number++
				}
			}
		}
	})
	if number < 5000 {
		t.Errorf("only %d stops", number)
	}
}

// TestChangeBackInTheFirstTown has a letter that comes back to its first town and goes on with a coach there: behind two rides it needs the change.
func TestChangeBackInTheFirstTown(t *testing.T) {
	for _, minutes := range []int{10, 11, 12, 50, 150, 298, 299, 300, 301, 400} {
		c := backAgain(minutes)
		for _, change := range append(changesOfAll(), minutes-1, minutes, minutes+1) {
			want := change <= minutes && change <= 300
			if got := impl.JourneyValid(3, c.net, awayAndBack(), change); got != want {
				t.Errorf("%s: JourneyValid with the change %d is %v", c.name, change, got)
			}
			town, time, ok := impl.JourneyEnd(3, c.net, awayAndBack(), change)
			if ok != want || ok && (town != 2 || time != 2000) || !ok && (town != 0 || time != 0) {
				t.Errorf("%s: JourneyEnd with the change %d gives %d, %d and %v", c.name, change, town, time, ok)
			}
			// The journey back alone, and the last ride alone, need no change in the first town.
			town, time, ok = impl.JourneyEnd(3, c.net, awayAndBack()[:2], change)
			if fits := change <= 300; ok != fits || ok && (town != 0 || time != 1000) {
				t.Errorf("%s: JourneyEnd back with the change %d gives %d, %d and %v", c.name, change, town, time, ok)
			}
			if got := impl.JourneyValid(3, c.net, awayAndBack()[2:], change); got != (change <= 300) {
				t.Errorf("%s: JourneyValid of the last ride with the change %d is %v", c.name, change, got)
			}
		}
	}
}

// TestNoChangeWithoutGoingAway checks that a letter that could come back to its first town waits there instead, so that it needs no change.
func TestNoChangeWithoutGoingAway(t *testing.T) {
	for _, minutes := range []int{10, 11, 299, 300, 400} {
		c := backAgain(minutes)
		for _, change := range changesOfAll() {
			for _, time := range []int{0, 99, 100, 101, 999, 1000, 1001, 1000 + minutes} {
				checkTo(t, sentLetter{c, 0, time, change}, 2, 2000, 1, byRides(2, 0, 1))
				checkTo(t, sentLetter{c, 0, time, change}, 0, time, 0, nil)
			}
			checkNoWay(t, sentLetter{c, 0, 1001 + minutes, change}, 2)
			for until, want := range map[int]int{1999: -1, 2000: 1000 + minutes, 2001: 1000 + minutes, 9999: 1000 + minutes} {
				if got := leaveFor(sentLetter{c, 0, until, change}, 2); got != want {
					t.Errorf("%s: PostLeave with the change %d up to %d is %d", c.name, change, until, got)
				}
			}
		}
	}
}

// TestChangeInATownThatIsNotTheFirst has letters that come to the town 0 from elsewhere, beside one that is there at the same time from the first.
func TestChangeInATownThatIsNotTheFirst(t *testing.T) {
	for _, minutes := range []int{10, 11, 150, 299, 300} {
		c := backAgain(minutes)
		for _, change := range append(changesOfAll(), minutes-1, minutes, min(300, minutes+1)) {
			checkTo(t, sentLetter{c, 0, 1000, change}, 2, 2000, 1, byRides(2, 0, 1))
			l := sentLetter{c, 1, 600, change}
			if change <= minutes {
				checkTo(t, l, 2, 2000, 2, byRides(1, 0, 1, 2, 0, 1))
			} else {
				checkNoWay(t, l, 2)
			}
			want := []int{1000, 600, 2000}
			if change > minutes {
				want[2] = -1
			}
			got, ok := tableOf(l)
			numbersDiffer(t, fmt.Sprintf("%s: PostTable with the change %d", c.name, change), got, ok, want)
			leave := 600
			if change > minutes {
				leave = -1
			}
			if got := leaveFor(sentLetter{c, 1, 2000, change}, 2); got != leave {
				t.Errorf("%s: PostLeave with the change %d is %d, want %d", c.name, change, got, leave)
			}
		}
	}
}

// TestThroughTheFirstTown has a coach through the first town that the letter can meet at an earlier stop, behind a ride and a change, or in the first town itself, without.
func TestThroughTheFirstTown(t *testing.T) {
	c := throughNet()
	for _, change := range changesOfAll() {
		for _, time := range []int{0, 9, 10} {
			way := byRides(1, 1, 2)
			if change <= 3 {
				way = byRides(0, 0, 1, 1, 0, 2)
			}
			checkTo(t, sentLetter{c, 0, time, change}, 2, 30, 1, way)
		}
		for _, time := range []int{11, 18, 20, 24, 25} {
			checkTo(t, sentLetter{c, 0, time, change}, 2, 30, 1, byRides(1, 1, 2))
		}
		checkNoWay(t, sentLetter{c, 0, 26, change}, 2)
		if got := leaveFor(sentLetter{c, 0, 30, change}, 2); got != 25 {
			t.Errorf("PostLeave with the change %d is %d", change, got)
		}
	}
	checkTo(t, sentLetter{c, 0, 10, 3}, 2, 30, 1, byRides(0, 0, 1, 1, 0, 2))
	checkTo(t, sentLetter{c, 0, 10, 4}, 2, 30, 1, byRides(1, 1, 2))
}

// TestFirstTownInTables checks that the first town has the time itself in every table, although coaches arrive there later.
func TestFirstTownInTables(t *testing.T) {
	comesBack := 0
	eachLetter(t, func(t *testing.T, c sentLetter) {
		if got := arriveIn(c, c.from); got != c.time {
			t.Errorf("PostArrive in the first town is %d", got)
		}
		checkTo(t, c, c.from, c.time, 0, nil)
		if got := leaveFor(c, c.from); got != c.time {
			t.Errorf("PostLeave for the first town is %d", got)
		}
		if got := reachUntil(c, c.time); !slices.Equal(got, []int{c.from}) {
			t.Errorf("PostReach until the time is %v", got)
		}
		if got := reachUntil(c, c.time-1); len(got) > 0 {
			t.Errorf("PostReach until a minute earlier is %v", got)
		}
		journeys := 0
		times, _ := tableOf(c)
		for town, time := range times {
			if town != c.from && time != -1 && arriveIn(c.inTown(town).atTime(time), c.from) != -1 {
				journeys++
			}
		}
		comesBack += min(journeys, 1)
	})
	if comesBack < 1000 {
		t.Errorf("only %d letters can come back", comesBack)
	}
}

// TestFirstRideDoesNotNeedTheChange checks that towns to which a single coach goes are reached as early with every change as a coach alone brings the letter there.
func TestFirstRideDoesNotNeedTheChange(t *testing.T) {
	changed := 0
	eachLetter(t, func(t *testing.T, c sentLetter) {
		times, _ := tableOf(c.withChange(300))
		shorter, _ := tableOf(c.withChange(0))
		for to, time := range times {
			alone := -1
			for _, coach := range c.net {
				there := arriveIn(c.inNet([][]impl.Stop{coach}).withChange(300), to)
				if there != -1 && (alone == -1 || there < alone) {
					alone = there
				}
			}
			if alone != -1 && (time == -1 || time > alone) {
				t.Errorf("PostTable with a change of DelayMax is %v, but one coach is in %d at %d", times, to, alone)
			}
			if shorter[to] != time {
				changed++
			}
		}
	})
	if changed < 1000 {
		t.Errorf("the change matters for only %d towns", changed)
	}
}

// TestLastTownNeedsNoChange checks that a letter is where it should be at Arrive of the last coach.
func TestLastTownNeedsNoChange(t *testing.T) {
	c := backAgain(300)
	for _, change := range changesOfAll() {
		for _, l := range []struct{ from, to, until, want int }{
			{0, 1, 199, -1}, {0, 1, 200, 100}, {0, 1, 201, 100}, {1, 0, 999, -1}, {1, 0, 1000, 600}, {1, 0, 1001, 600}, {1, 2, 1999, -1}, {1, 2, 2000, 600}, {2, 0, impl.TimeMax, -1}, {2, 1, impl.TimeMax, -1},
		} {
			if got := leaveFor(sentLetter{c, l.from, l.until, change}, l.to); got != l.want {
				t.Errorf("PostLeave from %d to %d up to %d with the change %d is %d, want %d", l.from, l.to, l.until, change, got, l.want)
			}
		}
	}
}
