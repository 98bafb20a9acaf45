package tests

import (
	"slices"
	"testing"

	"loop.example/mailcoaches/impl"
)

// P74. If JourneyValid holds, it holds for the first rides and for the others, with a change that is 1 less, if there is one, and with a further coach, if there is room.
func TestP74Journey(t *testing.T) {
	parts, further := 0, 0
	eachJourney(t, func(t *testing.T, c coachNet, rides []impl.Ride, change int) {
		if !impl.JourneyValid(c.n, c.net, rides, change) {
			t.Fatalf("JourneyValid does not hold")
		}
		for k := range len(rides) + 1 {
			parts++
			if !impl.JourneyValid(c.n, c.net, rides[:k], change) || !impl.JourneyValid(c.n, c.net, rides[k:], change) {
				t.Errorf("JourneyValid does not hold for the first %d rides or for the others", k)
			}
		}
		if got := impl.JourneyValid(c.n, c.net, rides, change-1); got != (change > 0) {
			t.Errorf("JourneyValid with a change that is 1 less is %v", got)
		}
		for _, more := range moreCoaches(c)[:min(2, len(moreCoaches(c)))] {
			net := append(cloneNet(c.net), more)
			if got := impl.JourneyValid(c.n, net, rides, change); got != (len(c.net) < 6) {
				t.Errorf("JourneyValid with the further coach %v is %v", more, got)
			}
			further++
		}
	})
	if parts < 10000 || further < 10000 {
		t.Errorf("only %d parts and only %d further coaches", parts, further)
	}
}

// P75. If JourneyEnd succeeds, PostArrive from the first town at Leave of the first ride is at most its time, if the change is in range, and a journey of the last ride alone ends there, too.
func TestP75End(t *testing.T) {
	number := map[bool]int{}
	eachJourney(t, func(t *testing.T, c coachNet, rides []impl.Ride, change int) {
		town, time, ok := impl.JourneyEnd(c.n, c.net, rides, change)
		if ok != (len(rides) > 0) {
			t.Fatalf("JourneyEnd gives %d, %d and %v", town, time, ok)
		}
		if !ok {
			return
		}
		first, last := rides[0], rides[len(rides)-1]
		if s := c.net[last.Coach][last.To]; town != s.Town || time != s.Arrive {
			t.Errorf("JourneyEnd gives %d and %d", town, time)
		}
		begin := c.net[first.Coach][first.From]
		arrive := impl.PostArrive(c.n, c.net, begin.Town, town, begin.Leave, change)
		if arrive < begin.Leave || arrive > time {
			t.Errorf("JourneyEnd gives %d and %d, but PostArrive is %d", town, time, arrive)
		}
		number[arrive == time]++
		if lastTown, lastTime, ok := impl.JourneyEnd(c.n, c.net, []impl.Ride{last}, change); !ok || lastTown != town || lastTime != time {
			t.Errorf("JourneyEnd gives %d and %d, but of the last ride alone %d, %d and %v", town, time, lastTown, lastTime, ok)
		}
	})
	if number[true] < 5000 || number[false] < 500 {
		t.Errorf("only %d journeys are the earliest and only %d are not", number[true], number[false])
	}
}

// P76. If PostTable succeeds, it has the time for the town, no town is reached earlier, PostArrive is the same, and with a time that is later no town is reached earlier, and none that was not reached.
func TestP76Table(t *testing.T) {
	eachLetter(t, func(t *testing.T, c sentLetter) {
		times, ok := tableOf(c)
		if !ok || len(times) != c.n || times[c.from] != c.time {
			t.Fatalf("PostTable gives %v and %v", times, ok)
		}
		for town, time := range times {
			if time != -1 && time < c.time {
				t.Errorf("PostTable is %v", times)
			}
			if arrive := arriveIn(c, town); arrive != time {
				t.Errorf("PostTable is %v, but PostArrive in %d is %d", times, town, arrive)
			}
		}
		for _, later := range []int{c.time + 1, c.time + 7, (c.time + impl.TimeMax + 1) / 2, impl.TimeMax} {
			if later > impl.TimeMax {
				continue
			}
			laterTimes, ok := tableOf(c.atTime(later))
			if !ok || len(laterTimes) != c.n {
				t.Fatalf("PostTable at %d gives %v and %v", later, laterTimes, ok)
			}
			for town, time := range laterTimes {
				if time != -1 && (times[town] == -1 || time < times[town]) {
					t.Errorf("PostTable is %v, but at %d it is %v", times, later, laterTimes)
				}
			}
		}
	})
}

// P77. If PostTable succeeds, for each coach that stops in the town at the time or later, each later stop of it is reached at Arrive at the latest.
func TestP77Coaches(t *testing.T) {
	number := 0
	eachLetter(t, func(t *testing.T, c sentLetter) {
		times, ok := tableOf(c)
		if !ok {
			t.Fatalf("PostTable fails")
		}
		for _, coach := range c.net {
			at := townAt(coach, c.from)
			if at == -1 || coach[at].Leave < c.time {
				continue
			}
			for _, s := range coach[at+1:] {
				if times[s.Town] == -1 || times[s.Town] > s.Arrive {
					t.Errorf("PostTable is %v, but there is the coach %v", times, coach)
				}
				number++
			}
		}
	})
	if number < 20000 {
		t.Errorf("only %d stops can be reached", number)
	}
}

// noLater checks that a letter comes everywhere where it came before, and no later.
func noLater(t *testing.T, name string, before []int, after []int, ok bool) {
	t.Helper()
	if !ok || len(after) != len(before) {
		t.Fatalf("%s: PostTable gives %v and %v", name, after, ok)
	}
	for town, time := range before {
		if time != -1 && (after[town] == -1 || after[town] > time) {
			t.Errorf("%s: PostTable is %v, but was %v", name, after, before)
		}
	}
}

// P78. If PostArrive is not -1, it is at least the time, with a change that is 1 less, if there is one, it is not greater, and with a further coach, if there is room, neither.
func TestP78Arrive(t *testing.T) {
	earlier, helped := 0, 0
	eachLetter(t, func(t *testing.T, c sentLetter) {
		for to := range c.n {
			arrive := arriveIn(c, to)
			if arrive == -1 {
				continue
			}
			if arrive < c.time {
				t.Errorf("PostArrive in %d is %d", to, arrive)
			}
			if c.change > 0 {
				less := arriveIn(c.withChange(c.change-1), to)
				if less == -1 || less > arrive {
					t.Errorf("PostArrive in %d is %d, but with a change that is 1 less %d", to, arrive, less)
				}
				if less < arrive {
					earlier++
				}
			}
			if len(c.net) == 6 || c.n == 1 {
				continue
			}
			net := append(cloneNet(c.net), byCoach(c.from, c.time/2, min(c.time+3, 9950), (c.from+1)%c.n, 9951, 9960))
			more := arriveIn(c.inNet(net), to)
			if more == -1 || more > arrive {
				t.Errorf("PostArrive in %d is %d, but with a further coach %d", to, arrive, more)
			}
			net[len(net)-1] = moreCoaches(c.coachNet)[2+(c.time+to)%6]
			more = arriveIn(c.inNet(net), to)
			if more == -1 || more > arrive {
				t.Errorf("PostArrive in %d is %d, but with the further coach %v %d", to, arrive, net[len(net)-1], more)
			}
			if more < arrive {
				helped++
			}
		}
	})
	if earlier < 50 || helped < 500 {
		t.Errorf("only %d letters come earlier with a shorter change, and only %d with a further coach", earlier, helped)
	}
}

// P79. If PostReach is not empty, it has the town itself, just the towns whose number of PostTable is not -1 and at most the time, and up to a later time no fewer.
func TestP79Reach(t *testing.T) {
	number := map[bool]int{}
	eachLetter(t, func(t *testing.T, c sentLetter) {
		times, _ := tableOf(c)
		before := []int{}
		untils := []int{-2, -1, 0, c.time - 1, c.time, c.time + 1, c.time + 12, c.time + 30, c.time + 70, 9999, 10000, 10001, 1<<63 - 1}
		slices.Sort(untils)
		for _, until := range untils {
			towns := reachUntil(c, until)
			number[len(towns) > 0]++
			if (len(towns) > 0) != (until >= c.time) || len(towns) > 0 && !slices.Contains(towns, c.from) {
				t.Errorf("PostReach until %d is %v", until, towns)
			}
			if !slices.IsSorted(towns) {
				t.Errorf("PostReach until %d is %v", until, towns)
			}
			for town, time := range times {
				if slices.Contains(towns, town) != (time != -1 && time <= until) {
					t.Errorf("PostReach until %d is %v, but PostTable %v", until, towns, times)
				}
			}
			if len(towns) < len(before) {
				t.Errorf("PostReach until %d is %v, but was %v", until, towns, before)
			}
			before = towns
		}
	})
	if number[true] < 100000 || number[false] < 20000 {
		t.Errorf("only %d times are late enough and only %d are not", number[true], number[false])
	}
}

// P80. If PostWay succeeds, it is a journey that begins in the first town at the time or later and ends in the other one at PostArrive; there are at least PostFewest rides, and for the same town none.
func TestP80Way(t *testing.T) {
	number := map[bool]int{}
	eachLetter(t, func(t *testing.T, c sentLetter) {
		for to := range c.n {
			rides, ok := wayTo(c, to)
			arrive := arriveIn(c, to)
			if ok != (arrive != -1) {
				t.Fatalf("PostWay to %d gives %v and %v, but PostArrive is %d", to, rides, ok, arrive)
			}
			if !ok {
				continue
			}
			if !impl.JourneyValid(c.n, c.net, rides, c.change) || (to == c.from) != (len(rides) == 0) {
				t.Fatalf("PostWay to %d is %v", to, rides)
			}
			if fewest := fewestTo(c, to); fewest < 0 || len(rides) < fewest {
				t.Errorf("PostWay to %d is %v, but PostFewest %d", to, rides, fewest)
			}
			number[len(rides) > 1]++
			if to == c.from {
				continue
			}
			if first := c.net[rides[0].Coach][rides[0].From]; first.Town != c.from || first.Leave < c.time {
				t.Errorf("PostWay to %d is %v", to, rides)
			}
			if town, time, ok := impl.JourneyEnd(c.n, c.net, rides, c.change); !ok || town != to || time != arrive {
				t.Errorf("PostWay to %d is %v, which ends in %d at %d, but PostArrive is %d", to, rides, town, time, arrive)
			}
		}
	})
	if number[true] < 2000 || number[false] < 10000 {
		t.Errorf("only %d ways have several rides and only %d one or none", number[true], number[false])
	}
}

// P81. If PostLeave is not -1, PostArrive from it on is at most the time, from 1 minute later on, if this is a time, it is later, or -1, and for a later time it is not less.
func TestP81Leave(t *testing.T) {
	number := map[bool]int{}
	eachLetter(t, func(t *testing.T, c sentLetter) {
		for to := range c.n {
			leave := leaveFor(c, to)
			number[leave != -1]++
			if leave == -1 {
				// There is no journey, not even from the first minute on.
				if arrive := arriveIn(c.atTime(0), to); arrive != -1 && arrive <= c.time {
					t.Errorf("PostLeave to %d is -1, but PostArrive at 0 is %d", to, arrive)
				}
				continue
			}
			if arrive := arriveIn(c.atTime(leave), to); arrive == -1 || arrive > c.time {
				t.Errorf("PostLeave to %d is %d, but PostArrive from there on is %d", to, leave, arrive)
			}
			if leave < impl.TimeMax {
				if arrive := arriveIn(c.atTime(leave+1), to); arrive != -1 && arrive <= c.time {
					t.Errorf("PostLeave to %d is %d, but PostArrive from 1 minute later on is %d", to, leave, arrive)
				}
			}
			for _, later := range []int{c.time + 1, c.time + 20, impl.TimeMax} {
				if more := leaveFor(c.atTime(later), to); later <= impl.TimeMax && more < leave {
					t.Errorf("PostLeave to %d is %d, but up to %d it is %d", to, leave, later, more)
				}
			}
		}
	})
	if number[true] < 20000 || number[false] < 20000 {
		t.Errorf("only %d letters can leave and only %d can not", number[true], number[false])
	}
}

// halfTurns are turns whose half is about a time at which a coach arrives or leaves, or between.
func halfTurns(c coachNet) []int {
	turns := turnsOfNet(c)
	for _, minute := range modelMinutesOf(c.net, 0) {
		turns = append(turns, 2*minute-1, 2*minute, 2*minute+1, 2*minute+2)
	}
	return turns
}

// P82. If PostBack succeeds with a turn from 0 to TimeMax, PostBack of it is the net, and for any two towns PostLeave without a change up to half of the turn, rounded down, is the turn less PostArrive backwards from the other town at the turn less this time, or both are -1.
func TestP82Back(t *testing.T) {
	number := map[bool]int{}
	eachNet(t, func(t *testing.T, c coachNet) {
		for _, turn := range halfTurns(c) {
			back, ok := impl.PostBack(c.n, c.net, turn)
			if !ok || turn < 0 || turn > impl.TimeMax {
				continue
			}
			if again, ok := impl.PostBack(c.n, back, turn); !ok || !netsEqual(again, c.net) {
				t.Errorf("PostBack with %d is %v, but PostBack of it %v and %v", turn, back, again, ok)
			}
			for a := range c.n {
				for b := range c.n {
					leave := impl.PostLeave(c.n, c.net, a, b, turn/2, 0)
					arrive := impl.PostArrive(c.n, back, b, a, turn-turn/2, 0)
					if leave != turn-arrive && (leave != -1 || arrive != -1) || arrive == -1 && leave != -1 {
						t.Errorf("with the turn %d PostLeave from %d to %d is %d, but PostArrive backwards %d", turn, a, b, leave, arrive)
					}
					if a != b {
						number[leave != -1]++
					}
				}
			}
		}
	})
	if number[true] < 10000 || number[false] < 10000 {
		t.Errorf("only %d letters can leave and only %d can not", number[true], number[false])
	}
}

// P83. If PostFewest is not -1, it is 0 exactly for the same town, less than the number of towns, and 1 exactly if some coach stops in the first town in time and behind that in the other one.
func TestP83Fewest(t *testing.T) {
	number := map[int]int{}
	eachLetter(t, func(t *testing.T, c sentLetter) {
		for to := range c.n {
			fewest := fewestTo(c, to)
			if (fewest == -1) != (arriveIn(c, to) == -1) {
				t.Fatalf("PostFewest to %d is %d", to, fewest)
			}
			number[fewest]++
			if fewest == -1 {
				continue
			}
			if fewest < 0 || fewest >= c.n || (fewest == 0) != (to == c.from) {
				t.Errorf("PostFewest to %d is %d", to, fewest)
			}
			direct := slices.ContainsFunc(c.net, func(coach []impl.Stop) bool {
				begin, end := townAt(coach, c.from), townAt(coach, to)
				return begin != -1 && begin < end && coach[begin].Leave >= c.time
			})
			if direct != (fewest == 1) {
				t.Errorf("PostFewest to %d is %d", to, fewest)
			}
		}
	})
	if number[1] < 5000 || number[2] < 1000 || number[3] < 50 {
		t.Errorf("the numbers of letters with so many rides are %v", number)
	}
}

// P84. If PostAdd succeeds, the coach is the last one, and no letter from any town at a time comes later anywhere, or not at all where it came before.
func TestP84Add(t *testing.T) {
	s := &numbers{state: 157}
	added, helped := 0, 0
	eachNet(t, func(t *testing.T, c coachNet) {
		letters := lettersOf(s, c, 3, 3)
		for _, more := range moreCoaches(c) {
			net, ok := impl.PostAdd(c.n, c.net, more)
			if ok != (len(c.net) < 6) {
				t.Fatalf("PostAdd of %v gives %v and %v", more, net, ok)
			}
			if !ok {
				continue
			}
			added++
			if !impl.NetValid(c.n, net) || len(net) != len(c.net)+1 || !netsEqual(net[:len(c.net)], c.net) || !slices.Equal(net[len(c.net)], more) {
				t.Fatalf("PostAdd of %v is %v", more, net)
			}
			for _, l := range letters {
				before, _ := tableOf(l)
				after, ok := tableOf(l.inNet(net))
				noLater(t, "with a further coach", before, after, ok)
				if !slices.Equal(before, after) {
					helped++
				}
			}
		}
	})
	if added < 5000 || helped < 2000 {
		t.Errorf("only %d coaches were added, and only %d letters came earlier", added, helped)
	}
}
