package tests

import (
	"slices"
	"testing"

	"loop.example/mailcoaches/impl"
)

// P62. If LateArrive succeeds, it begins with the start, each number is LateLeave of the stop ahead plus the delay, and LateLeave is each less LateSlack, but at least 0, and the start for the first one.
func TestP62Arrive(t *testing.T) {
	eachLate(t, func(t *testing.T, c lateCoach) {
		arrives, arrivesOk := arriveLate(c)
		leaves, leavesOk := leaveLate(c)
		slacks, slacksOk := impl.LateSlack(c.n, c.stops, c.least)
		if !arrivesOk || !leavesOk || !slacksOk || len(arrives) != len(c.stops) || len(leaves) != len(c.stops) || len(slacks) != len(c.stops) {
			t.Fatalf("LateArrive gives %v and %v, LateLeave %v and %v, LateSlack %v and %v", arrives, arrivesOk, leaves, leavesOk, slacks, slacksOk)
		}
		if arrives[0] != c.start || leaves[0] != c.start {
			t.Errorf("LateArrive is %v and LateLeave %v", arrives, leaves)
		}
		for i, delay := range c.delays {
			if arrives[i+1] != leaves[i]+delay {
				t.Errorf("LateArrive is %v, but LateLeave %v", arrives, leaves)
			}
			if leaves[i+1] != max(0, arrives[i+1]-slacks[i+1]) {
				t.Errorf("LateLeave is %v, but LateArrive %v and LateSlack %v", leaves, arrives, slacks)
			}
		}
	})
}

// P63. If LateLeave succeeds, each number is at least 0 and at most LateArrive there, and with a least stop that is 1 greater, if it is in range, none is less.
func TestP63Leave(t *testing.T) {
	more := 0
	eachLate(t, func(t *testing.T, c lateCoach) {
		arrives, _ := arriveLate(c)
		leaves, ok := leaveLate(c)
		if !ok || len(leaves) != len(arrives) {
			t.Fatalf("LateLeave gives %v and %v, but LateArrive %v", leaves, ok, arrives)
		}
		for i, late := range leaves {
			if late < 0 || late > arrives[i] {
				t.Errorf("LateLeave is %v, but LateArrive %v", leaves, arrives)
			}
		}
		longer, ok := leaveLate(withLeast(c, c.least+1))
		if ok != (c.least < 300) {
			t.Fatalf("with a least stop of %d LateLeave gives %v and %v", c.least+1, longer, ok)
		}
		for i, late := range longer {
			if late < leaves[i] {
				t.Errorf("LateLeave is %v, but with a least stop that is 1 greater %v", leaves, longer)
			}
			more += late - leaves[i]
		}
	})
	if more < 1000 {
		t.Errorf("longer least stops made the coaches only %d minutes later", more)
	}
}

// P64. If LateEnd is not -1, with any delay 1 greater, if it is in range, it is as great or 1 greater; with the last delay 1 greater it is 1 greater.
func TestP64End(t *testing.T) {
	number := map[int]int{}
	eachLate(t, func(t *testing.T, c lateCoach) {
		end := endLate(c)
		if end < 0 {
			t.Fatalf("LateEnd is %d", end)
		}
		for k, delay := range c.delays {
			later := endLate(withDelay(c, k, delay+1))
			if delay == 300 {
				if later != -1 {
					t.Errorf("with a delay of 301 on the way %d LateEnd is %d", k, later)
				}
				continue
			}
			if later != end && later != end+1 || k == len(c.delays)-1 && later != end+1 {
				t.Errorf("LateEnd is %d, but with the delay on the way %d 1 greater %d", end, k, later)
			}
			number[later-end]++
		}
	})
	if number[0] < 500 || number[1] < 1000 {
		t.Errorf("only %d delays were lost in slack and only %d were not", number[0], number[1])
	}
}

// P65. If LateEnd is not -1, it is at most the start and all delays together, and at least these less all slacks of stops between; it is these without any slack.
func TestP65EndOfAll(t *testing.T) {
	none, some := 0, 0
	eachLate(t, func(t *testing.T, c lateCoach) {
		end := endLate(c)
		all := c.start + sumOf(c.delays)
		slacks, _ := impl.LateSlack(c.n, c.stops, c.least)
		lost := sumOf(slacks[1 : len(slacks)-1])
		if end < 0 || end > all || end < all-lost {
			t.Errorf("LateEnd is %d, start and delays together %d, and the slacks %v", end, all, slacks)
		}
		if lost == 0 {
			none++
		} else if end < all {
			some++
		}
	})
	if none < 300 || some < 300 {
		t.Errorf("only %d coaches have no slack, and only %d lose some lateness", none, some)
	}
}

// P66. If LateSlack succeeds, each is Leave less Arrive less the least stop, or 0, with 0 for the first one, and the sum with a least stop of 0 is StopsWait plus that of the last stop.
func TestP66Slack(t *testing.T) {
	eachLate(t, func(t *testing.T, c lateCoach) {
		for _, least := range []int{c.least, 0, 1, 5, 150, 300} {
			slacks, ok := impl.LateSlack(c.n, c.stops, least)
			if !ok || len(slacks) != len(c.stops) || slacks[0] != 0 {
				t.Fatalf("with a least stop of %d LateSlack gives %v and %v", least, slacks, ok)
			}
			for i, s := range c.stops[1:] {
				if slacks[i+1] != max(0, s.Leave-s.Arrive-least) {
					t.Errorf("with a least stop of %d LateSlack is %v", least, slacks)
				}
			}
		}
		slacks, _ := impl.LateSlack(c.n, c.stops, 0)
		last := c.stops[len(c.stops)-1]
		if wait := impl.StopsWait(c.n, c.stops); sumOf(slacks) != wait+last.Leave-last.Arrive {
			t.Errorf("LateSlack is %v, but StopsWait %d", slacks, wait)
		}
	})
}

// P67. If LateFree is not -1, with it as the start LateEnd without delays is 0, and with 1 more, if it is in range, it is 1.
func TestP67Free(t *testing.T) {
	eachLate(t, func(t *testing.T, c lateCoach) {
		for _, least := range []int{c.least, 0, 1, 5, 150, 300} {
			free := impl.LateFree(c.n, c.stops, least)
			if free < 0 || free > 300 {
				t.Fatalf("with a least stop of %d LateFree is %d", least, free)
			}
			d := withLeast(c, least)
			if end := endLate(onlyStart(d, free)); end != 0 {
				t.Errorf("with a least stop of %d LateFree is %d, but LateEnd with it %d", least, free, end)
			}
			want := 1
			if free == 300 {
				want = -1
			}
			if end := endLate(onlyStart(d, free+1)); end != want {
				t.Errorf("with a least stop of %d LateFree is %d, but LateEnd with 1 more %d", least, free, end)
			}
		}
	})
}

// P68. If LateBlame is not -1, that of each way is from 0 to its delay, for the last way just this, and at most LateEnd.
func TestP68Blame(t *testing.T) {
	eachLate(t, func(t *testing.T, c lateCoach) {
		end := endLate(c)
		for k, delay := range c.delays {
			blame := blameLate(c, k)
			if blame < 0 || blame > delay || blame > end {
				t.Errorf("LateBlame of the way %d is %d, and LateEnd %d", k, blame, end)
			}
			if k == len(c.delays)-1 && blame != delay {
				t.Errorf("LateBlame of the last way is %d", blame)
			}
			if without := endLate(withDelay(c, k, 0)); blame != end-without {
				t.Errorf("LateBlame of the way %d is %d, but LateEnd %d, and %d without the delay", k, blame, end, without)
			}
		}
	})
}

// P69. If LateStops succeeds, it is a timetable with the same towns, its last Arrive is LateEnd later, StopsRun of it is that of the timetable plus LateEnd less the start, and without start and delays it is the timetable.
func TestP69Stops(t *testing.T) {
	made := 0
	eachLate(t, func(t *testing.T, c lateCoach) {
		punctual, ok := stopsLate(onlyStart(c, 0))
		if !ok || !slices.Equal(punctual, c.stops) {
			t.Errorf("without start and delays LateStops gives %v and %v", punctual, ok)
		}
		late, ok := stopsLate(c)
		if !ok {
			return
		}
		made++
		if !impl.StopsValid(c.n, late) || len(late) != len(c.stops) {
			t.Fatalf("LateStops is %v", late)
		}
		for i, s := range late {
			if s.Town != c.stops[i].Town {
				t.Errorf("LateStops is %v", late)
			}
		}
		end, last := endLate(c), len(late)-1
		if late[last].Arrive != c.stops[last].Arrive+end {
			t.Errorf("LateStops is %v, but LateEnd %d", late, end)
		}
		if before, after := impl.StopsRun(c.n, c.stops), impl.StopsRun(c.n, late); after != before+end-c.start {
			t.Errorf("LateStops is %v, of which StopsRun is %d, but that of the timetable %d and LateEnd %d", late, after, before, end)
		}
	})
	if made < 1000 {
		t.Errorf("only %d coaches ran by a timetable", made)
	}
}

// P70. If LateSum is not -1, it is the sum of LateArrive, and with any delay 1 greater, if it is in range, it is greater by at least 1 and at most as many as there are stops behind the way.
func TestP70Sum(t *testing.T) {
	eachLate(t, func(t *testing.T, c lateCoach) {
		sum := sumLate(c)
		if arrives, ok := arriveLate(c); !ok || sum != sumOf(arrives) {
			t.Fatalf("LateSum is %d, but LateArrive gives %v and %v", sum, arrives, ok)
		}
		for k, delay := range c.delays {
			later := sumLate(withDelay(c, k, delay+1))
			if delay == 300 {
				if later != -1 {
					t.Errorf("with a delay of 301 on the way %d LateSum is %d", k, later)
				}
				continue
			}
			if more := later - sum; more < 1 || more > len(c.stops)-1-k {
				t.Errorf("LateSum is %d, but with the delay on the way %d 1 greater %d", sum, k, later)
			}
		}
	})
}

// P71. If ConnectMade holds, it holds with less lateness, with a greater number of minutes that are waited, if it is in range, and ConnectMost is at least the lateness.
func TestP71Made(t *testing.T) {
	number := 0
	eachConnection(t, func(t *testing.T, c connection) {
		if !made(c) {
			return
		}
		number++
		for _, late := range []int{0, c.late / 2, c.late - 1} {
			if late >= 0 && !made(withLate(c, late)) {
				t.Errorf("ConnectMade does not hold with a lateness of %d", late)
			}
		}
		for _, most := range []int{c.most + 1, (c.most + 300) / 2, 300} {
			if most <= 300 && !made(withMost(c, most)) {
				t.Errorf("ConnectMade does not hold with a waiting of %d", most)
			}
		}
		if most := connectMost(c); most < c.late {
			t.Errorf("ConnectMost is %d", most)
		}
	})
	if number < 1000 {
		t.Errorf("only %d connections were made", number)
	}
}

// P72. If ConnectLate succeeds, it is from 0 to the minutes that are waited, it is 0 unless ConnectMade holds, and then the second coach leaves when those who change are there, or at its Leave, whichever is later.
func TestP72Late(t *testing.T) {
	waits := 0
	eachConnection(t, func(t *testing.T, c connection) {
		late, ok := connectLate(c)
		if !ok || late < 0 || late > c.most {
			t.Fatalf("ConnectLate gives %d and %v", late, ok)
		}
		if !made(c) {
			if late != 0 {
				t.Errorf("ConnectLate is %d, but ConnectMade does not hold", late)
			}
			return
		}
		there := c.a[townAt(c.a, c.town)].Arrive + c.late + c.change
		leave := c.b[townAt(c.b, c.town)].Leave
		if leave+late != max(there, leave) {
			t.Errorf("ConnectLate is %d; they are there at %d, and Leave is %d", late, there, leave)
		}
		if late > 0 {
			waits++
		}
	})
	if waits < 500 {
		t.Errorf("only %d coaches waited", waits)
	}
}

// P73. If ConnectMost is not -1, ConnectMade holds with it, and with 1 more, if it is in range, not; with a change that is 1 greater, if it is in range, it is at most as great.
func TestP73Most(t *testing.T) {
	number := map[bool]int{}
	eachConnection(t, func(t *testing.T, c connection) {
		most := connectMost(c)
		if most < -1 || most > 300 {
			t.Fatalf("ConnectMost is %d", most)
		}
		number[most >= 0]++
		if most < 0 {
			if made(withLate(c, 0)) {
				t.Errorf("ConnectMost is %d, but ConnectMade holds without lateness", most)
			}
			return
		}
		if !made(withLate(c, most)) {
			t.Errorf("ConnectMost is %d, but ConnectMade does not hold with it", most)
		}
		if made(withLate(c, most+1)) {
			t.Errorf("ConnectMost is %d, but ConnectMade holds with 1 more", most)
		}
		if other := connectMost(withChange(c, c.change+1)); other > most {
			t.Errorf("ConnectMost is %d, but with a change that is 1 greater %d", most, other)
		}
	})
	if number[true] < 1000 || number[false] < 300 {
		t.Errorf("only %d connections can be made and only %d can not", number[true], number[false])
	}
}
