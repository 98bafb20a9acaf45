package tests

import (
	"slices"
	"testing"

	"loop.example/mailcoaches/impl"
)

// The model runs a coach minute by minute by the clock, and tries all starts and latenesses.

// modelStand returns the time at which a coach leaves a stop at which it arrives at a time: it stands there up to its Leave, and for the least stop, or for as long as it was to stand if that is less.
func modelStand(s impl.Stop, least int, time int) int {
	minutes := min(least, s.Leave-s.Arrive)
	for time < s.Leave || minutes > 0 {
		time++
		minutes--
	}
	return time
}

// modelRun returns the times at which a coach arrives and leaves.
func modelRun(c lateCoach) []impl.Stop {
	run := []impl.Stop{}
	for i, s := range c.stops {
		now := impl.Stop{Town: s.Town, Arrive: s.Arrive, Leave: s.Leave + c.start}
		if i > 0 {
			now.Arrive = run[i-1].Leave
			for range s.Arrive - c.stops[i-1].Leave {
				now.Arrive++
			}
			now.Arrive += c.delays[i-1]
			now.Leave = modelStand(s, c.least, now.Arrive)
		}
		run = append(run, now)
	}
	return run
}

// modelLate returns by how much a coach arrives and leaves late.
func modelLate(c lateCoach) ([]int, []int) {
	arrives, leaves := []int{c.start}, []int{c.start}
	for i, now := range modelRun(c)[1:] {
		arrives = append(arrives, now.Arrive-c.stops[i+1].Arrive)
		leaves = append(leaves, now.Leave-c.stops[i+1].Leave)
	}
	return arrives, leaves
}

// modelEnd returns by how much a coach arrives late at the last stop.
func modelEnd(c lateCoach) int {
	arrives, _ := modelLate(c)
	return arrives[len(arrives)-1]
}

// modelSlack returns for each stop the greatest lateness with which a coach that arrives there still leaves it in time, 0 for the first one.
func modelSlack(c lateCoach) []int {
	slacks := []int{0}
	for _, s := range c.stops[1:] {
		late := 0
		for modelStand(s, c.least, s.Arrive+late+1) == s.Leave {
			late++
		}
		slacks = append(slacks, late)
	}
	return slacks
}

// modelFree returns the greatest start with which a coach is not late at the end.
func modelFree(c lateCoach) int {
	start := impl.DelayMax
	for modelEnd(onlyStart(c, start)) > 0 {
		start--
	}
	return start
}

// modelWaits returns the time at which the second coach leaves when it waits minute by minute, and whether those who change are there then.
func modelWaits(c connection) (int, bool) {
	there := c.a[townAt(c.a, c.town)].Arrive + c.late + c.change
	leave := c.b[townAt(c.b, c.town)].Leave
	for waited := range c.most + 1 {
		if there <= leave+waited {
			return leave + waited, true
		}
	}
	return leave, false
}

// modelMostLate returns the greatest lateness with which a connection is made, or -1.
func modelMostLate(c connection) int {
	for late := impl.DelayMax; late >= 0; late-- {
		if _, ok := modelWaits(withLate(c, late)); ok {
			return late
		}
	}
	return -1
}

func TestModelOfLateness(t *testing.T) {
	eachLate(t, func(t *testing.T, c lateCoach) {
		arrives, leaves := modelLate(c)
		got, ok := arriveLate(c)
		numbersDiffer(t, "LateArrive", got, ok, arrives)
		got, ok = leaveLate(c)
		numbersDiffer(t, "LateLeave", got, ok, leaves)
		if got := endLate(c); got != arrives[len(arrives)-1] {
			t.Errorf("LateEnd: got %d, want %d", got, arrives[len(arrives)-1])
		}
		if got := sumLate(c); got != sumOf(arrives) {
			t.Errorf("LateSum: got %d, want %d", got, sumOf(arrives))
		}
	})
}

func TestModelOfSlack(t *testing.T) {
	eachLate(t, func(t *testing.T, c lateCoach) {
		for _, least := range []int{c.least, 0, 1, 7, 299, 300} {
			want := modelSlack(withLeast(c, least))
			got, ok := impl.LateSlack(c.n, c.stops, least)
			numbersDiffer(t, "LateSlack", got, ok, want)
		}
	})
}

func TestModelOfFreeStarts(t *testing.T) {
	number := map[string]int{}
	eachLate(t, func(t *testing.T, c lateCoach) {
		want := modelFree(c)
		if got := impl.LateFree(c.n, c.stops, c.least); got != want {
			t.Errorf("LateFree: got %d, want %d", got, want)
		}
		switch want {
		case 0:
			number["none"]++
		case impl.DelayMax:
			number["all"]++
		default:
			number["some"]++
		}
	})
	if number["none"] < 100 || number["all"] < 10 || number["some"] < 100 {
		t.Errorf("the numbers of coaches with no, with all and with some starts are %v", number)
	}
}

func TestModelOfBlame(t *testing.T) {
	number := map[bool]int{}
	eachLate(t, func(t *testing.T, c lateCoach) {
		for k, delay := range c.delays {
			want := modelEnd(c) - modelEnd(withDelay(c, k, 0))
			if got := blameLate(c, k); got != want {
				t.Errorf("LateBlame of the way %d: got %d, want %d", k, got, want)
			}
			if delay > 0 {
				number[want == delay]++
			}
		}
	})
	if number[true] < 1000 || number[false] < 500 {
		t.Errorf("only %d delays come to the end and only %d do not", number[true], number[false])
	}
}

func TestModelOfLateTimetables(t *testing.T) {
	number := map[bool]int{}
	eachLate(t, func(t *testing.T, c lateCoach) {
		want := modelRun(c)
		fits := want[len(want)-1].Leave <= impl.TimeMax
		if !fits {
			want = nil
		}
		if got, ok := stopsLate(c); ok != fits || !slices.Equal(got, want) {
			t.Errorf("LateStops: got %v and %v, want %v", got, ok, want)
		}
		number[fits]++
	})
	if number[true] < 1000 || number[false] < 50 {
		t.Errorf("only %d coaches run by a timetable and only %d do not", number[true], number[false])
	}
}

func TestModelOfConnections(t *testing.T) {
	number := map[string]int{}
	eachConnection(t, func(t *testing.T, c connection) {
		time, want := modelWaits(c)
		late := time - c.b[townAt(c.b, c.town)].Leave
		if got := made(c); got != want {
			t.Errorf("ConnectMade: got %v", got)
		}
		if got, ok := connectLate(c); !ok || got != late {
			t.Errorf("ConnectLate: got %d and %v, want %d", got, ok, late)
		}
		if got, want := connectMost(c), modelMostLate(c); got != want {
			t.Errorf("ConnectMost: got %d, want %d", got, want)
		}
		switch {
		case !want:
			number["missed"]++
		case late > 0:
			number["waited for"]++
		default:
			number["made"]++
		}
	})
	if number["missed"] < 500 || number["waited for"] < 500 || number["made"] < 500 {
		t.Errorf("the numbers of connections are %v", number)
	}
}
