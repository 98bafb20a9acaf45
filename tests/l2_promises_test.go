package tests

import (
	"slices"
	"strings"
	"testing"

	"loop.example/mailcoaches/impl"
)

// P13. If ClockText is not empty, ClockFrom of it is the rest of the time by DayMinutes, it has five bytes, and a day later, if this is a time, it is the same.
func TestP13ClockText(t *testing.T) {
	for time := -2000; time <= impl.TimeMax+2000; time++ {
		text := impl.ClockText(time)
		if isTime := 0 <= time && time <= impl.TimeMax; (text != "") != isTime {
			t.Fatalf("ClockText of %d is %q", time, text)
		}
		if text == "" {
			continue
		}
		if got, ok := impl.ClockFrom(text); !ok || got != time%impl.DayMinutes || len(text) != 5 {
			t.Fatalf("ClockText of %d is %q, and ClockFrom of it gives %d and %v", time, text, got, ok)
		}
		if later := time + impl.DayMinutes; later <= impl.TimeMax && impl.ClockText(later) != text {
			t.Fatalf("ClockText of %d is %q, but a day later %q", time, text, impl.ClockText(later))
		}
	}
}

// P14. If ClockFrom succeeds, it is from 0 to DayMinutes - 1, ClockText of it is the text, and it fails with a further digit.
func TestP14ClockFrom(t *testing.T) {
	fits := 0
	for _, s := range clockLikeTexts() {
		minute, ok := impl.ClockFrom(s)
		if !ok {
			if minute != 0 {
				t.Fatalf("ClockFrom of %q fails with %d", s, minute)
			}
			continue
		}
		fits++
		if minute < 0 || minute >= impl.DayMinutes || impl.ClockText(minute) != s {
			t.Fatalf("ClockFrom of %q is %d, but ClockText of it %q", s, minute, impl.ClockText(minute))
		}
		for _, digit := range strings.Split("0123456789", "") {
			for at := range len(s) + 1 {
				if got, ok := impl.ClockFrom(s[:at] + digit + s[at:]); ok || got != 0 {
					t.Fatalf("ClockFrom of %q gives %d and %v", s[:at]+digit+s[at:], got, ok)
				}
			}
		}
	}
	if fits != impl.DayMinutes {
		t.Errorf("there are %d clocks", fits)
	}
}

// clockLikeTexts are all texts of two digits, a point and two digits, and those that are as long with one other byte.
func clockLikeTexts() []string {
	texts := []string{}
	for number := range 10000 {
		digits := []byte{byte('0' + number/1000), byte('0' + number/100%10), '.', byte('0' + number/10%10), byte('0' + number%10)}
		texts = append(texts, string(digits))
	}
	for _, s := range []string{"00.00", "07.05", "12.34", "23.59"} {
		for at := range len(s) {
			for b := range 256 {
				if b < '0' && b != '.' || b > '9' || b == '.' && at != 2 {
					texts = append(texts, s[:at]+string([]byte{byte(b)})+s[at+1:])
				}
			}
		}
	}
	return texts
}

// P15. If ClockLocal succeeds, ClockUntil from the clock of the time to it is the minutes ahead, from 0 on, and a minute later, if this is a time, it is a minute later.
func TestP15ClockLocal(t *testing.T) {
	times := edgeTimes()
	for time := 0; time <= impl.TimeMax; time += 37 {
		times = append(times, time)
	}
	for _, time := range times {
		for ahead := -720; ahead <= 720; ahead++ {
			local, ok := impl.ClockLocal(time, ahead)
			if !ok {
				t.Fatalf("ClockLocal of %d, %d ahead, fails", time, ahead)
			}
			want := ahead
			if want < 0 {
				want += impl.DayMinutes
			}
			shown, _ := impl.ClockFrom(impl.ClockText(time))
			if got := impl.ClockUntil(shown, local); got != want {
				t.Fatalf("ClockLocal of %d, %d ahead, is %d, which is %d minutes later", time, ahead, local, got)
			}
			next, ok := impl.ClockLocal(time+1, ahead)
			if ok != (time < impl.TimeMax) || ok && impl.ClockUntil(local, next) != 1 {
				t.Fatalf("ClockLocal of %d, %d ahead, is %d, but a minute later %d and %v", time, ahead, local, next, ok)
			}
		}
	}
}

// P16. If ClockUntil is not -1, it and that of both exchanged are a day together, or 0 for equal clocks, and over any third clock it is the same, or a day more.
func TestP16ClockUntil(t *testing.T) {
	thirds := []int{0, 1, 59, 60, 719, 720, 721, 1000, 1380, 1438, 1439}
	for from := range impl.DayMinutes {
		for to := range impl.DayMinutes {
			until, back := impl.ClockUntil(from, to), impl.ClockUntil(to, from)
			together := impl.DayMinutes
			if from == to {
				together = 0
			}
			if until < 0 || back < 0 || until+back != together {
				t.Fatalf("ClockUntil from %d to %d is %d, but back %d", from, to, until, back)
			}
			for _, third := range thirds {
				over := impl.ClockUntil(from, third) + impl.ClockUntil(third, to)
				if over != until && over != until+impl.DayMinutes {
					t.Fatalf("ClockUntil from %d to %d is %d, but over %d %d", from, to, until, third, over)
				}
			}
		}
	}
}

// P17. If StopsRun is not -1, it is StopsWait plus the minutes between all stops that follow each other, and at least the number of these.
func TestP17Run(t *testing.T) {
	eachTable(t, func(t *testing.T, c coachTable) {
		between := 0
		for i := 1; i < len(c.stops); i++ {
			between += c.stops[i].Arrive - c.stops[i-1].Leave
		}
		run, wait := impl.StopsRun(c.n, c.stops), impl.StopsWait(c.n, c.stops)
		if wait < 0 || run != wait+between || run < len(c.stops)-1 {
			t.Errorf("StopsRun is %d, but StopsWait %d, and there are %d minutes between the stops", run, wait, between)
		}
	})
}

// P18. If StopsWait is not -1, it is that of the first stops and of the others, which have one stop in common, and its wait.
func TestP18Wait(t *testing.T) {
	eachTable(t, func(t *testing.T, c coachTable) {
		wait := impl.StopsWait(c.n, c.stops)
		if len(c.stops) == 2 && wait != 0 {
			t.Errorf("StopsWait of two stops is %d", wait)
		}
		for k := 1; k < len(c.stops)-1; k++ {
			begin, end := impl.StopsWait(c.n, c.stops[:k+1]), impl.StopsWait(c.n, c.stops[k:])
			if common := c.stops[k].Leave - c.stops[k].Arrive; wait != begin+end+common {
				t.Errorf("StopsWait is %d, but up to the stop %d %d, from there on %d, and there %d", wait, k, begin, end, common)
			}
		}
	})
}

// P19. If StopsLater succeeds, StopsLater by the opposite leads back, and StopsRun and StopsWait are the same.
func TestP19Later(t *testing.T) {
	eachTable(t, func(t *testing.T, c coachTable) {
		done := 0
		for _, k := range shiftsOf(c.stops) {
			later, ok := impl.StopsLater(c.n, c.stops, k)
			if !ok {
				continue
			}
			done++
			if back, ok := impl.StopsLater(c.n, later, -k); !ok || !slices.Equal(back, c.stops) {
				t.Errorf("StopsLater by %d gives %v, and by %d %v and %v", k, later, -k, back, ok)
			}
			checkSameLengths(t, c, later)
		}
		if done < 3 {
			t.Errorf("only %d of all StopsLater succeed", done)
		}
	})
}

// checkSameLengths checks that StopsRun and StopsWait of a result are those of the timetable.
func checkSameLengths(t *testing.T, c coachTable, result []impl.Stop) {
	t.Helper()
	run, wait := impl.StopsRun(c.n, c.stops), impl.StopsWait(c.n, c.stops)
	if got := impl.StopsRun(c.n, result); got != run {
		t.Errorf("StopsRun is %d, but of %v %d", run, result, got)
	}
	if got := impl.StopsWait(c.n, result); got != wait {
		t.Errorf("StopsWait is %d, but of %v %d", wait, result, got)
	}
}

// P20. If StopsBack succeeds, StopsBack of it is the timetable, StopsRun and StopsWait are the same, and if for a stop twice its Arrive is at most the turn and twice its Leave at least the turn, both coaches meet.
func TestP20Back(t *testing.T) {
	met := 0
	eachTable(t, func(t *testing.T, c coachTable) {
		done := 0
		for _, turn := range append(turnsOf(c.stops), meetingTurns(c.stops)...) {
			back, ok := impl.StopsBack(c.n, c.stops, turn)
			if !ok {
				continue
			}
			done++
			if again, ok := impl.StopsBack(c.n, back, turn); !ok || !slices.Equal(again, c.stops) {
				t.Errorf("StopsBack with %d gives %v, and of this %v and %v", turn, back, again, ok)
			}
			checkSameLengths(t, c, back)
			if !stopsAtTurn(c.stops, turn) {
				continue
			}
			met++
			if _, ok := impl.StopsMeet(c.n, c.stops, back); !ok {
				t.Errorf("StopsBack with %d gives %v, which does not meet", turn, back)
			}
		}
		if done < 3 {
			t.Errorf("only %d of all StopsBack succeed", done)
		}
	})
	if met < 1000 {
		t.Errorf("only %d coaches stand at half of the turn", met)
	}
}

// meetingTurns are turns around twice the times of a stop.
func meetingTurns(stops []impl.Stop) []int {
	turns := []int{}
	for _, s := range stops {
		turns = append(turns, 2*s.Arrive-1, 2*s.Arrive, s.Arrive+s.Leave, 2*s.Leave, 2*s.Leave+1)
	}
	return turns
}

// stopsAtTurn reports whether a coach stands in a town at half of a turn.
func stopsAtTurn(stops []impl.Stop, turn int) bool {
	return slices.ContainsFunc(stops, func(s impl.Stop) bool { return 2*s.Arrive <= turn && turn <= 2*s.Leave })
}

// P21. If StopsAt is not -1, the stop is in the town, that of StopsBack is counted from the end, and at its Arrive the coach is there.
func TestP21At(t *testing.T) {
	eachTable(t, func(t *testing.T, c coachTable) {
		turn := c.stops[0].Arrive + c.stops[len(c.stops)-1].Leave
		back, ok := impl.StopsBack(c.n, c.stops, turn)
		if !ok {
			t.Fatalf("StopsBack with %d fails", turn)
		}
		found := 0
		for town := range impl.TownsMax {
			k := impl.StopsAt(c.n, c.stops, town)
			if k == -1 {
				continue
			}
			found++
			if k < 0 || k >= len(c.stops) || c.stops[k].Town != town {
				t.Fatalf("StopsAt %d is %d", town, k)
			}
			if fromEnd := impl.StopsAt(c.n, back, town); fromEnd != len(c.stops)-1-k {
				t.Errorf("StopsAt %d is %d, but back %d", town, k, fromEnd)
			}
			if at, there, ok := impl.StopsWhere(c.n, c.stops, c.stops[k].Arrive); at != k || !there || !ok {
				t.Errorf("StopsAt %d is %d, but StopsWhere at its Arrive gives %d, %v and %v", town, k, at, there, ok)
			}
		}
		if found != len(c.stops) {
			t.Errorf("StopsAt finds %d stops", found)
		}
	})
}

// P22. If StopsPart succeeds, it has the stops between, StopsRun of it is the time between both stops, and parts of it are parts of the timetable.
func TestP22Part(t *testing.T) {
	eachTable(t, func(t *testing.T, c coachTable) {
		done := 0
		for to := range c.stops {
			for from := range c.stops {
				part, ok := impl.StopsPart(c.n, c.stops, from, to)
				if !ok {
					continue
				}
				done++
				if !slices.Equal(part, c.stops[from:to+1]) {
					t.Fatalf("StopsPart from %d to %d is %v", from, to, part)
				}
				if run, want := impl.StopsRun(c.n, part), c.stops[to].Arrive-c.stops[from].Leave; run != want {
					t.Errorf("StopsRun from %d to %d is %d, want %d", from, to, run, want)
				}
				checkParts(t, c, part, from)
			}
		}
		if want := len(c.stops) * (len(c.stops) - 1) / 2; done != want {
			t.Errorf("%d of all StopsPart succeed, want %d", done, want)
		}
	})
}

// checkParts checks that all parts of a part, which begins at an index, are those of the timetable.
func checkParts(t *testing.T, c coachTable, part []impl.Stop, begin int) {
	t.Helper()
	for from := range part {
		for to := range part {
			got, ok := impl.StopsPart(c.n, part, from, to)
			want, fits := impl.StopsPart(c.n, c.stops, begin+from, begin+to)
			if ok != fits || !slices.Equal(got, want) {
				t.Errorf("StopsPart of %v from %d to %d is %v and %v, want %v and %v", part, from, to, got, ok, want, fits)
			}
		}
	}
}

// P23. If StopsWhere succeeds, the coach has come there at the time and not yet to the next stop; it is there exactly if it has not left.
func TestP23Where(t *testing.T) {
	eachTable(t, func(t *testing.T, c coachTable) {
		last := len(c.stops) - 1
		for _, time := range timesOf(c.stops) {
			k, there, ok := impl.StopsWhere(c.n, c.stops, time)
			if ok != (c.stops[0].Arrive <= time && time <= c.stops[last].Leave) {
				t.Fatalf("StopsWhere at %d: %v", time, ok)
			}
			if !ok {
				continue
			}
			if k < 0 || k > last || c.stops[k].Arrive > time || k < last && c.stops[k+1].Arrive <= time {
				t.Fatalf("StopsWhere at %d is %d", time, k)
			}
			if left := time > c.stops[k].Leave; there == left {
				t.Errorf("StopsWhere at %d is %d and %v", time, k, there)
			}
		}
	})
}

// timesOf are the times of all stops and those just ahead of them and behind them.
func timesOf(stops []impl.Stop) []int {
	times := []int{}
	for _, s := range stops {
		for _, time := range []int{s.Arrive, (s.Arrive + s.Leave) / 2, s.Leave} {
			times = append(times, time-1, time, time+1)
		}
	}
	return times
}

// P24. If StopsMeet succeeds, it is the same for both exchanged, both are in one town then, and both as much later, if they can be, meet as much later.
func TestP24Meet(t *testing.T) {
	eachTwoTables(t, func(t *testing.T, n int, a coachTable, b coachTable) {
		time, ok := impl.StopsMeet(n, a.stops, b.stops)
		if back, backOk := impl.StopsMeet(n, b.stops, a.stops); backOk != ok || back != time {
			t.Errorf("StopsMeet gives %d and %v, but exchanged %d and %v", time, ok, back, backOk)
		}
		if !ok {
			return
		}
		inA, thereA, okA := impl.StopsWhere(n, a.stops, time)
		inB, thereB, okB := impl.StopsWhere(n, b.stops, time)
		if !okA || !okB || !thereA || !thereB || a.stops[inA].Town != b.stops[inB].Town {
			t.Fatalf("StopsMeet is %d, but they are at %d and %d then, there: %v and %v", time, inA, inB, thereA, thereB)
		}
		for _, k := range []int{1, -1, 360, impl.DayMinutes, -impl.DayMinutes} {
			laterA, okA := impl.StopsLater(n, a.stops, k)
			laterB, okB := impl.StopsLater(n, b.stops, k)
			if !okA || !okB {
				continue
			}
			if later, ok := impl.StopsMeet(n, laterA, laterB); !ok || later != time+k {
				t.Errorf("StopsMeet is %d, but with both later by %d it gives %d and %v", time, k, later, ok)
			}
		}
	})
}

// P25. If StopsText is not empty, it has a space less than there are stops, and it is the same a day later, if this is a timetable.
func TestP25Text(t *testing.T) {
	again := 0
	eachTable(t, func(t *testing.T, c coachTable) {
		text := impl.StopsText(c.n, c.stops)
		if text == "" || strings.Count(text, " ") != len(c.stops)-1 {
			t.Errorf("StopsText is %q", text)
		}
		later, ok := impl.StopsLater(c.n, c.stops, impl.DayMinutes)
		if !ok {
			return
		}
		again++
		if got := impl.StopsText(c.n, later); got != text {
			t.Errorf("StopsText is %q, but a day later %q", text, got)
		}
	})
	if again < 100 {
		t.Errorf("only %d timetables are timetables a day later", again)
	}
}
