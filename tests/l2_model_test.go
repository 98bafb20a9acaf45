package tests

import (
	"fmt"
	"slices"
	"strings"
	"testing"

	"loop.example/mailcoaches/impl"
)

// The model counts minute by minute: a clock that is wound on, and a coach that is in a town or on the road at each time.

// onTheRoad is the place of a coach that is in no town.
const onTheRoad = -1

// modelClocks returns the clock of each time, wound on minute by minute.
func modelClocks() []string {
	clocks := []string{}
	hours, minutes := 0, 0
	for range impl.TimeMax + 1 {
		clocks = append(clocks, fmt.Sprintf("%02d.%02d", hours, minutes))
		minutes++
		if minutes == 60 {
			hours, minutes = hours+1, 0
		}
		if hours == 24 {
			hours = 0
		}
	}
	return clocks
}

// modelPlaces returns the town in which a coach is at each time.
func modelPlaces(stops []impl.Stop) []int {
	places := []int{}
	for range impl.TimeMax + 1 {
		places = append(places, onTheRoad)
	}
	for _, s := range stops {
		for time := s.Arrive; time <= s.Leave; time++ {
			places[time] = s.Town
		}
	}
	return places
}

// modelMeet returns the first time at which two coaches are in one town, from the first to the last time at which the first one is under way.
func modelMeet(first int, last int, a []int, b []int) (int, bool) {
	for time := first; time <= last; time++ {
		if a[time] != onTheRoad && a[time] == b[time] {
			return time, true
		}
	}
	return 0, false
}

// modelShift returns all times of a timetable as another number of minutes, and whether they are all times.
func modelShift(stops []impl.Stop, shift func(time int) int) ([]impl.Stop, bool) {
	shifted := []impl.Stop{}
	for _, s := range stops {
		next := impl.Stop{Town: s.Town, Arrive: shift(s.Arrive), Leave: shift(s.Leave)}
		for _, time := range []int{next.Arrive, next.Leave} {
			if time < 0 || time > impl.TimeMax {
				return nil, false
			}
		}
		shifted = append(shifted, next)
	}
	return shifted, true
}

// modelBack returns the timetable of a coach that goes back, and whether all of its times are times.
func modelBack(stops []impl.Stop, turn int) ([]impl.Stop, bool) {
	back, ok := modelShift(stops, func(time int) int { return turn - time })
	slices.Reverse(back)
	for i := range back {
		back[i].Arrive, back[i].Leave = back[i].Leave, back[i].Arrive
	}
	return back, ok
}

// modelText returns the text of a timetable.
func modelText(clocks []string, stops []impl.Stop) string {
	text := ""
	for _, s := range stops {
		text += fmt.Sprintf(" %d:%s-%s", s.Town, clocks[s.Arrive], clocks[s.Leave])
	}
	return strings.TrimPrefix(text, " ")
}

func TestModelOfClocks(t *testing.T) {
	clocks := modelClocks()
	for time, want := range clocks {
		if got := impl.ClockText(time); got != want {
			t.Fatalf("ClockText of %d is %q, want %q", time, got, want)
		}
		if got, ok := impl.ClockFrom(want); !ok || clocks[got] != want || got >= impl.DayMinutes {
			t.Fatalf("ClockFrom of %q gives %d and %v", want, got, ok)
		}
	}
}

// TestModelOfLocalClocks winds a clock on or back from the clock of a time, from no minutes ahead on.
func TestModelOfLocalClocks(t *testing.T) {
	for _, time := range edgeTimes() {
		for _, step := range []int{1, -1} {
			shown, _ := impl.ClockFrom(impl.ClockText(time))
			for minutes := range 721 {
				if got, ok := impl.ClockLocal(time, step*minutes); !ok || got != shown {
					t.Fatalf("ClockLocal of %d, %d ahead, gives %d and %v, want %d", time, step*minutes, got, ok, shown)
				}
				shown += step
				if shown == impl.DayMinutes {
					shown = 0
				}
				if shown < 0 {
					shown = impl.DayMinutes - 1
				}
			}
		}
	}
}

// TestModelOfWaiting winds a clock on from each minute of the day for a whole day.
func TestModelOfWaiting(t *testing.T) {
	for from := range impl.DayMinutes {
		shown := from
		for waited := range impl.DayMinutes {
			if got := impl.ClockUntil(from, shown); got != waited {
				t.Fatalf("ClockUntil from %d to %d is %d, want %d", from, shown, got, waited)
			}
			shown++
			if shown == impl.DayMinutes {
				shown = 0
			}
		}
	}
}

func TestModelOfTables(t *testing.T) {
	clocks := modelClocks()
	eachTable(t, func(t *testing.T, c coachTable) {
		if !impl.StopsValid(c.n, c.stops) {
			t.Fatalf("StopsValid does not hold")
		}
		last := len(c.stops) - 1
		run, wait := 0, 0
		for time := c.stops[0].Leave; time < c.stops[last].Arrive; time++ {
			run++
		}
		for _, s := range c.stops[1:last] {
			wait += s.Leave - s.Arrive
		}
		if got := impl.StopsRun(c.n, c.stops); got != run {
			t.Errorf("StopsRun: got %d, want %d", got, run)
		}
		if got := impl.StopsWait(c.n, c.stops); got != wait {
			t.Errorf("StopsWait: got %d, want %d", got, wait)
		}
		if got, want := impl.StopsText(c.n, c.stops), modelText(clocks, c.stops); got != want {
			t.Errorf("StopsText: got %q, want %q", got, want)
		}
		for town := -2; town < impl.TownsMax+2; town++ {
			want := slices.IndexFunc(c.stops, func(s impl.Stop) bool { return s.Town == town })
			if got := impl.StopsAt(c.n, c.stops, town); got != want {
				t.Errorf("StopsAt %d: got %d, want %d", town, got, want)
			}
		}
	})
}

func TestModelOfPlaces(t *testing.T) {
	eachTable(t, func(t *testing.T, c coachTable) {
		places := modelPlaces(c.stops)
		first, last := c.stops[0].Arrive, c.stops[len(c.stops)-1].Leave
		index := -1
		for time := max(first-3, 0); time <= min(last+3, impl.TimeMax); time++ {
			if index+1 < len(c.stops) && time == c.stops[index+1].Arrive {
				index++
			}
			want, there, ok := max(index, 0), places[time] != onTheRoad, first <= time && time <= last
			if !ok {
				want = 0
			}
			if gotIndex, gotThere, gotOk := impl.StopsWhere(c.n, c.stops, time); gotIndex != want || gotThere != there || gotOk != ok {
				t.Fatalf("StopsWhere at %d: got %d, %v and %v, want %d, %v and %v", time, gotIndex, gotThere, gotOk, want, there, ok)
			}
		}
	})
}

func TestModelOfShifts(t *testing.T) {
	eachTable(t, func(t *testing.T, c coachTable) {
		for _, k := range shiftsOf(c.stops) {
			want, fits := modelShift(c.stops, func(time int) int { return time + k })
			if got, ok := impl.StopsLater(c.n, c.stops, k); ok != fits || !slices.Equal(got, want) {
				t.Errorf("StopsLater by %d: got %v and %v, want %v and %v", k, got, ok, want, fits)
			}
		}
		for _, turn := range turnsOf(c.stops) {
			want, fits := modelBack(c.stops, turn)
			if got, ok := impl.StopsBack(c.n, c.stops, turn); ok != fits || !slices.Equal(got, want) {
				t.Errorf("StopsBack with %d: got %v and %v, want %v and %v", turn, got, ok, want, fits)
			}
		}
	})
}

func TestModelOfParts(t *testing.T) {
	eachTable(t, func(t *testing.T, c coachTable) {
		for from := -2; from < len(c.stops)+2; from++ {
			for to := -2; to < len(c.stops)+2; to++ {
				fits := 0 <= from && from < to && to < len(c.stops)
				want := []impl.Stop{}
				if fits {
					want = c.stops[from : to+1]
				}
				if got, ok := impl.StopsPart(c.n, c.stops, from, to); ok != fits || !slices.Equal(got, want) {
					t.Errorf("StopsPart from %d to %d: got %v and %v, want %v and %v", from, to, got, ok, want, fits)
				}
			}
		}
	})
}

func TestModelOfMeetings(t *testing.T) {
	places := map[string][]int{}
	for _, c := range pairedTables() {
		places[c.name] = modelPlaces(c.stops)
	}
	met := 0
	eachTwoTables(t, func(t *testing.T, n int, a coachTable, b coachTable) {
		want, fits := modelMeet(a.stops[0].Arrive, a.stops[len(a.stops)-1].Leave, places[a.name], places[b.name])
		if fits {
			met++
		}
		if got, ok := impl.StopsMeet(n, a.stops, b.stops); ok != fits || got != want {
			t.Errorf("StopsMeet: got %d and %v, want %d and %v", got, ok, want, fits)
		}
	})
	if met < 500 {
		t.Errorf("only %d pairs of coaches meet", met)
	}
}

// edgeTimes are times around midnights, the first and the last time, and some between.
func edgeTimes() []int {
	times := []int{0, 1, 59, 60, 61, 719, 720, 721, 725, 1200, 4444, 8639, 8640, 9999, impl.TimeMax}
	for midnight := impl.DayMinutes; midnight <= impl.TimeMax; midnight += impl.DayMinutes {
		times = append(times, midnight-721, midnight-720, midnight-719, midnight-60, midnight-1, midnight, midnight+1)
	}
	return times
}

// shiftsOf are the numbers by which a timetable can be later at the limits, just beyond them, and some between.
func shiftsOf(stops []impl.Stop) []int {
	first, last := stops[0].Arrive, stops[len(stops)-1].Leave
	return []int{0, 1, -1, 7, -7, 500, -500, -first, -first - 1, -first + 1, impl.TimeMax - last, impl.TimeMax - last + 1, impl.TimeMax - last - 1, impl.DayMinutes, -impl.DayMinutes, 20000, -20000}
}

// turnsOf are the turns with which a coach that goes back runs at the limits, just beyond them, and some between.
func turnsOf(stops []impl.Stop) []int {
	first, last := stops[0].Arrive, stops[len(stops)-1].Leave
	return []int{0, 1, last - 1, last, last + 1, first + last, 2 * first, 2 * last, impl.TimeMax, impl.TimeMax + first - 1, impl.TimeMax + first, impl.TimeMax + first + 1, -1, 30000}
}
