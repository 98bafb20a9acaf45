package tests

import (
	"math"
	"slices"
	"strings"
	"testing"

	"loop.example/mailcoaches/impl"
)

func TestConstantsOfStops(t *testing.T) {
	if impl.DayMinutes != 1440 || impl.TimeMax != 10000 || impl.StopsMax != 8 {
		t.Errorf("DayMinutes, TimeMax and StopsMax are %d, %d and %d", impl.DayMinutes, impl.TimeMax, impl.StopsMax)
	}
}

func TestClocksOfTimes(t *testing.T) {
	for _, c := range []struct {
		time int
		text string
	}{
		{0, "00.00"}, {1, "00.01"}, {59, "00.59"}, {60, "01.00"}, {425, "07.05"}, {719, "11.59"}, {720, "12.00"}, {1199, "19.59"}, {1200, "20.00"}, {1439, "23.59"},
		{1440, "00.00"}, {1441, "00.01"}, {2879, "23.59"}, {2880, "00.00"}, {8639, "23.59"}, {8640, "00.00"}, {9999, "22.39"}, {impl.TimeMax, "22.40"},
	} {
		if got := impl.ClockText(c.time); got != c.text {
			t.Errorf("ClockText of %d is %q, want %q", c.time, got, c.text)
		}
	}
	for _, none := range append(farNumbers(), -1, -1440, impl.TimeMax+1, impl.TimeMax+impl.DayMinutes) {
		if got := impl.ClockText(none); got != "" {
			t.Errorf("ClockText of %d is %q", none, got)
		}
	}
}

func TestTextsThatAreNoClocks(t *testing.T) {
	for _, s := range []string{
		"", ".", "0", "00", "00.", ".00", "00.0", "0.00", "7.05", "07.5", "0000", "00000", "00.000", "000.00", "007.05", "07.05.", ".07.05", "07.05 ", " 07.05", " 7.05", "07. 5", "07 05",
		"24.00", "24.01", "25.00", "29.59", "30.00", "99.99", "23.60", "00.60", "00.99", "12.72", "24.60", "07:05", "07,05", "07-05", "0705.", ".0705", "0.705", "070.5",
		"+7.05", "-7.05", "07.+5", "07.-5", "-0.00", "00.-0", "0x.05", "a7.05", "07.0a", "07/05", "/0.00", ":0.00", "0/.00", "0:.00", "00./0", "00.:0", "00.0/", "00.0:",
		"07.05\n", "07.05\x00", "\x0007.05", "07\x0005", "07\xff05", "\xff\xff.\xff\xff", "٠٧.٠٥", "٠.٠", "07·5", "07.٠", "０7.5", "0７", "07.05 07.05", strings.Repeat("0", 1000),
	} {
		if got, ok := impl.ClockFrom(s); ok || got != 0 {
			t.Errorf("ClockFrom of %q gives %d and %v", s, got, ok)
		}
	}
	for s, want := range map[string]int{"00.00": 0, "00.01": 1, "00.59": 59, "01.00": 60, "07.05": 425, "09.09": 549, "10.10": 610, "12.00": 720, "19.59": 1199, "20.00": 1200, "23.00": 1380, "23.59": 1439} {
		if got, ok := impl.ClockFrom(s); !ok || got != want {
			t.Errorf("ClockFrom of %q gives %d and %v, want %d", s, got, ok, want)
		}
	}
}

func TestLocalClocksAtLimits(t *testing.T) {
	for _, c := range []struct{ time, ahead, shown int }{
		{0, 0, 0}, {0, 1, 1}, {0, -1, 1439}, {0, 720, 720}, {0, -720, 720}, {1, -2, 1439}, {5, -20, 1425}, {719, -720, 1439}, {720, -720, 0}, {721, -720, 1}, {719, 720, 1439}, {720, 720, 0}, {721, 720, 1},
		{1439, 0, 1439}, {1439, 1, 0}, {1439, 720, 719}, {1439, -720, 719}, {1440, 0, 0}, {1440, -1, 1439}, {1440, 720, 720}, {2000, 720, 1280}, {2000, -720, 1280}, {2159, 720, 1439}, {2160, 720, 0}, {2160, -720, 0},
		{8640, -1, 1439}, {impl.TimeMax, 0, 1360}, {impl.TimeMax, 80, 0}, {impl.TimeMax, 79, 1439}, {impl.TimeMax, 720, 640}, {impl.TimeMax, -720, 640},
	} {
		if got, ok := impl.ClockLocal(c.time, c.ahead); !ok || got != c.shown {
			t.Errorf("ClockLocal of %d, %d ahead, gives %d and %v, want %d", c.time, c.ahead, got, ok, c.shown)
		}
	}
	for _, none := range append(farNumbers(), -1, impl.TimeMax+1) {
		for _, ahead := range []int{0, 1, 720, -720, none} {
			if got, ok := impl.ClockLocal(none, ahead); ok || got != 0 {
				t.Errorf("ClockLocal of %d, %d ahead, gives %d and %v", none, ahead, got, ok)
			}
		}
	}
	for _, far := range append(farNumbers(), 721, -721, 1440, -1440) {
		for _, time := range []int{0, 1, 719, 720, 1440, impl.TimeMax} {
			if got, ok := impl.ClockLocal(time, far); ok || got != 0 {
				t.Errorf("ClockLocal of %d, %d ahead, gives %d and %v", time, far, got, ok)
			}
		}
	}
}

func TestWaitingForClocks(t *testing.T) {
	for _, c := range []struct{ from, to, until int }{
		{0, 0, 0}, {1439, 1439, 0}, {700, 700, 0}, {0, 1, 1}, {1, 0, 1439}, {0, 1439, 1439}, {1439, 0, 1}, {1439, 10, 11}, {1439, 1438, 1439}, {1438, 1439, 1}, {720, 0, 720}, {0, 720, 720}, {721, 0, 719}, {600, 660, 60},
	} {
		if got := impl.ClockUntil(c.from, c.to); got != c.until {
			t.Errorf("ClockUntil from %d to %d is %d, want %d", c.from, c.to, got, c.until)
		}
	}
	for _, none := range append(farNumbers(), -1, -1440, 1440, 1441, 2880, impl.TimeMax) {
		for _, minute := range []int{0, 1, 720, 1439, none} {
			if impl.ClockUntil(none, minute) != -1 || impl.ClockUntil(minute, none) != -1 {
				t.Errorf("ClockUntil from %d to %d is %d, and back %d", none, minute, impl.ClockUntil(none, minute), impl.ClockUntil(minute, none))
			}
		}
	}
}

func TestNoTimetables(t *testing.T) {
	for _, c := range noTables() {
		if impl.StopsValid(c.n, c.stops) {
			t.Errorf("%s: StopsValid holds", c.name)
		}
		if run, wait := impl.StopsRun(c.n, c.stops), impl.StopsWait(c.n, c.stops); run != -1 || wait != -1 {
			t.Errorf("%s: StopsRun is %d and StopsWait %d", c.name, run, wait)
		}
		if text := impl.StopsText(c.n, c.stops); text != "" {
			t.Errorf("%s: StopsText is %q", c.name, text)
		}
		for _, k := range append(farNumbers(), 0, 1, -1, 100, -100, 1000) {
			checkNoTimetable(t, c, k)
		}
	}
}

// checkNoTimetable checks what is returned for a number if the list is no timetable.
func checkNoTimetable(t *testing.T, c coachTable, k int) {
	t.Helper()
	if got, ok := impl.StopsLater(c.n, c.stops, k); ok || len(got) > 0 {
		t.Errorf("%s: StopsLater by %d gives %v and %v", c.name, k, got, ok)
	}
	if got, ok := impl.StopsBack(c.n, c.stops, k); ok || len(got) > 0 {
		t.Errorf("%s: StopsBack with %d gives %v and %v", c.name, k, got, ok)
	}
	if got := impl.StopsAt(c.n, c.stops, k); got != -1 {
		t.Errorf("%s: StopsAt %d is %d", c.name, k, got)
	}
	for _, to := range []int{0, 1, 2, k} {
		if got, ok := impl.StopsPart(c.n, c.stops, k, to); ok || len(got) > 0 {
			t.Errorf("%s: StopsPart from %d to %d gives %v and %v", c.name, k, to, got, ok)
		}
	}
	if got, there, ok := impl.StopsWhere(c.n, c.stops, k); got != 0 || there || ok {
		t.Errorf("%s: StopsWhere at %d gives %d, %v and %v", c.name, k, got, there, ok)
	}
	two := []impl.Stop{{Town: 0, Arrive: 90, Leave: 210}, {Town: 1, Arrive: 211, Leave: 220}}
	for _, pair := range [][2][]impl.Stop{{c.stops, two}, {two, c.stops}, {c.stops, c.stops}} {
		if got, ok := impl.StopsMeet(c.n, pair[0], pair[1]); ok || got != 0 {
			t.Errorf("%s: StopsMeet gives %d and %v", c.name, got, ok)
		}
	}
}

func TestNumberOfTowns(t *testing.T) {
	two := []impl.Stop{{Town: 1, Arrive: 0, Leave: 0}, {Town: 0, Arrive: 1, Leave: 1}}
	for n := -2; n <= impl.TownsMax+2; n++ {
		if got, want := impl.StopsValid(n, two), 2 <= n && n <= 8; got != want {
			t.Errorf("StopsValid of %d towns is %v", n, got)
		}
		if got, want := impl.StopsValid(n, fullStops()), n == 8; got != want {
			t.Errorf("StopsValid of all towns, of which there are %d, is %v", n, got)
		}
	}
}

func TestNumberOfStops(t *testing.T) {
	full := fullStops()
	for many := range len(full) + 1 {
		if got := impl.StopsValid(8, full[:many]); got != (many >= 2) {
			t.Errorf("StopsValid of %d stops is %v", many, got)
		}
	}
	if full[7].Leave != impl.TimeMax || impl.StopsRun(8, full) != 9996 || impl.StopsWait(8, full) != 18 {
		t.Errorf("StopsRun and StopsWait of as many stops as can be are %d and %d", impl.StopsRun(8, full), impl.StopsWait(8, full))
	}
	if got, want := impl.StopsText(8, full), "7:00.00-00.00 6:23.48-23.49 5:23.36-23.38 4:23.24-23.27 3:23.12-23.16 2:23.00-23.04 1:22.48-22.52 0:22.36-22.40"; got != want {
		t.Errorf("StopsText of as many stops as can be is %q", got)
	}
}

func TestOverMidnight(t *testing.T) {
	night := nightStops()
	if impl.StopsRun(4, night) != 1431 || impl.StopsWait(4, night) != 5 {
		t.Errorf("StopsRun and StopsWait over midnight are %d and %d", impl.StopsRun(4, night), impl.StopsWait(4, night))
	}
	if got := impl.StopsText(4, night); got != "1:23.00-23.59 0:00.00-00.00 2:01.00-01.05 3:23.50-00.10" {
		t.Errorf("StopsText over midnight is %q", got)
	}
	early, ok := impl.StopsLater(4, night, -impl.DayMinutes+60)
	if !ok || impl.StopsText(4, early) != "1:00.00-00.59 0:01.00-01.00 2:02.00-02.05 3:00.50-01.10" {
		t.Errorf("StopsLater by a day less an hour gives %v and %v", early, ok)
	}
	if _, ok := impl.StopsLater(4, night, -impl.DayMinutes); ok {
		t.Errorf("StopsLater to a time ahead of the first midnight succeeds")
	}
	back, ok := impl.StopsBack(4, night, 2*impl.DayMinutes+1440)
	if !ok || impl.StopsText(4, back) != "3:23.50-00.10 2:22.55-23.00 0:00.00-00.00 1:00.01-01.00" {
		t.Errorf("StopsBack over midnight gives %v and %v", back, ok)
	}
	// The same clocks on two days are different times.
	nextDay, _ := impl.StopsLater(4, night, 2*impl.DayMinutes)
	if time, ok := impl.StopsMeet(4, night, nextDay); ok || time != 0 {
		t.Errorf("StopsMeet of two coaches at the same clocks of different days gives %d and %v", time, ok)
	}
}

func TestPlacesAtLimits(t *testing.T) {
	night := nightStops()
	for _, c := range []struct {
		time, index int
		there, ok   bool
	}{
		{-1, 0, false, false}, {0, 0, false, false}, {1379, 0, false, false}, {1380, 0, true, true}, {1381, 0, true, true}, {1439, 0, true, true},
		{1440, 1, true, true}, {1441, 1, false, true}, {1499, 1, false, true}, {1500, 2, true, true}, {1505, 2, true, true}, {1506, 2, false, true}, {2869, 2, false, true},
		{2870, 3, true, true}, {2880, 3, true, true}, {2890, 3, true, true}, {2891, 0, false, false}, {impl.TimeMax, 0, false, false}, {impl.TimeMax + 1, 0, false, false},
	} {
		if index, there, ok := impl.StopsWhere(4, night, c.time); index != c.index || there != c.there || ok != c.ok {
			t.Errorf("StopsWhere at %d gives %d, %v and %v", c.time, index, there, ok)
		}
	}
	whole := []impl.Stop{{Town: 1, Arrive: 0, Leave: 0}, {Town: 0, Arrive: impl.TimeMax, Leave: impl.TimeMax}}
	for _, none := range append(farNumbers(), -1, impl.TimeMax+1) {
		if index, there, ok := impl.StopsWhere(2, whole, none); index != 0 || there || ok {
			t.Errorf("StopsWhere at %d gives %d, %v and %v", none, index, there, ok)
		}
	}
	for time, want := range map[int]int{0: 0, 1: 0, impl.TimeMax - 1: 0, impl.TimeMax: 1} {
		if index, there, ok := impl.StopsWhere(2, whole, time); !ok || index != want || there != (time == 0 || time == impl.TimeMax) {
			t.Errorf("StopsWhere at %d gives %d, %v and %v", time, index, there, ok)
		}
	}
}

func TestShiftsAtLimits(t *testing.T) {
	plain := plainStops()
	for _, k := range []int{0, 1, -1, -400, impl.TimeMax - 630} {
		later, ok := impl.StopsLater(3, plain, k)
		if !ok || later[0].Arrive != 400+k || later[2].Leave != 630+k || later[1] != (impl.Stop{Town: 0, Arrive: 480 + k, Leave: 490 + k}) {
			t.Errorf("StopsLater by %d gives %v and %v", k, later, ok)
		}
	}
	for _, k := range append(farNumbers(), -401, -500, -630, impl.TimeMax-629, impl.TimeMax-400, impl.TimeMax) {
		if later, ok := impl.StopsLater(3, plain, k); ok || len(later) > 0 {
			t.Errorf("StopsLater by %d gives %v and %v", k, later, ok)
		}
	}
	whole := []impl.Stop{{Town: 1, Arrive: 0, Leave: 0}, {Town: 0, Arrive: impl.TimeMax, Leave: impl.TimeMax}}
	for _, k := range append(farNumbers(), 1, -1, math.MinInt+impl.TimeMax+1) {
		if later, ok := impl.StopsLater(2, whole, k); ok || len(later) > 0 {
			t.Errorf("StopsLater by %d gives %v and %v", k, later, ok)
		}
	}
}

func TestTurnsAtLimits(t *testing.T) {
	plain := plainStops()
	for _, turn := range []int{630, 631, 1000, impl.TimeMax, impl.TimeMax + 400} {
		want := []impl.Stop{{Town: 1, Arrive: turn - 630, Leave: turn - 600}, {Town: 0, Arrive: turn - 490, Leave: turn - 480}, {Town: 2, Arrive: turn - 420, Leave: turn - 400}}
		if back, ok := impl.StopsBack(3, plain, turn); !ok || !slices.Equal(back, want) {
			t.Errorf("StopsBack with %d gives %v and %v", turn, back, ok)
		}
	}
	for _, turn := range append(farNumbers(), -1, 0, 400, 629, impl.TimeMax+401, impl.TimeMax+630, 2*impl.TimeMax) {
		if back, ok := impl.StopsBack(3, plain, turn); ok || len(back) > 0 {
			t.Errorf("StopsBack with %d gives %v and %v", turn, back, ok)
		}
	}
	late := []impl.Stop{{Town: 0, Arrive: impl.TimeMax - 1, Leave: impl.TimeMax - 1}, {Town: 1, Arrive: impl.TimeMax, Leave: impl.TimeMax}}
	for turn, want := range map[int]int{impl.TimeMax: 0, 2*impl.TimeMax - 1: impl.TimeMax - 1} {
		if back, ok := impl.StopsBack(2, late, turn); !ok || back[0] != (impl.Stop{Town: 1, Arrive: want, Leave: want}) {
			t.Errorf("StopsBack of the last minutes with %d gives %v and %v", turn, back, ok)
		}
	}
	for _, turn := range []int{impl.TimeMax - 1, 2 * impl.TimeMax} {
		if back, ok := impl.StopsBack(2, late, turn); ok || len(back) > 0 {
			t.Errorf("StopsBack of the last minutes with %d gives %v and %v", turn, back, ok)
		}
	}
}

func TestTownsWithoutStop(t *testing.T) {
	plain := plainStops()
	for town, want := range map[int]int{0: 1, 1: 2, 2: 0} {
		if got := impl.StopsAt(8, plain, town); got != want {
			t.Errorf("StopsAt %d is %d, want %d", town, got, want)
		}
	}
	for _, town := range append(farNumbers(), -1, -2, 3, 7, 8, 400, 480) {
		if got := impl.StopsAt(8, plain, town); got != -1 {
			t.Errorf("StopsAt %d is %d", town, got)
		}
	}
}

func TestPartsThatAreNone(t *testing.T) {
	plain := plainStops()
	for _, c := range [][2]int{{0, 0}, {1, 1}, {2, 2}, {1, 0}, {2, 0}, {2, 1}, {-1, 1}, {-1, 2}, {0, 3}, {1, 3}, {-1, 3}, {3, 3}, {3, 4}, {2, 3}, {-1, 0}, {-1, -1}} {
		if part, ok := impl.StopsPart(3, plain, c[0], c[1]); ok || len(part) > 0 {
			t.Errorf("StopsPart from %d to %d gives %v and %v", c[0], c[1], part, ok)
		}
	}
	for _, far := range farNumbers() {
		for _, c := range [][2]int{{far, far}, {far, 2}, {0, far}} {
			if part, ok := impl.StopsPart(3, plain, c[0], c[1]); ok || len(part) > 0 {
				t.Errorf("StopsPart from %d to %d gives %v and %v", c[0], c[1], part, ok)
			}
		}
	}
	for _, c := range [][2]int{{0, 1}, {0, 2}, {1, 2}} {
		if part, ok := impl.StopsPart(3, plain, c[0], c[1]); !ok || !slices.Equal(part, plain[c[0]:c[1]+1]) {
			t.Errorf("StopsPart from %d to %d gives %v and %v", c[0], c[1], part, ok)
		}
	}
}

func TestMeetingsAtLimits(t *testing.T) {
	one := []impl.Stop{{Town: 0, Arrive: 100, Leave: 110}, {Town: 1, Arrive: 150, Leave: 170}, {Town: 2, Arrive: 200, Leave: 200}}
	for _, c := range []struct {
		name  string
		other []impl.Stop
		time  int
		ok    bool
	}{
		{"itself", one, 100, true},
		{"comes as it leaves", []impl.Stop{{Town: 0, Arrive: 110, Leave: 300}, {Town: 1, Arrive: 400, Leave: 400}}, 110, true},
		{"comes just behind", []impl.Stop{{Town: 0, Arrive: 111, Leave: 300}, {Town: 1, Arrive: 400, Leave: 400}}, 0, false},
		{"leaves as it comes", []impl.Stop{{Town: 2, Arrive: 0, Leave: 0}, {Town: 0, Arrive: 90, Leave: 100}}, 100, true},
		{"leaves just ahead", []impl.Stop{{Town: 2, Arrive: 0, Leave: 0}, {Town: 0, Arrive: 90, Leave: 99}}, 0, false},
		{"at the last stop alone", []impl.Stop{{Town: 2, Arrive: 200, Leave: 300}, {Town: 0, Arrive: 400, Leave: 400}}, 200, true},
		{"at the last minute", []impl.Stop{{Town: 3, Arrive: 0, Leave: 0}, {Town: 2, Arrive: 190, Leave: 200}}, 200, true},
		{"just ahead of the last minute", []impl.Stop{{Town: 3, Arrive: 0, Leave: 0}, {Town: 2, Arrive: 190, Leave: 199}}, 0, false},
		{"stands there all the time", []impl.Stop{{Town: 1, Arrive: 0, Leave: 9999}, {Town: 0, Arrive: 10000, Leave: 10000}}, 150, true},
		{"within the stop", []impl.Stop{{Town: 1, Arrive: 155, Leave: 160}, {Town: 3, Arrive: 161, Leave: 161}}, 155, true},
		{"twice, the first one counts", []impl.Stop{{Town: 1, Arrive: 165, Leave: 180}, {Town: 2, Arrive: 190, Leave: 210}}, 165, true},
		{"past each other", []impl.Stop{{Town: 1, Arrive: 90, Leave: 149}, {Town: 0, Arrive: 160, Leave: 170}}, 0, false},
		{"no town in common", []impl.Stop{{Town: 3, Arrive: 100, Leave: 110}, {Town: 4, Arrive: 150, Leave: 170}}, 0, false},
		{"on another day", []impl.Stop{{Town: 0, Arrive: 1540, Leave: 1550}, {Town: 1, Arrive: 1590, Leave: 1610}}, 0, false},
	} {
		if time, ok := impl.StopsMeet(5, one, c.other); ok != c.ok || time != c.time {
			t.Errorf("%s: StopsMeet gives %d and %v", c.name, time, ok)
		}
		if time, ok := impl.StopsMeet(5, c.other, one); ok != c.ok || time != c.time {
			t.Errorf("%s: StopsMeet exchanged gives %d and %v", c.name, time, ok)
		}
	}
}

func TestMeetingsAtFirstAndLastTime(t *testing.T) {
	whole := []impl.Stop{{Town: 0, Arrive: 0, Leave: 0}, {Town: 1, Arrive: impl.TimeMax, Leave: impl.TimeMax}}
	first := []impl.Stop{{Town: 0, Arrive: 0, Leave: 5}, {Town: 2, Arrive: 9, Leave: 9}}
	last := []impl.Stop{{Town: 2, Arrive: 0, Leave: 5}, {Town: 1, Arrive: 9990, Leave: impl.TimeMax}}
	if time, ok := impl.StopsMeet(3, whole, first); !ok || time != 0 {
		t.Errorf("StopsMeet at the first time gives %d and %v", time, ok)
	}
	if time, ok := impl.StopsMeet(3, whole, last); !ok || time != impl.TimeMax {
		t.Errorf("StopsMeet at the last time gives %d and %v", time, ok)
	}
	if time, ok := impl.StopsMeet(3, first, last); ok || time != 0 {
		t.Errorf("StopsMeet in the same town at different times gives %d and %v", time, ok)
	}
}
