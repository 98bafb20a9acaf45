package tests

import (
	"fmt"
	"slices"
	"testing"

	"loop.example/mailcoaches/impl"
)

func TestConstantsOfLateness(t *testing.T) {
	if impl.DelayMax != 300 {
		t.Errorf("the constant is %d", impl.DelayMax)
	}
}

// knownSlack are coaches whose slack takes away no, some or all lateness.
func knownSlack() []knownLate {
	return []knownLate{
		{lateCoach{"plain", 3, plainStops(), 4, 5, []int{7, 2}}, []int{0, 6, 26}, []int{5, 12, 8}, []int{5, 6, 0}, 6, []int{6, 2}},
		{lateCoach{"over midnight", 4, nightStops(), 3, 70, []int{20, 5, 9}}, []int{0, 0, 2, 17}, []int{70, 90, 95, 102}, []int{70, 90, 93, 85}, 2, []int{20, 5, 9}},
		{lateStanding("just the lateness", []int{0, 22, 0}, 10, 5, 7, 2), []int{0, 12, 0}, []int{5, 12, 2}, []int{5, 0, 2}, 12, []int{0, 2}},
		{lateStanding("all but 1 minute", []int{0, 21, 0}, 10, 5, 7, 2), []int{0, 11, 0}, []int{5, 12, 3}, []int{5, 1, 3}, 11, []int{1, 2}},
		{lateStanding("1 minute more than the lateness", []int{0, 23, 0}, 10, 5, 7, 2), []int{0, 13, 0}, []int{5, 12, 2}, []int{5, 0, 2}, 13, []int{0, 2}},
		{lateStanding("far more than the lateness", []int{0, 700, 0}, 10, 5, 7, 2), []int{0, 690, 0}, []int{5, 12, 2}, []int{5, 0, 2}, 300, []int{0, 2}},
		{lateStanding("nothing late", []int{9, 9, 9, 9}, 2, 0, 0, 0, 0), []int{0, 7, 7, 7}, []int{0, 0, 0, 0}, []int{0, 0, 0, 0}, 14, []int{0, 0, 0}},
		{lateStanding("long first stop", []int{500, 0, 0}, 0, 5, 7, 2), []int{0, 0, 0}, []int{5, 12, 14}, []int{5, 12, 14}, 0, []int{7, 2}},
		{lateStanding("long last stop", []int{0, 0, 500}, 0, 5, 7, 2), []int{0, 0, 500}, []int{5, 12, 14}, []int{5, 12, 0}, 0, []int{7, 2}},
		{lateStanding("last stop takes away just the lateness", []int{0, 0, 14}, 0, 5, 7, 2), []int{0, 0, 14}, []int{5, 12, 14}, []int{5, 12, 0}, 0, []int{7, 2}},
		{lateStanding("last stop takes away all but 1 minute", []int{0, 0, 13}, 0, 5, 7, 2), []int{0, 0, 13}, []int{5, 12, 14}, []int{5, 12, 1}, 0, []int{7, 2}},
		{lateStanding("two long stops", []int{500, 500}, 0, 5, 7), []int{0, 500}, []int{5, 12}, []int{5, 0}, 0, []int{7}},
		{lateStanding("slack is not saved up", []int{0, 50, 4, 0}, 0, 5, 7, 9, 2), []int{0, 50, 4, 0}, []int{5, 12, 9, 7}, []int{5, 0, 5, 7}, 54, []int{0, 5, 2}},
		{lateStanding("late, then not, then late", []int{0, 12, 0, 40, 3, 0}, 0, 5, 7, 2, 2, 8, 1), []int{0, 12, 0, 40, 3, 0}, []int{5, 12, 2, 4, 8, 6}, []int{5, 0, 2, 0, 5, 6}, 55, []int{0, 0, 0, 5, 1}},
		{lateStanding("start alone", []int{0, 30, 30, 0}, 10, 50, 0, 0, 0), []int{0, 20, 20, 0}, []int{50, 50, 30, 10}, []int{50, 30, 10, 10}, 40, []int{0, 0, 0}},
		{lateStanding("two stops, nothing late", []int{0, 0}, 0, 0, 0), []int{0, 0}, []int{0, 0}, []int{0, 0}, 0, []int{0}},
		{lateStanding("two stops, all DelayMax", []int{0, 0}, 300, 300, 300), []int{0, 0}, []int{300, 600}, []int{300, 600}, 0, []int{300}},
		{lateStanding("StopsMax stops, all DelayMax", make([]int, 8), 300, 300, slices.Repeat([]int{300}, 7)...), make([]int, 8), []int{300, 600, 900, 1200, 1500, 1800, 2100, 2400}, []int{300, 600, 900, 1200, 1500, 1800, 2100, 2400}, 0, slices.Repeat([]int{300}, 7)},
		{lateStanding("StopsMax stops with slack of DelayMax", slices.Repeat([]int{300}, 8), 0, 300, slices.Repeat([]int{300}, 7)...), []int{0, 300, 300, 300, 300, 300, 300, 300}, []int{300, 600, 600, 600, 600, 600, 600, 600}, slices.Repeat([]int{300}, 8), 300, slices.Repeat([]int{300}, 7)},
		{lateStanding("StopsMax stops with slack for all", slices.Repeat([]int{600}, 8), 0, 300, slices.Repeat([]int{300}, 7)...), []int{0, 600, 600, 600, 600, 600, 600, 600}, []int{300, 600, 300, 300, 300, 300, 300, 300}, []int{300, 0, 0, 0, 0, 0, 0, 0}, 300, []int{0, 0, 0, 0, 0, 0, 300}},
	}
}

func TestSlackOfStops(t *testing.T) {
	for _, k := range knownSlack() {
		checkKnown(t, k)
	}
}

// TestFreeStarts has stays that, with a least stop of 0, give as much start as can be caught up with.
func TestFreeStarts(t *testing.T) {
	for _, c := range []struct {
		stays []int
		least int
		want  int
	}{
		{[]int{0, 0}, 0, 0}, {[]int{500, 500}, 0, 0}, {[]int{500, 0, 500}, 0, 0}, {[]int{500, 7, 500}, 7, 0}, {[]int{500, 7, 500}, 300, 0},
		{[]int{0, 1, 0}, 0, 1}, {[]int{0, 299, 0}, 0, 299}, {[]int{0, 300, 0}, 0, 300}, {[]int{0, 301, 0}, 0, 300}, {[]int{0, 9000, 0}, 0, 300},
		{[]int{0, 599, 0}, 300, 299}, {[]int{0, 600, 0}, 300, 300}, {[]int{0, 601, 0}, 300, 300},
		{[]int{0, 100, 100, 100, 0}, 0, 300}, {[]int{0, 100, 99, 100, 0}, 0, 299}, {[]int{0, 100, 101, 100, 0}, 0, 300}, {[]int{0, 100, 100, 100, 50}, 1, 297},
		{[]int{0, 3, 20, 4, 0}, 10, 10}, {[]int{9, 50, 50, 50, 50, 50, 50, 9}, 0, 300}, {[]int{9, 50, 50, 50, 50, 50, 50, 9}, 1, 294}, {[]int{9, 50, 50, 50, 50, 50, 50, 9}, 50, 0},
	} {
		if got := impl.LateFree(8, standing(c.stays...), c.least); got != c.want {
			t.Errorf("LateFree with the stays %v and a least stop of %d is %d, want %d", c.stays, c.least, got, c.want)
		}
	}
}

// TestBlameOfWays has what each way is to blame for, and ways that are not there.
func TestBlameOfWays(t *testing.T) {
	c := lateStanding("blame", []int{0, 8, 0, 30, 0, 5, 0}, 2, 10, 20, 0, 6, 7, 9, 300)
	for k, want := range []int{2, 0, 2, 7, 9, 300} {
		if got := blameLate(c, k); got != want {
			t.Errorf("LateBlame of the way %d is %d, want %d", k, got, want)
		}
	}
	for _, c := range namedLate() {
		ways := len(c.delays)
		for _, k := range append(farNumbers(), -8, -2, -1, ways, ways+1, 8, 9, 300) {
			if got := blameLate(c, k); got != -1 {
				t.Errorf("%s: LateBlame of the way %d is %d", c.name, k, got)
			}
		}
		if got := blameLate(c, ways-1); got != c.delays[ways-1] {
			t.Errorf("%s: LateBlame of the last way is %d", c.name, got)
		}
	}
}

// TestLateTimetables has coaches as they run.
func TestLateTimetables(t *testing.T) {
	for _, k := range []struct {
		coach lateCoach
		want  []impl.Stop
	}{
		{lateCoach{"plain", 3, plainStops(), 4, 5, []int{7, 2}}, []impl.Stop{{Town: 2, Arrive: 400, Leave: 425}, {Town: 0, Arrive: 492, Leave: 496}, {Town: 1, Arrive: 608, Leave: 630}}},
		{lateStanding("two stops", []int{4, 4}, 2, 9, 8), []impl.Stop{{Town: 0, Arrive: 100, Leave: 113}, {Town: 1, Arrive: 131, Leave: 133}}},
		{lateStanding("first stop without a stay", []int{0, 0}, 2, 300, 300), []impl.Stop{{Town: 0, Arrive: 100, Leave: 400}, {Town: 1, Arrive: 710, Leave: 710}}},
		{lateStanding("punctual", []int{4, 4}, 2, 0, 0), []impl.Stop{{Town: 0, Arrive: 100, Leave: 104}, {Town: 1, Arrive: 114, Leave: 118}}},
		{lateStanding("punctual again", []int{4, 40, 4}, 2, 10, 20, 0), []impl.Stop{{Town: 0, Arrive: 100, Leave: 114}, {Town: 1, Arrive: 144, Leave: 154}, {Town: 2, Arrive: 164, Leave: 168}}},
	} {
		if got, ok := stopsLate(k.coach); !ok || !slices.Equal(got, k.want) {
			t.Errorf("%s: LateStops gives %v and %v, want %v", k.coach.name, got, ok, k.want)
		}
	}
}

// TestLateTimetablesAtTheLastTime has coaches that run up to TimeMax and beyond: arriving or only leaving can be too late.
func TestLateTimetablesAtTheLastTime(t *testing.T) {
	for _, c := range []struct {
		arrive, leave, least, start, delay int
		fits                               bool
	}{
		{10000, 10000, 0, 0, 0, true}, {10000, 10000, 0, 1, 0, false}, {10000, 10000, 0, 0, 1, false},
		{9999, 9999, 0, 1, 0, true}, {9999, 9999, 0, 0, 1, true}, {9999, 9999, 0, 1, 1, false},
		{9400, 9400, 300, 300, 300, true}, {9401, 9401, 300, 300, 300, false}, {9401, 9401, 300, 300, 299, true},
		{9995, 10000, 0, 5, 0, true}, {9995, 10000, 0, 6, 0, false}, {9995, 10000, 1, 4, 0, true}, {9995, 10000, 1, 5, 0, false},
		{9990, 10000, 4, 0, 6, true}, {9990, 10000, 4, 0, 7, false}, {9990, 10000, 10, 0, 0, true}, {9990, 10000, 10, 0, 1, false}, {9990, 10000, 11, 0, 1, false}, {9990, 9999, 10, 0, 1, true},
	} {
		coach := lateCoach{"last time", 2, []impl.Stop{{Town: 0, Arrive: 0, Leave: 8000}, {Town: 1, Arrive: c.arrive, Leave: c.leave}}, c.least, c.start, []int{c.delay}}
		got, ok := stopsLate(coach)
		if ok != c.fits || !ok && len(got) > 0 {
			t.Errorf("%v: LateStops gives %v and %v", c, got, ok)
		}
		if end := endLate(coach); end != c.start+c.delay {
			t.Errorf("%v: LateEnd is %d", c, end)
		}
	}
}

// checkNoLate checks that nothing is told of a coach; only LateSlack and LateFree do not depend on its start and delays.
func checkNoLate(t *testing.T, c lateCoach) {
	t.Helper()
	name := fmt.Sprintf("%s, %d towns, stops %v, least stop %d, start %d, delays %v", c.name, c.n, c.stops, c.least, c.start, c.delays)
	if got, ok := arriveLate(c); ok || len(got) > 0 {
		t.Errorf("%s: LateArrive gives %v and %v", name, got, ok)
	}
	if got, ok := leaveLate(c); ok || len(got) > 0 {
		t.Errorf("%s: LateLeave gives %v and %v", name, got, ok)
	}
	if got, ok := stopsLate(c); ok || len(got) > 0 {
		t.Errorf("%s: LateStops gives %v and %v", name, got, ok)
	}
	if got := endLate(c); got != -1 {
		t.Errorf("%s: LateEnd is %d", name, got)
	}
	if got := sumLate(c); got != -1 {
		t.Errorf("%s: LateSum is %d", name, got)
	}
	for k := -1; k <= 7; k++ {
		if got := blameLate(c, k); got != -1 {
			t.Errorf("%s: LateBlame of the way %d is %d", name, k, got)
		}
	}
}

// checkNoSlack checks that the slacks of a timetable are not told either.
func checkNoSlack(t *testing.T, c lateCoach) {
	t.Helper()
	checkNoLate(t, c)
	if got, ok := impl.LateSlack(c.n, c.stops, c.least); ok || len(got) > 0 {
		t.Errorf("%s: LateSlack of %v with %d gives %v and %v", c.name, c.stops, c.least, got, ok)
	}
	if got := impl.LateFree(c.n, c.stops, c.least); got != -1 {
		t.Errorf("%s: LateFree of %v with %d is %d", c.name, c.stops, c.least, got)
	}
}

func TestLatenessOfNoTimetables(t *testing.T) {
	for _, c := range noTables() {
		for _, delays := range [][]int{make([]int, max(0, len(c.stops)-1)), make([]int, len(c.stops)), {7, 2}, {3}, {}, nil} {
			checkNoSlack(t, lateCoach{c.name, c.n, c.stops, 4, 5, delays})
			checkNoSlack(t, lateCoach{c.name, c.n, c.stops, 0, 0, delays})
			checkNoSlack(t, lateCoach{c.name, c.n, c.stops, -1, -1, delays})
		}
	}
}

func TestDelaysThatAreNone(t *testing.T) {
	for _, c := range someLate() {
		for _, delays := range noDelayLists(len(c.delays)) {
			d := c
			d.delays = delays
			checkNoLate(t, d)
			if got := impl.LateFree(c.n, c.stops, c.least); got < 0 {
				t.Errorf("%s: LateFree is %d", c.name, got)
			}
		}
	}
}

func TestStartsAndLeastStopsOutOfRange(t *testing.T) {
	for _, c := range someLate() {
		for _, no := range noDelays() {
			d := c
			d.start = no
			checkNoLate(t, d)
			checkNoSlack(t, withLeast(c, no))
			checkNoSlack(t, withLeast(d, no))
		}
		for k := range c.delays {
			for _, no := range noDelays() {
				checkNoSlack(t, withLeast(withDelay(c, k, no), no))
			}
		}
	}
}

// TestNumbersAtTheirLimits checks that the limits themselves are in range, each alone and all together.
func TestNumbersAtTheirLimits(t *testing.T) {
	for _, stays := range [][]int{{0, 0}, {9, 9, 9}, {1, 2, 3, 4, 5, 6, 7, 8}} {
		for _, least := range []int{0, 300} {
			for _, start := range []int{0, 300} {
				for _, delay := range []int{0, 300} {
					c := lateStanding("limits", stays, least, start, slices.Repeat([]int{delay}, len(stays)-1)...)
					arrives, leaves := modelLate(c)
					got, ok := arriveLate(c)
					numbersDiffer(t, "LateArrive", got, ok, arrives)
					got, ok = leaveLate(c)
					numbersDiffer(t, "LateLeave", got, ok, leaves)
					if late, ok := stopsLate(c); !ok || !slices.Equal(late, modelRun(c)) {
						t.Errorf("LateStops of %v gives %v and %v", c, late, ok)
					}
				}
			}
		}
	}
}
