package tests

import (
	"fmt"
	"testing"

	"loop.example/mailcoaches/impl"
)

// knownLate is a coach with all that is told of it.
type knownLate struct {
	coach   lateCoach
	slacks  []int
	arrives []int
	leaves  []int
	free    int
	blames  []int
}

// knownShortStops are coaches at stops that are shorter than the least stop, or about as long.
func knownShortStops() []knownLate {
	return []knownLate{
		{lateStanding("1 minute shorter", []int{0, 9, 0}, 10, 5, 7, 2), []int{0, 0, 0}, []int{5, 12, 14}, []int{5, 12, 14}, 0, []int{7, 2}},
		{lateStanding("as long", []int{0, 10, 0}, 10, 5, 7, 2), []int{0, 0, 0}, []int{5, 12, 14}, []int{5, 12, 14}, 0, []int{7, 2}},
		{lateStanding("1 minute longer", []int{0, 11, 0}, 10, 5, 7, 2), []int{0, 1, 0}, []int{5, 12, 13}, []int{5, 11, 13}, 1, []int{7, 2}},
		{lateStanding("far shorter", []int{0, 1, 0}, 300, 5, 7, 2), []int{0, 0, 0}, []int{5, 12, 14}, []int{5, 12, 14}, 0, []int{7, 2}},
		{lateStanding("without a stay", []int{0, 0, 0}, 10, 5, 7, 2), []int{0, 0, 0}, []int{5, 12, 14}, []int{5, 12, 14}, 0, []int{7, 2}},
		{lateStanding("without a stay, least stop 0", []int{0, 0, 0}, 0, 5, 7, 2), []int{0, 0, 0}, []int{5, 12, 14}, []int{5, 12, 14}, 0, []int{7, 2}},
		{lateStanding("without a stay, least stop DelayMax", []int{0, 0, 0}, 300, 5, 7, 2), []int{0, 0, 0}, []int{5, 12, 14}, []int{5, 12, 14}, 0, []int{7, 2}},
		{lateStanding("least stop 0", []int{4, 4, 4}, 0, 5, 7, 2), []int{0, 4, 4}, []int{5, 12, 10}, []int{5, 8, 6}, 4, []int{7, 2}},
		{lateStanding("shorter, punctual", []int{0, 3, 0}, 9, 0, 0, 4), []int{0, 0, 0}, []int{0, 0, 4}, []int{0, 0, 4}, 0, []int{0, 4}},
		{lateStanding("shorter, 1 minute late", []int{0, 3, 0}, 9, 0, 1, 0), []int{0, 0, 0}, []int{0, 1, 1}, []int{0, 1, 1}, 0, []int{1, 0}},
		{lateStanding("shorter first stop", []int{3, 20, 9}, 9, 6, 7, 8), []int{0, 11, 0}, []int{6, 13, 10}, []int{6, 2, 10}, 11, []int{2, 8}},
		{lateStanding("shorter last stop", []int{9, 20, 3}, 9, 6, 7, 8), []int{0, 11, 0}, []int{6, 13, 10}, []int{6, 2, 10}, 11, []int{2, 8}},
		{lateStanding("longer between shorter", []int{5, 5, 20, 5, 5}, 6, 1, 1, 20, 0, 3), []int{0, 0, 14, 0, 0}, []int{1, 2, 22, 8, 11}, []int{1, 2, 8, 8, 11}, 14, []int{1, 8, 0, 3}},
		{lateStanding("shorter between longer", []int{5, 20, 5, 20, 5}, 8, 10, 9, 0, 3, 3), []int{0, 12, 0, 12, 0}, []int{10, 19, 7, 10, 3}, []int{10, 7, 7, 0, 3}, 24, []int{0, 0, 0, 3}},
		{lateStanding("all shorter", []int{5, 5, 5, 5, 5, 5, 5, 5}, 6, 1, 1, 2, 3, 4, 5, 6, 7), make([]int, 8), []int{1, 2, 4, 7, 11, 16, 22, 29}, []int{1, 2, 4, 7, 11, 16, 22, 29}, 0, []int{1, 2, 3, 4, 5, 6, 7}},
		{lateStanding("all 1 minute longer", []int{7, 7, 7, 7, 7, 7, 7, 7}, 6, 1, 1, 2, 3, 4, 5, 6, 7), []int{0, 1, 1, 1, 1, 1, 1, 1}, []int{1, 2, 3, 5, 8, 12, 17, 23}, []int{1, 1, 2, 4, 7, 11, 16, 22}, 6, []int{1, 2, 3, 4, 5, 6, 7}},
		{lateStanding("DelayMax minutes, least stop DelayMax", []int{0, 300, 0}, 300, 9, 9, 9), []int{0, 0, 0}, []int{9, 18, 27}, []int{9, 18, 27}, 0, []int{9, 9}},
		{lateStanding("1 more than DelayMax minutes, least stop DelayMax", []int{0, 301, 0}, 300, 9, 9, 9), []int{0, 1, 0}, []int{9, 18, 26}, []int{9, 17, 26}, 1, []int{9, 9}},
		{lateStanding("1 less than DelayMax minutes, least stop DelayMax", []int{0, 299, 0}, 300, 9, 9, 9), []int{0, 0, 0}, []int{9, 18, 27}, []int{9, 18, 27}, 0, []int{9, 9}},
		{lateStanding("last stop 1 minute longer", []int{0, 0, 11}, 10, 0, 0, 7), []int{0, 0, 1}, []int{0, 0, 7}, []int{0, 0, 6}, 0, []int{0, 7}},
	}
}

// checkKnown checks all functions but LateStops.
func checkKnown(t *testing.T, k knownLate) {
	t.Helper()
	c := k.coach
	got, ok := impl.LateSlack(c.n, c.stops, c.least)
	numbersDiffer(t, c.name+": LateSlack", got, ok, k.slacks)
	got, ok = arriveLate(c)
	numbersDiffer(t, c.name+": LateArrive", got, ok, k.arrives)
	got, ok = leaveLate(c)
	numbersDiffer(t, c.name+": LateLeave", got, ok, k.leaves)
	if end := endLate(c); end != k.arrives[len(k.arrives)-1] {
		t.Errorf("%s: LateEnd is %d", c.name, end)
	}
	if sum := sumLate(c); sum != sumOf(k.arrives) {
		t.Errorf("%s: LateSum is %d, want %d", c.name, sum, sumOf(k.arrives))
	}
	if free := impl.LateFree(c.n, c.stops, c.least); free != k.free {
		t.Errorf("%s: LateFree is %d, want %d", c.name, free, k.free)
	}
	blames := []int{}
	for way := range c.delays {
		blames = append(blames, blameLate(c, way))
	}
	numbersDiffer(t, c.name+": LateBlame of all ways", blames, true, k.blames)
}

func TestStopsShorterThanTheLeast(t *testing.T) {
	for _, k := range knownShortStops() {
		checkKnown(t, k)
	}
}

// TestLeastStopsAroundAStay goes through all least stops about a stop that is between, and then last.
func TestLeastStopsAroundAStay(t *testing.T) {
	for _, stay := range []int{0, 1, 2, 50, 149, 298, 299, 300} {
		for least := range 301 {
			slack := 0
			if stay > least {
				slack = stay - least
			}
			late := 0
			if slack < 60 {
				late = 60 - slack
			}
			c := lateStanding(fmt.Sprintf("stay %d, least stop %d", stay, least), []int{0, stay, stay}, least, 20, 40, 5)
			got, ok := impl.LateSlack(c.n, c.stops, least)
			numbersDiffer(t, c.name+": LateSlack", got, ok, []int{0, slack, slack})
			got, ok = arriveLate(c)
			numbersDiffer(t, c.name+": LateArrive", got, ok, []int{20, 60, late + 5})
			got, ok = leaveLate(c)
			numbersDiffer(t, c.name+": LateLeave", got, ok, []int{20, late, max(0, late+5-slack)})
			if free := impl.LateFree(c.n, c.stops, least); free != slack {
				t.Errorf("%s: LateFree is %d", c.name, free)
			}
		}
	}
}

// TestShortStopsAsTheyRun checks that a coach stays at a stop that is shorter than the least one for as long as planned, however late it is.
func TestShortStopsAsTheyRun(t *testing.T) {
	for stay := range 12 {
		for late := range 30 {
			c := lateStanding(fmt.Sprintf("stay %d, late %d", stay, late), []int{0, stay, 0}, 11, 0, late, 0)
			stops, ok := stopsLate(c)
			if !ok || len(stops) != 3 {
				t.Fatalf("%s: LateStops gives %v and %v", c.name, stops, ok)
			}
			want := impl.Stop{Town: 1, Arrive: 110 + late, Leave: 110 + stay + late}
			if stops[1] != want {
				t.Errorf("%s: LateStops gives %v, want %v", c.name, stops[1], want)
			}
		}
	}
}

// TestStaysOfTheLeastStop checks that a coach never stays shorter than the least stop, unless this is planned, and leaves as soon as it may.
func TestStaysOfTheLeastStop(t *testing.T) {
	short := 0
	eachLate(t, func(t *testing.T, c lateCoach) {
		late, ok := stopsLate(c)
		if !ok {
			return
		}
		for i, s := range late {
			stay, planned := s.Leave-s.Arrive, c.stops[i].Leave-c.stops[i].Arrive
			if i == 0 {
				continue
			}
			if stay < min(planned, c.least) || stay > planned {
				t.Errorf("the coach stays %d minutes at the stop %d", stay, i)
			}
			if s.Leave > c.stops[i].Leave && stay != min(planned, c.least) {
				t.Errorf("the coach stays %d minutes at the stop %d, though it leaves late", stay, i)
			}
			if planned < c.least && s.Arrive > c.stops[i].Arrive {
				short++
			}
		}
	})
	if short < 500 {
		t.Errorf("coaches came late to only %d stops that are shorter than the least one", short)
	}
}
