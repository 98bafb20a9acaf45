package tests

import (
	"fmt"
	"slices"
	"testing"

	"loop.example/mailcoaches/impl"
)

// lateCoach is a timetable with what makes a coach late, and the name by which a failure is told.
type lateCoach struct {
	name   string
	n      int
	stops  []impl.Stop
	least  int
	start  int
	delays []int
}

// connection is two timetables with a town in which people change from the first coach to the second one.
type connection struct {
	name   string
	n      int
	a      []impl.Stop
	b      []impl.Stop
	town   int
	late   int
	change int
	most   int
}

// standing is a timetable from the time 100 on that stays in the towns 0, 1 and so on for as long as is given, with ways of 10 minutes between.
func standing(stays ...int) []impl.Stop {
	stops, time := []impl.Stop{}, 100
	for town, stay := range stays {
		stops = append(stops, impl.Stop{Town: town, Arrive: time, Leave: time + stay})
		time += stay + 10
	}
	return stops
}

// lateStanding is a coach by such a timetable.
func lateStanding(name string, stays []int, least int, start int, delays ...int) lateCoach {
	return lateCoach{name, 8, standing(stays...), least, start, delays}
}

// namedLate are coaches with the edge cases of the chapter.
func namedLate() []lateCoach {
	return slices.Concat(namedShortStops(), namedSlack(), namedLimits())
}

// namedShortStops have stops that are shorter than the least one, or just as long.
func namedShortStops() []lateCoach {
	return []lateCoach{
		lateStanding("a stop 1 minute shorter than the least", []int{0, 9, 0}, 10, 5, 7, 2),
		lateStanding("a stop as long as the least", []int{0, 10, 0}, 10, 5, 7, 2),
		lateStanding("a stop 1 minute longer than the least", []int{0, 11, 0}, 10, 5, 7, 2),
		lateStanding("a stop far shorter than the least", []int{0, 1, 0}, 300, 5, 7, 2),
		lateStanding("a stop without a stay and a least stop", []int{0, 0, 0}, 10, 5, 7, 2),
		lateStanding("a stop without a stay, the least stop 0", []int{0, 0, 0}, 0, 5, 7, 2),
		lateStanding("all stops shorter than the least", []int{5, 5, 5, 5, 5, 5, 5, 5}, 6, 1, 1, 2, 3, 4, 5, 6, 7),
		lateStanding("a longer stop between shorter ones", []int{5, 5, 20, 5, 5}, 6, 1, 1, 20, 0, 3),
		lateStanding("a shorter stop between longer ones", []int{5, 20, 5, 20, 5}, 8, 10, 9, 0, 3, 3),
		lateStanding("a shorter stop, not late", []int{0, 3, 0}, 9, 0, 0, 4),
		lateStanding("a shorter first stop", []int{3, 20, 9}, 9, 6, 7, 8),
		lateStanding("a shorter last stop", []int{9, 20, 3}, 9, 6, 7, 8),
		lateStanding("a stop of DelayMax minutes, the least stop as long", []int{0, 300, 0}, 300, 9, 9, 9),
		lateStanding("a stop of DelayMax minutes and one, the least stop DelayMax", []int{0, 301, 0}, 300, 9, 9, 9),
		lateStanding("a stop of DelayMax minutes less one, the least stop DelayMax", []int{0, 299, 0}, 300, 9, 9, 9),
	}
}

// namedSlack have slack that takes away some lateness, or just all of it, or could take away more.
func namedSlack() []lateCoach {
	return []lateCoach{
		{"plain", 3, plainStops(), 4, 5, []int{7, 2}},
		{"plain, with towns in which it does not stop", 8, plainStops(), 4, 5, []int{7, 2}},
		{"over midnight", 4, nightStops(), 3, 70, []int{20, 5, 9}},
		lateStanding("slack takes away just the lateness", []int{0, 22, 0}, 10, 5, 7, 2),
		lateStanding("slack takes away the lateness but for 1", []int{0, 21, 0}, 10, 5, 7, 2),
		lateStanding("slack could take away 1 more", []int{0, 23, 0}, 10, 5, 7, 2),
		lateStanding("slack could take away far more", []int{0, 700, 0}, 10, 5, 7, 2),
		lateStanding("slack without lateness", []int{9, 9, 9, 9}, 2, 0, 0, 0, 0),
		lateStanding("a long first stop", []int{500, 0, 0}, 0, 5, 7, 2),
		lateStanding("a long last stop", []int{0, 0, 500}, 0, 5, 7, 2),
		lateStanding("two long stops only", []int{500, 500}, 0, 5, 7),
		lateStanding("the slack left at one stop is no help at the next one", []int{0, 50, 4, 0}, 0, 5, 7, 9, 2),
		lateStanding("late, then not, then late", []int{0, 12, 0, 40, 3, 0}, 0, 5, 7, 2, 2, 8, 1),
		lateStanding("a last delay only", []int{5, 5, 5}, 1, 0, 0, 300),
		lateStanding("a first delay only", []int{5, 5, 5}, 1, 0, 300, 0),
		lateStanding("a start only", []int{5, 5, 5}, 1, 300, 0, 0),
	}
}

// namedLimits have as few and as many stops, and as little and as much lateness, as there can be.
func namedLimits() []lateCoach {
	most := slices.Repeat([]int{300}, 7)
	eight := slices.Repeat([]int{0}, 8)
	return []lateCoach{
		lateStanding("two stops, nothing late", []int{0, 0}, 0, 0, 0),
		lateStanding("two stops, all DelayMax", []int{0, 0}, 300, 300, 300),
		lateStanding("two stops, a start", []int{4, 4}, 2, 9, 0),
		lateStanding("two stops, a delay", []int{4, 4}, 2, 0, 9),
		lateStanding("StopsMax stops, nothing late", eight, 0, 0, make([]int, 7)...),
		lateStanding("StopsMax stops, all DelayMax", eight, 300, 300, most...),
		lateStanding("StopsMax stops of DelayMax minutes, all DelayMax", slices.Repeat([]int{300}, 8), 0, 300, most...),
		lateStanding("StopsMax stops of twice DelayMax, all DelayMax", slices.Repeat([]int{600}, 8), 300, 300, most...),
		lateStanding("StopsMax stops of more than twice DelayMax", slices.Repeat([]int{601}, 8), 0, 300, most...),
		lateStanding("slack of DelayMax together", []int{0, 100, 100, 100, 0}, 0, 300, 0, 0, 0, 0),
		lateStanding("slack of DelayMax less 1 together", []int{0, 100, 99, 100, 0}, 0, 300, 0, 0, 0, 0),
		lateStanding("slack of DelayMax and 1 together", []int{0, 100, 101, 100, 0}, 0, 300, 0, 0, 0, 0),
		{"the last time, nothing late", 2, []impl.Stop{{Town: 0, Arrive: 0, Leave: 0}, {Town: 1, Arrive: impl.TimeMax, Leave: impl.TimeMax}}, 0, 0, []int{0}},
		{"up to the last time", 2, []impl.Stop{{Town: 0, Arrive: 0, Leave: 0}, {Town: 1, Arrive: impl.TimeMax - 5, Leave: impl.TimeMax}}, 0, 2, []int{3}},
		{"a minute too late", 2, []impl.Stop{{Town: 0, Arrive: 0, Leave: 0}, {Town: 1, Arrive: impl.TimeMax - 4, Leave: impl.TimeMax}}, 0, 2, []int{3}},
		{"only leaving is too late", 2, []impl.Stop{{Town: 0, Arrive: 0, Leave: 0}, {Town: 1, Arrive: impl.TimeMax - 9, Leave: impl.TimeMax}}, 5, 2, []int{3}},
		{"only arriving would be too late", 3, []impl.Stop{{Town: 0, Arrive: 0, Leave: 0}, {Town: 1, Arrive: 9000, Leave: 9000}, {Town: 2, Arrive: impl.TimeMax, Leave: impl.TimeMax}}, 0, 0, []int{0, 1}},
	}
}

// mixedDelay is a delay out of a fixed sequence, in many cases 0 and up to a longest one.
func mixedDelay(s *numbers, longest int) int {
	return max(0, s.below(longest+longest/3+2)-longest/3-1)
}

// mixedLate are coaches out of a fixed sequence, with stays about as long as the least stop and as the delays.
func mixedLate(number int) []lateCoach {
	s := &numbers{state: 97}
	coaches := []lateCoach{}
	for i := range number {
		stays, delays := []int{s.below(40)}, []int{}
		longest := []int{3, 10, 40, 300}[s.below(4)]
		for range 1 + s.below(7) {
			stays = append(stays, mixedDelay(s, longest))
			delays = append(delays, mixedDelay(s, longest))
		}
		least, start := mixedDelay(s, longest), mixedDelay(s, longest)
		coaches = append(coaches, lateStanding(fmt.Sprintf("mixed %d", i), stays, least, start, delays...))
	}
	return coaches
}

// lateTables are the coaches by the timetables of chapter 2, each with some lateness.
func lateTables() []lateCoach {
	s := &numbers{state: 101}
	coaches := []lateCoach{}
	for i, c := range allTables() {
		if i > 400 && i%5 > 0 {
			continue
		}
		longest, delays := []int{2, 9, 60, 300}[s.below(4)], []int{}
		for range len(c.stops) - 1 {
			delays = append(delays, mixedDelay(s, longest))
		}
		coaches = append(coaches, lateCoach{c.name, c.n, c.stops, mixedDelay(s, longest), mixedDelay(s, longest), delays})
	}
	return coaches
}

// smallLate are all coaches of 3 stops with least stops, starts and delays of at most 3 minutes, and with short stays.
func smallLate() []lateCoach {
	coaches := []lateCoach{}
	for code := range 4 * 4 * 4 * 4 * 6 {
		least, start, first, second, stay := code%4, code/4%4, code/16%4, code/64%4, code/256
		coaches = append(coaches, lateStanding(fmt.Sprintf("small %d", code), []int{code % 3, stay, code % 5}, least, start, first, second))
	}
	return coaches
}

// allLate are all coaches on which the tests are done.
func allLate() []lateCoach {
	return slices.Concat(namedLate(), mixedLate(600), lateTables(), smallLate())
}

// eachLate does a test with all coaches.
func eachLate(t *testing.T, test func(t *testing.T, c lateCoach)) {
	t.Helper()
	for _, c := range allLate() {
		test(t, c)
		if t.Failed() {
			t.Fatalf("coach %q: %d towns, stops %v, least stop %d, start %d, delays %v", c.name, c.n, c.stops, c.least, c.start, c.delays)
		}
	}
}

// arriveLate is LateArrive of a coach.
func arriveLate(c lateCoach) ([]int, bool) {
	return impl.LateArrive(c.n, c.stops, c.least, c.start, c.delays)
}

// leaveLate is LateLeave of a coach.
func leaveLate(c lateCoach) ([]int, bool) {
	return impl.LateLeave(c.n, c.stops, c.least, c.start, c.delays)
}

// endLate is LateEnd of a coach.
func endLate(c lateCoach) int {
	return impl.LateEnd(c.n, c.stops, c.least, c.start, c.delays)
}

// sumLate is LateSum of a coach.
func sumLate(c lateCoach) int {
	return impl.LateSum(c.n, c.stops, c.least, c.start, c.delays)
}

// blameLate is LateBlame of a way of a coach.
func blameLate(c lateCoach, k int) int {
	return impl.LateBlame(c.n, c.stops, c.least, c.start, c.delays, k)
}

// stopsLate is LateStops of a coach.
func stopsLate(c lateCoach) ([]impl.Stop, bool) {
	return impl.LateStops(c.n, c.stops, c.least, c.start, c.delays)
}

// withDelay is a coach with another delay on a way.
func withDelay(c lateCoach, k int, delay int) lateCoach {
	c.delays = slices.Clone(c.delays)
	c.delays[k] = delay
	return c
}

// withLeast is a coach with another least stop.
func withLeast(c lateCoach, least int) lateCoach {
	c.least = least
	return c
}

// onlyStart is a coach with a start and no delays.
func onlyStart(c lateCoach, start int) lateCoach {
	c.start = start
	c.delays = make([]int, len(c.delays))
	return c
}

// noDelays are numbers that are no delays.
func noDelays() []int {
	return append(farNumbers(), -300, -2, -1, 301, 302, 600)
}

// noDelayLists are lists that do not have a delay for each of some ways.
func noDelayLists(ways int) [][]int {
	lists := [][]int{nil, {}, make([]int, ways-1), make([]int, ways+1), make([]int, ways+2), slices.Repeat([]int{9}, ways-1), slices.Repeat([]int{9}, ways+1), make([]int, 1000)}
	for _, no := range noDelays() {
		for k := range ways {
			list := slices.Repeat([]int{7}, ways)
			list[k] = no
			lists = append(lists, list)
		}
		lists = append(lists, append(make([]int, ways), no), append([]int{no}, make([]int, ways)...))
	}
	return lists
}

// someLate are the few coaches on which invalid arguments are tried.
func someLate() []lateCoach {
	return []lateCoach{
		{"plain", 3, plainStops(), 4, 5, []int{7, 2}},
		lateStanding("two stops", []int{3, 4}, 2, 9, 8),
		lateStanding("StopsMax stops", []int{5, 5, 5, 5, 5, 5, 5, 5}, 6, 1, 1, 2, 3, 4, 5, 6, 7),
		lateStanding("two stops, all DelayMax", []int{0, 0}, 300, 300, 300),
		lateStanding("nothing late", []int{0, 0, 0}, 0, 0, 0, 0),
	}
}
