package tests

import (
	"fmt"
	"testing"

	"loop.example/mailcoaches/impl"
)

// coachTable is a number of towns with a timetable, and the name by which a failure is told.
type coachTable struct {
	name  string
	n     int
	stops []impl.Stop
}

// farNumbers are far out of every range, so that sums with them wrap around.
func farNumbers() []int {
	return []int{-1 << 63, -1<<63 + 1, -1<<63 + impl.TimeMax, 1<<63 - 1, 1<<63 - 2, 1<<63 - 1 - impl.TimeMax}
}

// plainStops is an ordinary timetable of 3 towns.
func plainStops() []impl.Stop {
	return []impl.Stop{{Town: 2, Arrive: 400, Leave: 420}, {Town: 0, Arrive: 480, Leave: 490}, {Town: 1, Arrive: 600, Leave: 630}}
}

// nightStops runs over two midnights, and stands in the town 3 at the second one.
func nightStops() []impl.Stop {
	return []impl.Stop{{Town: 1, Arrive: 1380, Leave: 1439}, {Town: 0, Arrive: 1440, Leave: 1440}, {Town: 2, Arrive: 1500, Leave: 1505}, {Town: 3, Arrive: 2870, Leave: 2890}}
}

// fullStops has StopsMax stops, the last one at the last time.
func fullStops() []impl.Stop {
	stops := []impl.Stop{}
	for i := range impl.StopsMax {
		stops = append(stops, impl.Stop{Town: impl.StopsMax - 1 - i, Arrive: i * 1428, Leave: i*1428 + min(i, 4)})
	}
	return stops
}

// namedTables are the timetables with the edge cases of the chapter.
func namedTables() []coachTable {
	return []coachTable{
		{"plain", 3, plainStops()},
		{"plain, with towns in which it does not stop", 8, plainStops()},
		{"two stops", 2, []impl.Stop{{Town: 0, Arrive: 100, Leave: 110}, {Town: 1, Arrive: 150, Leave: 170}}},
		{"two stops, back", 2, []impl.Stop{{Town: 1, Arrive: 100, Leave: 110}, {Town: 0, Arrive: 150, Leave: 170}}},
		{"over midnight", 4, nightStops()},
		{"stands at midnight", 2, []impl.Stop{{Town: 0, Arrive: 1430, Leave: 1450}, {Town: 1, Arrive: 1460, Leave: 1460}}},
		{"leaves as it arrives", 3, []impl.Stop{{Town: 0, Arrive: 5, Leave: 5}, {Town: 1, Arrive: 8, Leave: 8}, {Town: 2, Arrive: 9, Leave: 9}}},
		{"from the first to the last time", 2, []impl.Stop{{Town: 0, Arrive: 0, Leave: 0}, {Town: 1, Arrive: impl.TimeMax, Leave: impl.TimeMax}}},
		{"a minute on the road", 2, []impl.Stop{{Town: 0, Arrive: 0, Leave: 4999}, {Town: 1, Arrive: 5000, Leave: impl.TimeMax}}},
		{"as many stops as can be", 8, fullStops()},
		{"first minutes", 8, minuteStops(0)},
		{"last minutes", 8, minuteStops(impl.TimeMax - 7)},
		{"minutes around midnight", 8, minuteStops(impl.DayMinutes - 4)},
	}
}

// minuteStops is in another one of 8 towns at each minute, from a time on.
func minuteStops(time int) []impl.Stop {
	stops := []impl.Stop{}
	for town := range impl.StopsMax {
		stops = append(stops, impl.Stop{Town: town, Arrive: time + town, Leave: time + town})
	}
	return stops
}

// mixedTables are timetables out of a fixed sequence: some crowded into few minutes, so that they meet, and some over all times.
func mixedTables(many int) []coachTable {
	s := &numbers{state: 11}
	tables := []coachTable{}
	for i := range many {
		n := 2 + s.below(impl.TownsMax-1)
		tables = append(tables, coachTable{fmt.Sprintf("mixed %d", i), n, mixedStops(s, n)})
	}
	return tables
}

// mixedStops returns a timetable of n towns.
func mixedStops(s *numbers, n int) []impl.Stop {
	towns := []int{}
	for town := range n {
		towns = append(towns, town)
	}
	for i := n - 1; i > 0; i-- {
		k := s.below(i + 1)
		towns[i], towns[k] = towns[k], towns[i]
	}
	time := []int{0, 1, 1400, 1435, 2870, 7000}[s.below(6)]
	longest := []int{1, 4, 30, 180}[s.below(4)]
	stops := []impl.Stop{}
	for _, town := range towns[:2+s.below(n-1)] {
		arrive := time + s.below(longest)
		leave := arrive + s.below(longest)
		stops = append(stops, impl.Stop{Town: town, Arrive: arrive, Leave: leave})
		time = leave + 1
	}
	return stops
}

// allSmallTables are all timetables of 3 towns whose times are 5 minutes that follow each other, from a time on.
func allSmallTables(first int) []coachTable {
	tables := []coachTable{}
	for _, stops := range smallStops(nil, first, first+4) {
		if len(stops) > 1 {
			tables = append(tables, coachTable{fmt.Sprintf("small %d from %d on", len(tables), first), 3, stops})
		}
	}
	return tables
}

// smallStops returns all lists that begin with some stops and go on in other towns of 3, from one time to another one.
func smallStops(begin []impl.Stop, from int, to int) [][]impl.Stop {
	lists := [][]impl.Stop{begin}
	for town := range 3 {
		if stopsIn(begin, town) {
			continue
		}
		for arrive := from; arrive <= to; arrive++ {
			for leave := arrive; leave <= to; leave++ {
				longer := append(begin[:len(begin):len(begin)], impl.Stop{Town: town, Arrive: arrive, Leave: leave})
				lists = append(lists, smallStops(longer, leave+1, to)...)
			}
		}
	}
	return lists
}

// stopsIn reports whether one of some stops is in a town.
func stopsIn(stops []impl.Stop, town int) bool {
	for _, s := range stops {
		if s.Town == town {
			return true
		}
	}
	return false
}

// allTables are all timetables on which the tests run.
func allTables() []coachTable {
	tables := append(namedTables(), mixedTables(300)...)
	for _, first := range []int{0, impl.DayMinutes - 2, impl.TimeMax - 4} {
		tables = append(tables, allSmallTables(first)...)
	}
	return tables
}

// eachTable runs a test on all timetables.
func eachTable(t *testing.T, test func(t *testing.T, c coachTable)) {
	t.Helper()
	for _, c := range allTables() {
		test(t, c)
		if t.Failed() {
			t.Fatalf("timetable %q: %d towns, stops %v", c.name, c.n, c.stops)
		}
	}
}

// pairedTables are the timetables that are held against each other: most of them run around one midnight, so that they meet.
func pairedTables() []coachTable {
	tables := append(namedTables(), mixedTables(120)...)
	for i, c := range allSmallTables(impl.DayMinutes - 2) {
		if i%7 == 0 {
			tables = append(tables, c)
		}
	}
	return tables
}

// eachTwoTables runs a test on pairs of timetables, also of one and itself, with as many towns as the one with more of them has.
func eachTwoTables(t *testing.T, test func(t *testing.T, n int, a coachTable, b coachTable)) {
	t.Helper()
	tables := pairedTables()
	for _, a := range tables {
		for _, b := range tables {
			test(t, max(a.n, b.n), a, b)
			if t.Failed() {
				t.Fatalf("timetables %q and %q: %v and %v", a.name, b.name, a.stops, b.stops)
			}
		}
	}
}

// noTables are numbers of towns and lists that are no timetables of them.
func noTables() []coachTable {
	two := []impl.Stop{{Town: 0, Arrive: 100, Leave: 110}, {Town: 1, Arrive: 150, Leave: 170}}
	tables := []coachTable{
		{"no towns", 0, two},
		{"negative number of towns", -1, two},
		{"most negative number of towns", -1 << 63, two},
		{"too many towns", 9, two},
		{"far too many towns", 1<<63 - 1, two},
		{"fewer towns", 1, two},
		{"one town", 1, two[:1]},
		{"nil", 3, nil},
		{"empty", 3, []impl.Stop{}},
		{"one stop", 3, two[:1]},
		{"nine stops", 8, append(minuteStops(0), impl.Stop{Town: 0, Arrive: 20, Leave: 20})},
		{"nine stops in nine towns", 9, append(minuteStops(0), impl.Stop{Town: 8, Arrive: 20, Leave: 20})},
		{"nine stops in nine towns of eight", 8, append(minuteStops(0), impl.Stop{Town: 8, Arrive: 20, Leave: 20})},
	}
	for i, s := range noThirdStops() {
		tables = append(tables, coachTable{fmt.Sprintf("third stop %d: %v", i, s), 3, append(two[:2:2], s)})
	}
	for i, s := range noFirstStops() {
		tables = append(tables, coachTable{fmt.Sprintf("first stop %d: %v", i, s), 3, append([]impl.Stop{s}, two...)})
	}
	return tables
}

// noThirdStops cannot follow the stops 0:100-110 and 1:150-170 of 3 towns.
func noThirdStops() []impl.Stop {
	stops := []impl.Stop{
		{Town: 3, Arrive: 180, Leave: 190}, {Town: -1, Arrive: 180, Leave: 190}, {Town: 1<<63 - 1, Arrive: 180, Leave: 190}, {Town: -1 << 63, Arrive: 180, Leave: 190},
		{Town: 0, Arrive: 180, Leave: 190}, {Town: 1, Arrive: 180, Leave: 190},
		{Town: 2, Arrive: 180, Leave: 179}, {Town: 2, Arrive: 180, Leave: -1}, {Town: 2, Arrive: 180, Leave: impl.TimeMax + 1},
		{Town: 2, Arrive: 170, Leave: 190}, {Town: 2, Arrive: 169, Leave: 190}, {Town: 2, Arrive: 150, Leave: 170}, {Town: 2, Arrive: 120, Leave: 130}, {Town: 2, Arrive: 0, Leave: 190},
		{Town: 2, Arrive: impl.TimeMax + 1, Leave: impl.TimeMax + 1}, {Town: 2, Arrive: impl.TimeMax + 1, Leave: impl.TimeMax}, {},
	}
	for _, far := range farNumbers() {
		stops = append(stops, impl.Stop{Town: 2, Arrive: 180, Leave: far}, impl.Stop{Town: 2, Arrive: far, Leave: far}, impl.Stop{Town: 2, Arrive: far, Leave: 190})
	}
	return stops
}

// noFirstStops cannot stand ahead of the stops 0:100-110 and 1:150-170 of 3 towns.
func noFirstStops() []impl.Stop {
	stops := []impl.Stop{
		{Town: 3, Arrive: 80, Leave: 90}, {Town: -1, Arrive: 80, Leave: 90}, {Town: 0, Arrive: 80, Leave: 90}, {Town: 1, Arrive: 80, Leave: 90},
		{Town: 2, Arrive: -1, Leave: 90}, {Town: 2, Arrive: -1, Leave: -1}, {Town: 2, Arrive: 91, Leave: 90},
		{Town: 2, Arrive: 80, Leave: 100}, {Town: 2, Arrive: 80, Leave: 101}, {Town: 2, Arrive: 100, Leave: 100}, {Town: 2, Arrive: 200, Leave: 210},
	}
	for _, far := range farNumbers() {
		stops = append(stops, impl.Stop{Town: 2, Arrive: far, Leave: 90}, impl.Stop{Town: 2, Arrive: far, Leave: far})
	}
	return stops
}
