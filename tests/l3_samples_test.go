package tests

import (
	"fmt"
	"slices"
	"testing"

	"loop.example/mailcoaches/impl"
)

// stableRuns are runs with the name by which a failure is told.
type stableRuns struct {
	name string
	runs []impl.Run
}

// plainRuns need 2 teams up to a rest of 2, and 3 from a rest of 3 on.
func plainRuns() []impl.Run {
	return []impl.Run{{Start: 10, End: 20}, {Start: 15, End: 30}, {Start: 22, End: 28}, {Start: 35, End: 40}}
}

// togetherRuns are runs that begin at one time, with an End for each.
func togetherRuns(start int, ends ...int) []impl.Run {
	runs := []impl.Run{}
	for _, end := range ends {
		runs = append(runs, impl.Run{Start: start, End: end})
	}
	return runs
}

// fullTogether are RunsMax runs that begin at one time: the first one has a number of minutes, and each next one some more.
func fullTogether(start int, minutes int, more int) []impl.Run {
	runs := []impl.Run{}
	for i := range impl.RunsMax {
		runs = append(runs, impl.Run{Start: start, End: start + minutes + i*more})
	}
	return runs
}

// lineRuns are RunsMax runs of some minutes, each a number of minutes behind the one ahead.
func lineRuns(start int, minutes int, gap int) []impl.Run {
	runs := []impl.Run{}
	for range impl.RunsMax {
		runs = append(runs, impl.Run{Start: start, End: start + minutes})
		start += minutes + gap
	}
	return runs
}

// crowdedRuns have 8 teams away at one time, that come free in another order than they went.
func crowdedRuns() []impl.Run {
	return slices.Concat(togetherRuns(0, 14, 4, 6, 16), togetherRuns(3, 7), togetherRuns(5, 7, 12, 13), togetherRuns(7, 17))
}

// namedTogether are the runs that begin together.
func namedTogether() []stableRuns {
	return []stableRuns{
		{"two together, same End", togetherRuns(100, 150, 150)},
		{"two together, the shorter one first", togetherRuns(100, 110, 150)},
		{"two together, the longer one first", togetherRuns(100, 150, 110)},
		{"five together, same End", togetherRuns(7, 9, 9, 9, 9, 9)},
		{"five together, mixed Ends", togetherRuns(7, 30, 8, 22, 22, 9)},
		{"RunsMax together, same End", fullTogether(500, 60, 0)},
		{"RunsMax together, rising Ends", fullTogether(500, 1, 5)},
		{"RunsMax together, falling Ends", fullTogether(500, 100, -9)},
		{"RunsMax together, for a minute", fullTogether(0, 1, 0)},
		{"RunsMax together, in the last minute", fullTogether(impl.TimeMax-1, 1, 0)},
		{"RunsMax together, all the time", fullTogether(0, impl.TimeMax, 0)},
		{"two and two, the second ones at the End of the first ones", slices.Concat(togetherRuns(10, 20, 20), togetherRuns(20, 30, 30))},
		{"two and two, a minute ahead of that", slices.Concat(togetherRuns(10, 20, 20), togetherRuns(19, 30, 30))},
		{"two and three, the first ones with different Ends", slices.Concat(togetherRuns(10, 25, 20), togetherRuns(22, 30, 31, 29))},
		{"three and two, of which two can go on", slices.Concat(togetherRuns(10, 30, 18, 20), togetherRuns(20, 21, 40))},
		{"six and six, one at a time free", slices.Concat(togetherRuns(0, 60, 50, 40, 30, 20, 10), togetherRuns(35, 45, 46, 47, 48, 49, 50))},
		{"three times four", slices.Concat(togetherRuns(0, 10, 12, 11, 13), togetherRuns(11, 20, 20, 20, 20), togetherRuns(20, 21, 22, 23, 24))},
		{"some alone, then together", []impl.Run{{Start: 0, End: 50}, {Start: 10, End: 12}, {Start: 20, End: 21}, {Start: 60, End: 70}, {Start: 60, End: 65}, {Start: 60, End: 80}}},
		{"together, then some alone", []impl.Run{{Start: 60, End: 70}, {Start: 60, End: 65}, {Start: 60, End: 80}, {Start: 65, End: 66}, {Start: 70, End: 99}, {Start: 80, End: 81}}},
	}
}

// namedRuns are the runs with the edge cases of the chapter.
func namedRuns() []stableRuns {
	return append(namedTogether(), []stableRuns{
		{"nil", nil},
		{"empty", []impl.Run{}},
		{"plain", plainRuns()},
		{"one run", []impl.Run{{Start: 300, End: 360}}},
		{"one run, in the first minute", []impl.Run{{Start: 0, End: 1}}},
		{"one run, in the last minute", []impl.Run{{Start: impl.TimeMax - 1, End: impl.TimeMax}}},
		{"one run, all the time", []impl.Run{{Start: 0, End: impl.TimeMax}}},
		{"in a line, without a gap", lineRuns(0, 10, 0)},
		{"in a line, a minute over each other", lineRuns(100, 10, -1)},
		{"in a line, with a gap of 1", lineRuns(100, 10, 1)},
		{"in a line, with a gap of RestMax", lineRuns(30, 200, impl.RestMax)},
		{"in a line, with a gap of RestMax less 1", lineRuns(30, 200, impl.RestMax-1)},
		{"in a line, with a gap of RestMax and 1", lineRuns(30, 200, impl.RestMax+1)},
		{"each begins a minute behind the one ahead", lineRuns(0, 100, -99)},
		{"up to the last time", lineRuns(impl.TimeMax-12*10, 10, 0)},
		{"short ones during a long one", []impl.Run{{Start: 0, End: 1000}, {Start: 10, End: 20}, {Start: 30, End: 40}, {Start: 50, End: 60}, {Start: 70, End: 1000}}},
		{"two that are just as busy later", []impl.Run{{Start: 5, End: 15}, {Start: 10, End: 20}, {Start: 700, End: 715}, {Start: 710, End: 720}}},
		{"busier later", []impl.Run{{Start: 5, End: 15}, {Start: 10, End: 20}, {Start: 710, End: 715}, {Start: 711, End: 720}, {Start: 712, End: 720}}},
		{"many away, a short run among the first ones", crowdedRuns()},
		{"free in another order than they went", []impl.Run{{Start: 0, End: 90}, {Start: 1, End: 60}, {Start: 2, End: 30}, {Start: 30, End: 31}, {Start: 60, End: 95}, {Start: 90, End: 91}, {Start: 95, End: 96}, {Start: 95, End: 97}}},
	}...)
}

// mixedRuns are runs out of a fixed sequence: many of them begin together, and some are spread over all times.
func mixedRuns(many int) []stableRuns {
	s := &numbers{state: 23}
	lists := []stableRuns{}
	for i := range many {
		span := []int{3, 10, 60, 900, 7000}[s.below(5)]
		longest := []int{1, 3, 20, 200, 1500}[s.below(5)]
		begin := []int{0, 1, 1400, impl.TimeMax - span - longest}[s.below(4)]
		runs := []impl.Run{}
		for range s.below(impl.RunsMax + 1) {
			start := begin + s.below(span)
			runs = append(runs, impl.Run{Start: start, End: start + 1 + s.below(longest)})
		}
		slices.SortStableFunc(runs, func(a impl.Run, b impl.Run) int { return a.Start - b.Start })
		lists = append(lists, stableRuns{fmt.Sprintf("mixed %d", i), runs})
	}
	return lists
}

// crowdedLists are 8 to RunsMax runs of a few minutes each, so that many teams come free between others.
func crowdedLists(many int) []stableRuns {
	s := &numbers{state: 53}
	lists := []stableRuns{}
	for i := range many {
		runs := []impl.Run{}
		start, spread, longest := 0, 2+s.below(3), 4+s.below(20)
		for range 8 + s.below(impl.RunsMax-7) {
			start += s.below(spread)
			runs = append(runs, impl.Run{Start: start, End: start + 1 + s.below(longest)})
		}
		lists = append(lists, stableRuns{fmt.Sprintf("crowded %d", i), runs})
	}
	return lists
}

// allSmallRuns are all lists of at most 3 runs whose times are 5 minutes that follow each other, from a time on.
func allSmallRuns(first int) []stableRuns {
	lists := []stableRuns{}
	for _, runs := range smallRuns(nil, first, first+4, 3) {
		lists = append(lists, stableRuns{fmt.Sprintf("small %d from %d on", len(lists), first), runs})
	}
	return lists
}

// smallRuns returns all lists that begin with some runs and go on with at most a number of them, from one time to another one.
func smallRuns(begin []impl.Run, from int, to int, most int) [][]impl.Run {
	lists := [][]impl.Run{begin}
	if most == 0 {
		return lists
	}
	for start := from; start < to; start++ {
		for end := start + 1; end <= to; end++ {
			longer := append(begin[:len(begin):len(begin)], impl.Run{Start: start, End: end})
			lists = append(lists, smallRuns(longer, start, to, most-1)...)
		}
	}
	return lists
}

// allRuns are all runs on which the tests are done.
func allRuns() []stableRuns {
	return slices.Concat(namedRuns(), mixedRuns(150), allSmallRuns(0), allSmallRuns(impl.TimeMax-4))
}

// eachRuns does a test with all runs.
func eachRuns(t *testing.T, test func(t *testing.T, c stableRuns)) {
	t.Helper()
	for _, c := range allRuns() {
		test(t, c)
		if t.Failed() {
			t.Fatalf("runs %q: %v", c.name, c.runs)
		}
	}
}

// eachRest does a test with all runs and the rests that matter to them.
func eachRest(t *testing.T, test func(t *testing.T, c stableRuns, rest int)) {
	t.Helper()
	eachRuns(t, func(t *testing.T, c stableRuns) {
		for _, rest := range restsOf(c.runs) {
			test(t, c, rest)
			if t.Failed() {
				t.Fatalf("with a rest of %d", rest)
			}
		}
	})
}

// eachRoster does a test with all runs, the rests that matter to them, and some rosters with these.
func eachRoster(t *testing.T, test func(t *testing.T, c stableRuns, rest int, roster []int)) {
	t.Helper()
	s := &numbers{state: 31}
	eachRest(t, func(t *testing.T, c stableRuns, rest int) {
		for _, roster := range rostersOf(s, c.runs, rest) {
			test(t, c, rest, roster)
			if t.Failed() {
				t.Fatalf("with the roster %v", roster)
			}
		}
	})
}

// restsOf are the limits of a rest, and the rests with which a run can just follow another one, just can't, and can a minute sooner.
func restsOf(runs []impl.Run) []int {
	rests := []int{0, 1, 5, 60, impl.RestMax - 1, impl.RestMax}
	for _, a := range runs {
		for _, b := range runs[:min(len(runs), 5)] {
			gap := b.Start - a.End
			rests = append(rests, gap-1, gap, gap+1)
		}
	}
	slices.Sort(rests)
	rests = slices.Compact(rests)
	return slices.DeleteFunc(rests, func(rest int) bool { return rest < 0 || rest > impl.RestMax })
}

// rostersOf are rosters of runs: a team for each run, from the first and from the last number on, and some out of a sequence.
func rostersOf(s *numbers, runs []impl.Run, rest int) [][]int {
	up, down := []int{}, []int{}
	for i := range runs {
		up, down = append(up, i), append(down, impl.RunsMax-1-i)
	}
	rosters := [][]int{up, down}
	for _, teams := range []int{2, 4, impl.RunsMax} {
		rosters = append(rosters, mixedRoster(s, runs, rest, teams))
	}
	return rosters
}

// mixedRoster gives each run one of the first teams, if it can begin it, and otherwise the next one that can.
func mixedRoster(s *numbers, runs []impl.Run, rest int, teams int) []int {
	free := make([]int, impl.RunsMax)
	roster := []int{}
	for _, r := range runs {
		team := s.below(teams)
		for free[team] > r.Start {
			team = (team + 1) % impl.RunsMax
		}
		free[team] = r.End + rest
		roster = append(roster, team)
	}
	return roster
}

// noRuns are lists that are no runs.
func noRuns() []stableRuns {
	two := []impl.Run{{Start: 100, End: 110}, {Start: 150, End: 170}}
	lists := []stableRuns{
		{"Starts fall", []impl.Run{{Start: 100, End: 110}, {Start: 99, End: 170}}},
		{"Starts fall at the end", []impl.Run{{Start: 100, End: 110}, {Start: 150, End: 170}, {Start: 149, End: 180}}},
		{"Starts fall, Ends do not", []impl.Run{{Start: 100, End: 110}, {Start: 0, End: 120}}},
		{"Starts fall behind others that begin together", []impl.Run{{Start: 100, End: 110}, {Start: 100, End: 120}, {Start: 99, End: 170}}},
		{"thirteen runs", append(lineRuns(0, 10, 0), impl.Run{Start: 500, End: 510})},
		{"thirteen runs that begin together", append(fullTogether(500, 60, 0), impl.Run{Start: 500, End: 560})},
		{"far too many runs", slices.Repeat([]impl.Run{{Start: 5, End: 6}}, 100)},
	}
	for i, r := range noSingleRuns() {
		lists = append(lists,
			stableRuns{fmt.Sprintf("run %d alone: %v", i, r), []impl.Run{r}},
			stableRuns{fmt.Sprintf("run %d first: %v", i, r), append([]impl.Run{r}, two...)},
			stableRuns{fmt.Sprintf("run %d last: %v", i, r), append(two[:2:2], r)},
		)
	}
	return lists
}

// noSingleRuns are runs that can be in no list.
func noSingleRuns() []impl.Run {
	runs := []impl.Run{
		{Start: 180, End: 180}, {Start: 180, End: 179}, {Start: 180, End: 0}, {Start: 180, End: -1}, {Start: 0, End: 0}, {}, {Start: 1, End: 0},
		{Start: -1, End: 200}, {Start: -1, End: 0}, {Start: -1, End: -1}, {Start: -200, End: -100},
		{Start: 180, End: impl.TimeMax + 1}, {Start: 0, End: impl.TimeMax + 1}, {Start: impl.TimeMax, End: impl.TimeMax}, {Start: impl.TimeMax, End: impl.TimeMax + 1}, {Start: impl.TimeMax + 1, End: impl.TimeMax + 2},
		{Start: impl.TimeMax + 1, End: impl.TimeMax},
	}
	for _, far := range farNumbers() {
		runs = append(runs, impl.Run{Start: 180, End: far}, impl.Run{Start: far, End: 200}, impl.Run{Start: far, End: far}, impl.Run{Start: far, End: far + 1})
	}
	return runs
}

// noRests are numbers that are no rests.
func noRests() []int {
	return append(farNumbers(), -1, -2, -600, impl.RestMax+1, impl.RestMax+2, 1200, impl.TimeMax)
}
