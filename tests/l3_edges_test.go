package tests

import (
	"math"
	"slices"
	"testing"

	"loop.example/mailcoaches/impl"
)

// ascending returns the numbers from 0 on and less than k.
func ascending(k int) []int {
	list := []int{}
	for i := range k {
		list = append(list, i)
	}
	return list
}

func TestConstantsOfTeams(t *testing.T) {
	if impl.RunsMax != 12 || impl.RestMax != 600 {
		t.Errorf("RunsMax and RestMax are %d and %d", impl.RunsMax, impl.RestMax)
	}
}

func TestListsThatAreRuns(t *testing.T) {
	for _, c := range allRuns() {
		if !impl.RunsValid(c.runs) {
			t.Errorf("%s: RunsValid does not hold for %v", c.name, c.runs)
		}
	}
	full := lineRuns(0, 10, 0)
	for many := range len(full) + 1 {
		if !impl.RunsValid(full[:many]) {
			t.Errorf("RunsValid does not hold for %d runs", many)
		}
	}
}

func TestListsThatAreNoRuns(t *testing.T) {
	for _, c := range noRuns() {
		if impl.RunsValid(c.runs) {
			t.Errorf("%s: RunsValid holds", c.name)
		}
		own := make([]int, len(c.runs))
		for i := range own {
			own[i] = i % impl.RunsMax
		}
		for _, rest := range []int{0, 5, impl.RestMax, -1, impl.RestMax + 1} {
			checkNoRoster(t, c, rest, own)
			checkNoRoster(t, c, rest, nil)
			checkNoTeams(t, c, rest)
		}
		for _, teams := range append(farNumbers(), -1, 0, 1, 2, 12, 13) {
			if got := impl.RestMost(c.runs, teams); got != -1 {
				t.Errorf("%s: RestMost of %d teams is %d", c.name, teams, got)
			}
		}
		for _, r := range []impl.Run{{Start: 0, End: 1}, {Start: 120, End: 130}, {Start: 9000, End: 9001}, {}} {
			if got, ok := impl.RunsAdd(c.runs, r); ok || len(got) > 0 {
				t.Errorf("%s: RunsAdd of %v gives %v and %v", c.name, r, got, ok)
			}
		}
		for _, k := range append(farNumbers(), 0, 1, -1, 50, -50, 200, -10000) {
			if got, ok := impl.RunsLater(c.runs, k); ok || len(got) > 0 {
				t.Errorf("%s: RunsLater by %d gives %v and %v", c.name, k, got, ok)
			}
		}
	}
}

// checkNoRoster checks what is returned for a list that is no roster of runs.
func checkNoRoster(t *testing.T, c stableRuns, rest int, roster []int) {
	t.Helper()
	if impl.RosterValid(c.runs, rest, roster) {
		t.Errorf("%s: RosterValid of %v holds with a rest of %d", c.name, roster, rest)
	}
	if got := impl.RosterTeams(c.runs, rest, roster); got != -1 {
		t.Errorf("%s: RosterTeams of %v is %d", c.name, roster, got)
	}
	if got, ok := impl.RosterMinutes(c.runs, rest, roster); ok || len(got) > 0 {
		t.Errorf("%s: RosterMinutes of %v gives %v and %v", c.name, roster, got, ok)
	}
	for _, from := range []int{-1, 0, 1, len(c.runs) - 1, len(c.runs)} {
		for _, pair := range [][2]int{{0, 0}, {0, 1}, {1, 0}, {10, 11}, {-1, 12}} {
			if got, ok := impl.RosterSwap(c.runs, rest, roster, from, pair[0], pair[1]); ok || len(got) > 0 {
				t.Errorf("%s: RosterSwap in %v of %v from %d on gives %v and %v", c.name, roster, pair, from, got, ok)
			}
		}
	}
}

// checkNoTeams checks what is returned for a list that are no runs, or a number that is no rest.
func checkNoTeams(t *testing.T, c stableRuns, rest int) {
	t.Helper()
	if got, ok := impl.RosterMake(c.runs, rest); ok || len(got) > 0 {
		t.Errorf("%s: RosterMake with a rest of %d gives %v and %v", c.name, rest, got, ok)
	}
	if got := impl.TeamsLeast(c.runs, rest); got != -1 {
		t.Errorf("%s: TeamsLeast with a rest of %d is %d", c.name, rest, got)
	}
	for _, time := range []int{-1, 0, 100, 105, 180, impl.TimeMax, impl.TimeMax + 1} {
		if got := impl.TeamsBusy(c.runs, rest, time); got != -1 {
			t.Errorf("%s: TeamsBusy with a rest of %d at %d is %d", c.name, rest, time, got)
		}
	}
	if got, ok := impl.TeamsPeak(c.runs, rest); ok || got != 0 {
		t.Errorf("%s: TeamsPeak with a rest of %d gives %d and %v", c.name, rest, got, ok)
	}
}

func TestRestsAtLimits(t *testing.T) {
	for _, c := range namedRuns() {
		for _, rest := range noRests() {
			checkNoRoster(t, c, rest, ascending(len(c.runs)))
			checkNoTeams(t, c, rest)
		}
		for _, rest := range []int{0, 1, impl.RestMax - 1, impl.RestMax} {
			if !impl.RosterValid(c.runs, rest, ascending(len(c.runs))) || impl.TeamsLeast(c.runs, rest) == -1 || impl.TeamsBusy(c.runs, rest, 0) == -1 {
				t.Errorf("%s: a rest of %d is none", c.name, rest)
			}
		}
	}
}

func TestNoRunsAtAll(t *testing.T) {
	for _, none := range [][]impl.Run{nil, {}} {
		if !impl.RunsValid(none) || !impl.RosterValid(none, 0, nil) || !impl.RosterValid(none, impl.RestMax, []int{}) {
			t.Errorf("no runs are no runs, or have no roster")
		}
		checkNoRoster(t, stableRuns{"no runs", none}, 0, []int{0})
		if roster, ok := impl.RosterMake(none, 7); !ok || len(roster) > 0 {
			t.Errorf("RosterMake gives %v and %v", roster, ok)
		}
		if teams, least := impl.RosterTeams(none, 7, nil), impl.TeamsLeast(none, 7); teams != 0 || least != 0 {
			t.Errorf("RosterTeams is %d and TeamsLeast %d", teams, least)
		}
		if busy := impl.TeamsBusy(none, 7, 0); busy != 0 {
			t.Errorf("TeamsBusy is %d", busy)
		}
		if peak, ok := impl.TeamsPeak(none, 7); ok || peak != 0 {
			t.Errorf("TeamsPeak gives %d and %v", peak, ok)
		}
		for teams, want := range map[int]int{-1: -1, 0: -1, 1: impl.RestMax, 12: impl.RestMax, 13: -1} {
			if got := impl.RestMost(none, teams); got != want {
				t.Errorf("RestMost of %d teams is %d", teams, got)
			}
		}
		if more, ok := impl.RunsAdd(none, impl.Run{Start: 3, End: 4}); !ok || !slices.Equal(more, []impl.Run{{Start: 3, End: 4}}) {
			t.Errorf("RunsAdd gives %v and %v", more, ok)
		}
		for _, k := range append(farNumbers(), 0, 1, -1, impl.TimeMax, impl.TimeMax+1, -impl.TimeMax-1) {
			if later, ok := impl.RunsLater(none, k); !ok || len(later) > 0 {
				t.Errorf("RunsLater by %d gives %v and %v", k, later, ok)
			}
		}
		for _, from := range append(farNumbers(), -1, 0, 1) {
			if swapped, ok := impl.RosterSwap(none, 7, nil, from, 0, 0); ok || len(swapped) > 0 {
				t.Errorf("RosterSwap from %d on gives %v and %v", from, swapped, ok)
			}
		}
		if minutes, ok := impl.RosterMinutes(none, 7, nil); !ok || !slices.Equal(minutes, make([]int, 12)) {
			t.Errorf("RosterMinutes gives %v and %v", minutes, ok)
		}
	}
}

func TestRunsThatBeginTogether(t *testing.T) {
	for _, c := range namedTogether()[:11] {
		many := len(c.runs)
		for _, rest := range []int{0, 1, impl.RestMax} {
			if roster, ok := impl.RosterMake(c.runs, rest); !ok || !slices.Equal(roster, ascending(many)) {
				t.Errorf("%s: RosterMake with a rest of %d gives %v and %v", c.name, rest, roster, ok)
			}
			if least := impl.TeamsLeast(c.runs, rest); least != many {
				t.Errorf("%s: TeamsLeast with a rest of %d is %d", c.name, rest, least)
			}
			start := c.runs[0].Start
			if busy := impl.TeamsBusy(c.runs, rest, start); busy != many {
				t.Errorf("%s: TeamsBusy with a rest of %d is %d", c.name, rest, busy)
			}
			if peak, ok := impl.TeamsPeak(c.runs, rest); !ok || peak != start {
				t.Errorf("%s: TeamsPeak with a rest of %d gives %d and %v", c.name, rest, peak, ok)
			}
			// No two of these runs can have one team.
			for i := range many {
				for k := range i {
					roster := ascending(many)
					roster[i] = k
					checkNoRoster(t, c, rest, roster)
				}
			}
		}
		for teams := 1; teams <= impl.RunsMax; teams++ {
			want := -1
			if teams >= many {
				want = impl.RestMax
			}
			if got := impl.RestMost(c.runs, teams); got != want {
				t.Errorf("%s: RestMost of %d teams is %d", c.name, teams, got)
			}
		}
	}
}

func TestGroupsThatBeginTogether(t *testing.T) {
	for _, c := range []struct {
		runs   []impl.Run
		rest   int
		roster []int
		peak   int
	}{
		{slices.Concat(togetherRuns(10, 20, 20), togetherRuns(20, 30, 30)), 0, []int{0, 1, 0, 1}, 10},
		{slices.Concat(togetherRuns(10, 20, 20), togetherRuns(20, 30, 30)), 1, []int{0, 1, 2, 3}, 20},
		{slices.Concat(togetherRuns(10, 20, 20), togetherRuns(19, 30, 30)), 0, []int{0, 1, 2, 3}, 19},
		{slices.Concat(togetherRuns(10, 25, 20), togetherRuns(22, 30, 31, 29)), 2, []int{0, 1, 1, 2, 3}, 22},
		{slices.Concat(togetherRuns(10, 25, 20), togetherRuns(22, 30, 31, 29)), 3, []int{0, 1, 2, 3, 4}, 22},
		{slices.Concat(togetherRuns(10, 30, 18, 20), togetherRuns(20, 21, 40)), 0, []int{0, 1, 2, 1, 2}, 10},
		{slices.Concat(togetherRuns(10, 30, 18, 20), togetherRuns(20, 21, 40)), 2, []int{0, 1, 2, 1, 3}, 20},
		{slices.Concat(togetherRuns(10, 30, 20, 18), togetherRuns(20, 21, 40, 22)), 0, []int{0, 1, 2, 1, 2, 3}, 20},
		{slices.Concat(togetherRuns(0, 60, 50, 40, 30, 20, 10), togetherRuns(35, 45, 46, 47, 48, 49, 50)), 0, []int{0, 1, 2, 3, 4, 5, 3, 4, 5, 6, 7, 8}, 35},
		{slices.Concat(togetherRuns(0, 60, 50, 40, 30, 20, 10), togetherRuns(35, 45, 46, 47, 48, 49, 50)), 5, []int{0, 1, 2, 3, 4, 5, 3, 4, 5, 6, 7, 8}, 35},
		{slices.Concat(togetherRuns(0, 60, 50, 40, 30, 20, 10), togetherRuns(35, 45, 46, 47, 48, 49, 50)), 6, []int{0, 1, 2, 3, 4, 5, 4, 5, 6, 7, 8, 9}, 35},
	} {
		if roster, ok := impl.RosterMake(c.runs, c.rest); !ok || !slices.Equal(roster, c.roster) {
			t.Errorf("RosterMake of %v with a rest of %d gives %v and %v", c.runs, c.rest, roster, ok)
		}
		if least, want := impl.TeamsLeast(c.runs, c.rest), slices.Max(c.roster)+1; least != want {
			t.Errorf("TeamsLeast of %v with a rest of %d is %d", c.runs, c.rest, least)
		}
		if peak, ok := impl.TeamsPeak(c.runs, c.rest); !ok || peak != c.peak {
			t.Errorf("TeamsPeak of %v with a rest of %d gives %d and %v", c.runs, c.rest, peak, ok)
		}
	}
}

func TestRunsBehindRests(t *testing.T) {
	for _, rest := range []int{0, 1, 30, impl.RestMax} {
		first := impl.Run{Start: 100, End: 160}
		for _, gap := range []int{rest - 1, rest, rest + 1} {
			runs := []impl.Run{first, {Start: 160 + gap, End: 900}}
			if got, want := impl.RosterValid(runs, rest, []int{4, 4}), gap >= rest; got != want {
				t.Errorf("RosterValid of one team with a rest of %d and a gap of %d: %v", rest, gap, got)
			}
			want := []int{0, 0}
			if gap < rest {
				want = []int{0, 1}
			}
			if got, ok := impl.RosterMake(runs, rest); !ok || !slices.Equal(got, want) {
				t.Errorf("RosterMake with a rest of %d and a gap of %d gives %v and %v", rest, gap, got, ok)
			}
			if got := impl.TeamsLeast(runs, rest); got != want[1]+1 {
				t.Errorf("TeamsLeast with a rest of %d and a gap of %d is %d", rest, gap, got)
			}
			// A gap of -1 has both runs at one time, and RestMost is -1 as well.
			if got := impl.RestMost(runs, 1); got != min(gap, impl.RestMax) {
				t.Errorf("RestMost of one team with a gap of %d is %d", gap, got)
			}
		}
	}
}

func TestRostersWithLongAndShortRuns(t *testing.T) {
	// The team 0 is free again behind both others, but its number is the least one.
	runs := []impl.Run{{Start: 0, End: 90}, {Start: 1, End: 60}, {Start: 2, End: 30}, {Start: 30, End: 31}, {Start: 60, End: 95}, {Start: 90, End: 91}, {Start: 95, End: 96}, {Start: 95, End: 97}}
	if roster, ok := impl.RosterMake(runs, 0); !ok || !slices.Equal(roster, []int{0, 1, 2, 2, 1, 0, 0, 1}) {
		t.Errorf("RosterMake gives %v and %v", roster, ok)
	}
	if roster, ok := impl.RosterMake(runs, 4); !ok || !slices.Equal(roster, []int{0, 1, 2, 3, 2, 1, 0, 1}) {
		t.Errorf("RosterMake with a rest of 4 gives %v and %v", roster, ok)
	}
	if roster, ok := impl.RosterMake(crowdedRuns(), 0); !ok || !slices.Equal(roster, []int{0, 1, 2, 3, 4, 1, 5, 6, 1}) {
		t.Errorf("RosterMake of crowded runs gives %v and %v", roster, ok)
	}
	// A run that ends ahead of one that began sooner does not free the team of this one.
	checkNoRoster(t, stableRuns{"long and short", runs}, 0, []int{0, 1, 2, 2, 1, 1, 0, 3})
}

func TestBusyTeamsAtLimits(t *testing.T) {
	runs := plainRuns()
	for _, c := range []struct{ rest, time, busy int }{
		{5, 0, 0}, {5, 9, 0}, {5, 10, 1}, {5, 14, 1}, {5, 15, 2}, {5, 20, 2}, {5, 21, 2}, {5, 22, 3}, {5, 24, 3}, {5, 25, 2}, {5, 32, 2}, {5, 33, 1}, {5, 34, 1}, {5, 35, 1}, {5, 44, 1}, {5, 45, 0}, {5, 46, 0}, {5, impl.TimeMax, 0},
		{0, 19, 2}, {0, 20, 1}, {0, 22, 2}, {0, 27, 2}, {0, 28, 1}, {0, 29, 1}, {0, 30, 0}, {0, 34, 0}, {0, 35, 1}, {0, 39, 1}, {0, 40, 0},
		{impl.RestMax, 35, 4}, {impl.RestMax, 619, 4}, {impl.RestMax, 620, 3}, {impl.RestMax, 628, 2}, {impl.RestMax, 630, 1}, {impl.RestMax, 639, 1}, {impl.RestMax, 640, 0},
	} {
		if got := impl.TeamsBusy(runs, c.rest, c.time); got != c.busy {
			t.Errorf("TeamsBusy with a rest of %d at %d is %d, want %d", c.rest, c.time, got, c.busy)
		}
	}
	for _, time := range append(farNumbers(), -1, -10, impl.TimeMax+1) {
		for _, list := range [][]impl.Run{runs, nil, fullTogether(0, impl.TimeMax, 0)} {
			if got := impl.TeamsBusy(list, impl.RestMax, time); got != -1 {
				t.Errorf("TeamsBusy of %v at %d is %d", list, time, got)
			}
		}
	}
	whole := []impl.Run{{Start: 0, End: impl.TimeMax}}
	for _, c := range []struct{ rest, time, busy int }{{0, 0, 1}, {0, impl.TimeMax - 1, 1}, {0, impl.TimeMax, 0}, {1, impl.TimeMax, 1}, {impl.RestMax, impl.TimeMax, 1}} {
		if got := impl.TeamsBusy(whole, c.rest, c.time); got != c.busy {
			t.Errorf("TeamsBusy of a run at all times with a rest of %d at %d is %d", c.rest, c.time, got)
		}
	}
}

func TestFirstOfSeveralPeaks(t *testing.T) {
	twice := []impl.Run{{Start: 5, End: 15}, {Start: 10, End: 20}, {Start: 700, End: 715}, {Start: 710, End: 720}}
	for _, c := range []struct {
		name string
		runs []impl.Run
		rest int
		peak int
	}{
		{"just as busy later", twice, 0, 10},
		{"just as busy later, with a rest", twice, 100, 10},
		{"less busy later", twice[:3], 0, 10},
		{"busier later, with those at rest", []impl.Run{{Start: 5, End: 15}, {Start: 10, End: 20}, {Start: 300, End: 315}}, 300, 300},
		{"just as busy, as one has rested just then", []impl.Run{{Start: 5, End: 15}, {Start: 10, End: 20}, {Start: 300, End: 315}}, 285, 10},
		{"busier later", append(twice[:3:3], impl.Run{Start: 705, End: 706}, impl.Run{Start: 705, End: 799}), 0, 705},
		{"one after the other", lineRuns(100, 10, 0), 0, 100},
		{"one after the other, with a rest", lineRuns(100, 10, 0), 10, 110},
		{"one run", []impl.Run{{Start: 44, End: 50}}, 0, 44},
		{"at the first time", []impl.Run{{Start: 0, End: 1}, {Start: 1, End: 2}}, 0, 0},
		{"in the last minute", []impl.Run{{Start: 0, End: 1}, {Start: impl.TimeMax - 1, End: impl.TimeMax}, {Start: impl.TimeMax - 1, End: impl.TimeMax}}, 0, impl.TimeMax - 1},
	} {
		if peak, ok := impl.TeamsPeak(c.runs, c.rest); !ok || peak != c.peak {
			t.Errorf("%s: TeamsPeak gives %d and %v", c.name, peak, ok)
		}
	}
}

func TestRestsThatAreJustEnough(t *testing.T) {
	for _, c := range []struct {
		name        string
		runs        []impl.Run
		teams, rest int
	}{
		{"plain, 1 team", plainRuns(), 1, -1}, {"plain, 2 teams", plainRuns(), 2, 2}, {"plain, 3 teams", plainRuns(), 3, 15}, {"plain, 4 teams", plainRuns(), 4, impl.RestMax}, {"plain, RunsMax teams", plainRuns(), impl.RunsMax, impl.RestMax},
		{"one run", []impl.Run{{Start: 0, End: 1}}, 1, impl.RestMax},
		{"no gap", lineRuns(0, 10, 0), 1, 0}, {"no gap, 2 teams", lineRuns(0, 10, 0), 2, 10}, {"no gap, 11 teams", lineRuns(0, 10, 0), 11, 100}, {"no gap, 12 teams", lineRuns(0, 10, 0), 12, impl.RestMax},
		{"a minute over each other", lineRuns(0, 10, -1), 1, -1}, {"a minute over each other, 2 teams", lineRuns(0, 10, -1), 2, 8},
		{"gap of 1", lineRuns(0, 10, 1), 1, 1},
		{"gap of RestMax less 1", lineRuns(0, 10, impl.RestMax-1), 1, impl.RestMax - 1}, {"gap of RestMax", lineRuns(0, 10, impl.RestMax), 1, impl.RestMax}, {"gap of RestMax and 1", lineRuns(0, 10, impl.RestMax+1), 1, impl.RestMax},
		{"RunsMax together, 11 teams", fullTogether(0, 1, 0), 11, -1}, {"RunsMax together, 12 teams", fullTogether(0, 1, 0), 12, impl.RestMax},
		{"two and two, 1 team", slices.Concat(togetherRuns(10, 20, 20), togetherRuns(20, 30, 30)), 1, -1},
		{"two and two, 2 teams", slices.Concat(togetherRuns(10, 20, 20), togetherRuns(20, 30, 30)), 2, 0},
		{"two and two, 3 teams", slices.Concat(togetherRuns(10, 20, 20), togetherRuns(20, 30, 30)), 3, 0},
		{"two and two, 4 teams", slices.Concat(togetherRuns(10, 20, 20), togetherRuns(20, 30, 30)), 4, impl.RestMax},
	} {
		if rest := impl.RestMost(c.runs, c.teams); rest != c.rest {
			t.Errorf("%s: RestMost is %d, want %d", c.name, rest, c.rest)
		}
	}
	for _, teams := range append(farNumbers(), -1, 0, impl.RunsMax+1, 100) {
		for _, c := range namedRuns() {
			if rest := impl.RestMost(c.runs, teams); rest != -1 {
				t.Errorf("%s: RestMost of %d teams is %d", c.name, teams, rest)
			}
		}
	}
}

func TestListsThatAreNoRosters(t *testing.T) {
	plain := stableRuns{"plain", plainRuns()}
	for _, roster := range [][]int{nil, {}, {0}, {0, 1, 2}, {0, 1, 2, 3, 4}, {0, 1, 2, 3, 0}, {-1, 1, 2, 3}, {0, 1, 2, -1}, {12, 1, 2, 3}, {0, 1, 2, 12}, {0, 1, 2, 13}, {0, 0, 2, 3}, {0, 1, 0, 3}, {0, 1, 1, 3}, {0, 0, 0, 0}, {3, 2, 3, 3}} {
		checkNoRoster(t, plain, 3, roster)
	}
	for _, far := range farNumbers() {
		checkNoRoster(t, plain, 3, []int{far, 1, 2, 3})
		checkNoRoster(t, plain, 3, []int{0, 1, 2, far})
	}
	for _, roster := range [][]int{{0, 1, 2, 3}, {0, 1, 2, 0}, {11, 0, 5, 11}, {0, 1, 2, 1}, {8, 9, 10, 10}} {
		if !impl.RosterValid(plain.runs, 3, roster) {
			t.Errorf("RosterValid does not hold for %v", roster)
		}
	}
	for _, c := range namedRuns() {
		checkNoRoster(t, c, 0, ascending(len(c.runs)+1))
		if len(c.runs) > 0 {
			checkNoRoster(t, c, 0, ascending(len(c.runs)-1))
		}
	}
}

func TestTeamsOfRosters(t *testing.T) {
	for _, c := range []struct {
		runs    []impl.Run
		rest    int
		roster  []int
		teams   int
		minutes []int
	}{
		{plainRuns(), 5, []int{0, 1, 2, 0}, 3, []int{15, 15, 6, 0, 0, 0, 0, 0, 0, 0, 0, 0}},
		{plainRuns(), 2, []int{0, 1, 0, 1}, 2, []int{16, 20, 0, 0, 0, 0, 0, 0, 0, 0, 0, 0}},
		{plainRuns(), impl.RestMax, []int{11, 10, 9, 8}, 4, []int{0, 0, 0, 0, 0, 0, 0, 0, 5, 6, 15, 10}},
		{plainRuns(), 0, []int{11, 3, 11, 11}, 2, []int{0, 0, 0, 15, 0, 0, 0, 0, 0, 0, 0, 21}},
		{[]impl.Run{{Start: 0, End: impl.TimeMax}}, 600, []int{7}, 1, []int{0, 0, 0, 0, 0, 0, 0, impl.TimeMax, 0, 0, 0, 0}},
		{fullTogether(3, 1, 1), 0, ascending(12), 12, []int{1, 2, 3, 4, 5, 6, 7, 8, 9, 10, 11, 12}},
		{lineRuns(0, 10, 0), 0, make([]int, 12), 1, []int{120, 0, 0, 0, 0, 0, 0, 0, 0, 0, 0, 0}},
	} {
		if got := impl.RosterTeams(c.runs, c.rest, c.roster); got != c.teams {
			t.Errorf("RosterTeams of %v is %d, want %d", c.roster, got, c.teams)
		}
		if got, ok := impl.RosterMinutes(c.runs, c.rest, c.roster); !ok || !slices.Equal(got, c.minutes) {
			t.Errorf("RosterMinutes of %v gives %v and %v", c.roster, got, ok)
		}
	}
}

func TestPlacesOfAddedRuns(t *testing.T) {
	runs := []impl.Run{{Start: 10, End: 20}, {Start: 15, End: 30}, {Start: 15, End: 17}, {Start: 22, End: 28}}
	for _, c := range []struct {
		run   impl.Run
		place int
	}{
		{impl.Run{Start: 0, End: 1}, 0}, {impl.Run{Start: 9, End: 50}, 0}, {impl.Run{Start: 10, End: 11}, 1}, {impl.Run{Start: 10, End: 30}, 1}, {impl.Run{Start: 11, End: 12}, 1}, {impl.Run{Start: 14, End: 16}, 1},
		{impl.Run{Start: 15, End: 16}, 3}, {impl.Run{Start: 15, End: 29}, 3}, {impl.Run{Start: 15, End: 40}, 3}, {impl.Run{Start: 16, End: 17}, 3}, {impl.Run{Start: 21, End: 99}, 3}, {impl.Run{Start: 22, End: 23}, 4}, {impl.Run{Start: 23, End: 24}, 4},
		{impl.Run{Start: impl.TimeMax - 1, End: impl.TimeMax}, 4}, {impl.Run{Start: 0, End: impl.TimeMax}, 0},
	} {
		want := slices.Insert(slices.Clone(runs), c.place, c.run)
		if got, ok := impl.RunsAdd(runs, c.run); !ok || !slices.Equal(got, want) {
			t.Errorf("RunsAdd of %v gives %v and %v, want %v", c.run, got, ok, want)
		}
	}
	for _, none := range noSingleRuns() {
		if got, ok := impl.RunsAdd(runs, none); ok || len(got) > 0 {
			t.Errorf("RunsAdd of %v gives %v and %v", none, got, ok)
		}
	}
}

func TestAddedToManyRuns(t *testing.T) {
	for _, full := range [][]impl.Run{lineRuns(100, 10, 0), fullTogether(100, 10, 0)} {
		for _, r := range []impl.Run{{Start: 0, End: 1}, {Start: 100, End: 101}, {Start: 105, End: 106}, {Start: 9000, End: 9001}} {
			if got, ok := impl.RunsAdd(full, r); ok || len(got) > 0 {
				t.Errorf("RunsAdd of %v to RunsMax runs gives %v and %v", r, got, ok)
			}
			if got, ok := impl.RunsAdd(full[:11], r); !ok || len(got) != 12 || !impl.RunsValid(got) {
				t.Errorf("RunsAdd of %v to RunsMax less 1 runs gives %v and %v", r, got, ok)
			}
		}
	}
}

func TestShiftsOfRunsAtLimits(t *testing.T) {
	runs := []impl.Run{{Start: 10, End: 90}, {Start: 10, End: 20}, {Start: 40, End: 50}}
	for _, k := range []int{0, 1, -1, -9, -10, 60, impl.TimeMax - 91, impl.TimeMax - 90} {
		want := []impl.Run{{Start: 10 + k, End: 90 + k}, {Start: 10 + k, End: 20 + k}, {Start: 40 + k, End: 50 + k}}
		if got, ok := impl.RunsLater(runs, k); !ok || !slices.Equal(got, want) {
			t.Errorf("RunsLater by %d gives %v and %v", k, got, ok)
		}
	}
	// The greatest End is not that of the last run.
	for _, k := range append(farNumbers(), -11, -12, -90, impl.TimeMax-89, impl.TimeMax-50, impl.TimeMax, math.MinInt+50, math.MaxInt-50) {
		if got, ok := impl.RunsLater(runs, k); ok || len(got) > 0 {
			t.Errorf("RunsLater by %d gives %v and %v", k, got, ok)
		}
	}
	for _, c := range namedRuns() {
		if got, ok := impl.RunsLater(c.runs, 0); !ok || !slices.Equal(got, c.runs) {
			t.Errorf("%s: RunsLater by 0 gives %v and %v", c.name, got, ok)
		}
	}
	whole := []impl.Run{{Start: 0, End: impl.TimeMax}}
	for _, k := range append(farNumbers(), 1, -1) {
		if got, ok := impl.RunsLater(whole, k); ok || len(got) > 0 {
			t.Errorf("RunsLater of a run at all times by %d gives %v and %v", k, got, ok)
		}
	}
}

func TestSwapsAtLimits(t *testing.T) {
	roster := []int{0, 1, 2, 0}
	for _, c := range []struct {
		rest, from, a, b int
		want             []int
	}{
		{5, 0, 0, 0, roster}, {5, 3, 0, 0, roster}, {5, 0, 7, 7, roster}, {5, 0, 7, 11, roster}, {5, 2, 1, 3, roster},
		{5, 0, 0, 1, []int{1, 0, 2, 1}}, {5, 0, 1, 0, []int{1, 0, 2, 1}}, {5, 0, 0, 11, []int{11, 1, 2, 11}}, {5, 0, 11, 0, []int{11, 1, 2, 11}},
		{5, 1, 0, 11, []int{0, 1, 2, 11}}, {5, 3, 0, 5, []int{0, 1, 2, 5}}, {5, 3, 5, 0, []int{0, 1, 2, 5}}, {5, 3, 0, 1, []int{0, 1, 2, 1}}, {5, 3, 1, 0, []int{0, 1, 2, 1}}, {5, 3, 0, 2, []int{0, 1, 2, 2}}, {7, 3, 0, 2, []int{0, 1, 2, 2}},
		{8, 3, 0, 2, nil}, {6, 3, 0, 1, nil}, {5, 1, 0, 1, nil}, {5, 2, 2, 1, nil}, {2, 1, 0, 2, []int{0, 1, 0, 2}}, {2, 2, 0, 2, []int{0, 1, 0, 2}}, {3, 2, 0, 2, nil}, {5, 1, 0, 2, nil},
	} {
		if got, ok := impl.RosterSwap(plainRuns(), c.rest, roster, c.from, c.a, c.b); ok != (c.want != nil) || !slices.Equal(got, c.want) {
			t.Errorf("RosterSwap of %d and %d from %d on with a rest of %d gives %v and %v, want %v", c.a, c.b, c.from, c.rest, got, ok, c.want)
		}
	}
}

func TestSwapsThatFail(t *testing.T) {
	runs, roster := plainRuns(), []int{0, 1, 2, 0}
	for _, from := range append(farNumbers(), -1, -2, 4, 5, 12) {
		for _, pair := range [][2]int{{0, 0}, {3, 4}, {0, 1}} {
			if got, ok := impl.RosterSwap(runs, 5, roster, from, pair[0], pair[1]); ok || len(got) > 0 {
				t.Errorf("RosterSwap of %v from %d on gives %v and %v", pair, from, got, ok)
			}
		}
	}
	for _, none := range append(farNumbers(), -1, 12, 13) {
		for _, pair := range [][2]int{{none, none}, {none, 0}, {0, none}, {none, 5}, {5, none}} {
			for _, from := range []int{0, 3} {
				if got, ok := impl.RosterSwap(runs, 5, roster, from, pair[0], pair[1]); ok || len(got) > 0 {
					t.Errorf("RosterSwap of %v from %d on gives %v and %v", pair, from, got, ok)
				}
			}
		}
	}
	one := []impl.Run{{Start: 0, End: 1}}
	if got, ok := impl.RosterSwap(one, 0, []int{0}, 0, 0, 11); !ok || !slices.Equal(got, []int{11}) {
		t.Errorf("RosterSwap in the roster of one run gives %v and %v", got, ok)
	}
}
