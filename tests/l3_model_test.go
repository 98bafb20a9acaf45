package tests

import (
	"slices"
	"testing"

	"loop.example/mailcoaches/impl"
)

// The model counts minute by minute, and tries rosters until one fits: each two runs of a team are held against each other.

// modelBusy returns how many teams are on the road or at rest at each time.
func modelBusy(runs []impl.Run, rest int) []int {
	busy := make([]int, impl.TimeMax+1)
	for _, r := range runs {
		for time := r.Start; time < r.End+rest && time <= impl.TimeMax; time++ {
			busy[time]++
		}
	}
	return busy
}

// modelApart reports whether one team can have two runs.
func modelApart(a impl.Run, b impl.Run, rest int) bool {
	return a.End+rest <= b.Start || b.End+rest <= a.Start
}

// modelRoster reports whether a list is a roster of runs.
func modelRoster(runs []impl.Run, rest int, roster []int) bool {
	if len(roster) != len(runs) {
		return false
	}
	for i, team := range roster {
		if team < 0 || team > 11 {
			return false
		}
		for k := range i {
			if roster[k] == team && !modelApart(runs[k], runs[i], rest) {
				return false
			}
		}
	}
	return true
}

// modelMake returns the roster in which each run gets the least team that makes a roster of the runs up to it.
func modelMake(runs []impl.Run, rest int) []int {
	roster := []int{}
	for i := range runs {
		team := 0
		for !modelRoster(runs[:i+1], rest, append(slices.Clone(roster), team)) {
			team++
		}
		roster = append(roster, team)
	}
	return roster
}

// modelEnough reports whether a number of teams is enough: some of all ways to go on with a begun roster leads to one.
func modelEnough(runs []impl.Run, rest int, begun []int, teams int) bool {
	if len(begun) == len(runs) {
		return true
	}
	// Teams that have no run yet are alike, so only the first one of them is tried.
	for team := 0; team < teams && team <= slices.Max(append([]int{-1}, begun...))+1; team++ {
		longer := append(slices.Clone(begun), team)
		if modelRoster(runs[:len(longer)], rest, longer) && modelEnough(runs, rest, longer, teams) {
			return true
		}
	}
	return false
}

// modelLeast returns the least number of teams that is enough.
func modelLeast(runs []impl.Run, rest int) int {
	teams := 0
	for !modelEnough(runs, rest, nil, teams) {
		teams++
	}
	return teams
}

// modelMinutes counts the minutes of each team one by one.
func modelMinutes(runs []impl.Run, roster []int) []int {
	minutes := make([]int, 12)
	for i, r := range runs {
		for time := r.Start; time < r.End; time++ {
			minutes[roster[i]]++
		}
	}
	return minutes
}

// modelSwap returns a roster with two teams exchanged from an index on, and whether it is one.
func modelSwap(runs []impl.Run, rest int, roster []int, from int, a int, b int) ([]int, bool) {
	swapped := slices.Clone(roster)
	for i, team := range roster {
		if i >= from && team == a {
			swapped[i] = b
		}
		if i >= from && team == b {
			swapped[i] = a
		}
	}
	if !modelRoster(runs, rest, swapped) {
		return nil, false
	}
	return swapped, true
}

func TestModelOfBusyTeams(t *testing.T) {
	lists := slices.Concat(namedRuns(), mixedRuns(60), allSmallRuns(0)[:200])
	for _, c := range lists {
		for _, rest := range []int{0, 1, 2, 60, impl.RestMax} {
			busy := modelBusy(c.runs, rest)
			for _, time := range busyTimes(c.runs, rest) {
				if got := impl.TeamsBusy(c.runs, rest, time); got != busy[time] {
					t.Errorf("%s: TeamsBusy with a rest of %d at %d: got %d, want %d", c.name, rest, time, got, busy[time])
				}
			}
			most := slices.Max(busy)
			if got := impl.TeamsLeast(c.runs, rest); got != most {
				t.Errorf("%s: TeamsLeast with a rest of %d: got %d, want %d", c.name, rest, got, most)
			}
			want := 0
			if most > 0 {
				want = slices.Index(busy, most)
			}
			if got, ok := impl.TeamsPeak(c.runs, rest); got != want || ok != (most > 0) {
				t.Errorf("%s: TeamsPeak with a rest of %d: got %d and %v, want %d", c.name, rest, got, ok, want)
			}
		}
	}
}

func TestModelOfMake(t *testing.T) {
	eachRest(t, func(t *testing.T, c stableRuns, rest int) {
		want := modelMake(c.runs, rest)
		if got, ok := impl.RosterMake(c.runs, rest); !ok || !slices.Equal(got, want) {
			t.Errorf("RosterMake with a rest of %d: got %v and %v, want %v", rest, got, ok, want)
		}
	})
}

func TestModelOfCrowdedStables(t *testing.T) {
	for _, c := range crowdedLists(3000) {
		for rest := range 3 {
			want := modelMake(c.runs, rest)
			if got, ok := impl.RosterMake(c.runs, rest); !ok || !slices.Equal(got, want) {
				t.Fatalf("RosterMake of %v with a rest of %d: got %v and %v, want %v", c.runs, rest, got, ok, want)
			}
			if got := impl.TeamsLeast(c.runs, rest); got != slices.Max(want)+1 {
				t.Fatalf("TeamsLeast of %v with a rest of %d: got %d, want %d", c.runs, rest, got, slices.Max(want)+1)
			}
		}
	}
}

// TestModelOfLeast leaves out lists that are so long that all their rosters could not be tried.
func TestModelOfLeast(t *testing.T) {
	eachRest(t, func(t *testing.T, c stableRuns, rest int) {
		if len(c.runs) > 7 {
			return
		}
		want := modelLeast(c.runs, rest)
		if got := impl.TeamsLeast(c.runs, rest); got != want {
			t.Errorf("TeamsLeast with a rest of %d: got %d, want %d", rest, got, want)
		}
	})
}

// TestModelOfSmallRosters holds all lists of 3 teams, also of some that there are not, against the model.
func TestModelOfSmallRosters(t *testing.T) {
	teams := []int{-1, 0, 1, 11, 12}
	for _, c := range allSmallRuns(0) {
		if len(c.runs) != 3 {
			continue
		}
		for code := range 125 {
			roster := []int{teams[code%5], teams[code/5%5], teams[code/25]}
			for rest := range 4 {
				fits := modelRoster(c.runs, rest, roster)
				if got := impl.RosterValid(c.runs, rest, roster); got != fits {
					t.Fatalf("RosterValid of %v with a rest of %d and %v: got %v", c.runs, rest, roster, got)
				}
				checkSmallRoster(t, c.runs, rest, roster, fits)
			}
		}
	}
}

// checkSmallRoster checks RosterTeams and RosterMinutes of a list that can be a roster.
func checkSmallRoster(t *testing.T, runs []impl.Run, rest int, roster []int, fits bool) {
	t.Helper()
	teams, minutes := -1, []int{}
	if fits {
		different := slices.Clone(roster)
		slices.Sort(different)
		teams, minutes = len(slices.Compact(different)), modelMinutes(runs, roster)
	}
	if got := impl.RosterTeams(runs, rest, roster); got != teams {
		t.Fatalf("RosterTeams of %v with a rest of %d and %v: got %d, want %d", runs, rest, roster, got, teams)
	}
	if got, ok := impl.RosterMinutes(runs, rest, roster); ok != fits || !slices.Equal(got, minutes) {
		t.Fatalf("RosterMinutes of %v with a rest of %d and %v: got %v and %v, want %v", runs, rest, roster, got, ok, minutes)
	}
}

func TestModelOfRosters(t *testing.T) {
	s := &numbers{state: 41}
	eachRoster(t, func(t *testing.T, c stableRuns, rest int, roster []int) {
		checkSmallRoster(t, c.runs, rest, roster, true)
		if len(roster) == 0 {
			return
		}
		for range 5 {
			changed := slices.Clone(roster)
			changed[s.below(len(roster))] = s.below(impl.RunsMax)
			if got, want := impl.RosterValid(c.runs, rest, changed), modelRoster(c.runs, rest, changed); got != want {
				t.Errorf("RosterValid of %v: got %v", changed, got)
			}
		}
	})
}

func TestModelOfRestMost(t *testing.T) {
	for _, c := range slices.Concat(namedRuns(), mixedRuns(60)) {
		least := []int{}
		for rest := range impl.RestMax + 1 {
			roster := modelMake(c.runs, rest)
			least = append(least, slices.Max(append([]int{-1}, roster...))+1)
		}
		for teams := -1; teams <= impl.RunsMax+1; teams++ {
			want := -1
			for rest, number := range least {
				if 1 <= teams && teams <= 12 && number <= teams {
					want = rest
				}
			}
			if got := impl.RestMost(c.runs, teams); got != want {
				t.Errorf("%s: RestMost of %d teams: got %d, want %d", c.name, teams, got, want)
			}
		}
	}
}

func TestModelOfAddedRuns(t *testing.T) {
	eachRuns(t, func(t *testing.T, c stableRuns) {
		for _, r := range append(addedRuns(c.runs), noSingleRuns()...) {
			want := append(slices.Clone(c.runs), r)
			slices.SortStableFunc(want, func(a impl.Run, b impl.Run) int { return a.Start - b.Start })
			fits := len(want) <= 12 && 0 <= r.Start && r.Start < r.End && r.End <= impl.TimeMax
			if !fits {
				want = nil
			}
			if got, ok := impl.RunsAdd(c.runs, r); ok != fits || !slices.Equal(got, want) {
				t.Errorf("RunsAdd of %v: got %v and %v, want %v", r, got, ok, want)
			}
		}
	})
}

func TestModelOfLaterRuns(t *testing.T) {
	eachRuns(t, func(t *testing.T, c stableRuns) {
		for _, k := range runShifts(c.runs) {
			want, fits := []impl.Run{}, true
			for _, r := range c.runs {
				want = append(want, impl.Run{Start: r.Start + k, End: r.End + k})
				fits = fits && r.Start+k >= 0 && r.End+k <= impl.TimeMax
			}
			if !fits {
				want = nil
			}
			if got, ok := impl.RunsLater(c.runs, k); ok != fits || !slices.Equal(got, want) {
				t.Errorf("RunsLater by %d: got %v and %v, want %v", k, got, ok, want)
			}
		}
	})
}

func TestModelOfSwaps(t *testing.T) {
	eachRoster(t, func(t *testing.T, c stableRuns, rest int, roster []int) {
		for from := range c.runs {
			for _, pair := range swapPairs(roster, from) {
				want, fits := modelSwap(c.runs, rest, roster, from, pair[0], pair[1])
				if got, ok := impl.RosterSwap(c.runs, rest, roster, from, pair[0], pair[1]); ok != fits || !slices.Equal(got, want) {
					t.Errorf("RosterSwap of %v from %d on: got %v and %v, want %v", pair, from, got, ok, want)
				}
			}
		}
	})
}
