package tests

import (
	"slices"
	"testing"

	"loop.example/mailcoaches/impl"
)

// callAllTeams calls all functions of the chapter with runs and a roster, overwrites all results, and calls a check after each.
func callAllTeams(runs []impl.Run, rest int, roster []int, k int, check func(name string)) {
	mark := impl.Run{Start: -7, End: -7}
	made, _ := impl.RosterMake(runs, rest)
	overwrite(made, -7)
	check("RosterMake")
	for _, r := range []impl.Run{{Start: 0, End: 1}, {Start: k, End: k + 5}, {Start: impl.TimeMax - 1, End: impl.TimeMax}} {
		added, _ := impl.RunsAdd(runs, r)
		overwrite(added, mark)
		check("RunsAdd")
	}
	later, _ := impl.RunsLater(runs, k)
	overwrite(later, mark)
	check("RunsLater")
	for from := range len(runs) + 1 {
		swapped, _ := impl.RosterSwap(runs, rest, roster, from, k, 1)
		overwrite(swapped, -7)
		check("RosterSwap")
	}
	minutes, _ := impl.RosterMinutes(runs, rest, roster)
	overwrite(minutes, -7)
	check("RosterMinutes")
	impl.RunsValid(runs)
	impl.RosterValid(runs, rest, roster)
	impl.RosterTeams(runs, rest, roster)
	impl.TeamsLeast(runs, rest)
	impl.TeamsBusy(runs, rest, k)
	impl.TeamsPeak(runs, rest)
	impl.RestMost(runs, k)
	check("one of the functions without a list as its result")
}

// TestArgumentsOfTeams checks that no argument is written into, and that no result shares memory with an argument.
func TestArgumentsOfTeams(t *testing.T) {
	for _, c := range slices.Concat(namedRuns(), noRuns(), mixedRuns(60)) {
		own := []int{}
		for i := range c.runs {
			own = append(own, i)
		}
		for _, rest := range []int{0, 30, impl.RestMax, -1} {
			made, _ := impl.RosterMake(c.runs, rest)
			for _, teams := range [][]int{own, made, {0, 1}} {
				runs, runsMemory := roomy(c.runs, impl.Run{Start: 70, End: 71})
				roster, rosterMemory := roomy(teams, 70)
				runsBefore, rosterBefore := slices.Clone(runsMemory), slices.Clone(rosterMemory)
				check := func(name string) {
					if !slices.Equal(runsMemory, runsBefore) || !slices.Equal(rosterMemory, rosterBefore) {
						t.Fatalf("%s: after %s the runs are %v and the roster %v", c.name, name, runsMemory, rosterMemory)
					}
				}
				for _, k := range []int{0, 1, 11, -1, 60} {
					callAllTeams(runs, rest, roster, k, check)
				}
			}
		}
	}
}

// checkAgain checks that a result that was overwritten does not come back.
func checkAgain[T comparable](t *testing.T, name string, mark T, call func() ([]T, bool)) {
	t.Helper()
	result, ok := call()
	before := slices.Clone(result)
	overwrite(result, mark)
	if again, againOk := call(); !ok || !againOk || !slices.Equal(again, before) {
		t.Errorf("%s is %v and %v, and then %v and %v", name, before, ok, again, againOk)
	}
}

// TestResultsOfTeams checks that nothing is kept from call to call.
func TestResultsOfTeams(t *testing.T) {
	mark := impl.Run{Start: -7, End: -7}
	eachRuns(t, func(t *testing.T, c stableRuns) {
		roster, _ := impl.RosterMake(c.runs, 5)
		checkAgain(t, "RosterMake", -7, func() ([]int, bool) { return impl.RosterMake(c.runs, 5) })
		checkAgain(t, "RunsLater", mark, func() ([]impl.Run, bool) { return impl.RunsLater(c.runs, 0) })
		checkAgain(t, "RosterMinutes", -7, func() ([]int, bool) { return impl.RosterMinutes(c.runs, 5, roster) })
		if len(c.runs) > 0 {
			checkAgain(t, "RosterSwap", -7, func() ([]int, bool) { return impl.RosterSwap(c.runs, 5, roster, 0, 0, 1) })
		}
		if len(c.runs) < impl.RunsMax {
			checkAgain(t, "RunsAdd", mark, func() ([]impl.Run, bool) { return impl.RunsAdd(c.runs, impl.Run{Start: 9, End: 10}) })
		}
	})
}
