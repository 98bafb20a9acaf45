package tests

import (
	"slices"
	"testing"

	"loop.example/mailcoaches/impl"
)

// P26. If RosterValid holds, it holds with a rest that is 1 less, if there is one, for the first runs alone, and for a team for each run.
func TestP26Roster(t *testing.T) {
	eachRoster(t, func(t *testing.T, c stableRuns, rest int, roster []int) {
		if !impl.RosterValid(c.runs, rest, roster) {
			t.Fatalf("RosterValid does not hold")
		}
		if less := impl.RosterValid(c.runs, rest-1, roster); less != (rest > 0) {
			t.Errorf("RosterValid with a rest that is 1 less: %v", less)
		}
		each := []int{}
		for k := range len(c.runs) + 1 {
			if !impl.RosterValid(c.runs[:k], rest, roster[:k]) {
				t.Errorf("RosterValid does not hold for the first %d runs", k)
			}
			if !impl.RosterValid(c.runs[:k], rest, each) {
				t.Errorf("RosterValid does not hold for a team for each of the first %d runs", k)
			}
			each = append(each, k)
		}
	})
}

// P27. If RosterMake succeeds, it is a roster with TeamsLeast teams, which are the least numbers, and that of the first runs alone are its first teams.
func TestP27Make(t *testing.T) {
	eachRest(t, func(t *testing.T, c stableRuns, rest int) {
		roster, ok := impl.RosterMake(c.runs, rest)
		if !ok || !impl.RosterValid(c.runs, rest, roster) {
			t.Fatalf("RosterMake gives %v and %v", roster, ok)
		}
		least := impl.TeamsLeast(c.runs, rest)
		if teams := impl.RosterTeams(c.runs, rest, roster); teams != least {
			t.Errorf("RosterMake gives %v with %d teams, but TeamsLeast is %d", roster, teams, least)
		}
		numbers := slices.Clone(roster)
		slices.Sort(numbers)
		for i, number := range slices.Compact(numbers) {
			if number != i {
				t.Errorf("RosterMake gives %v without the team %d", roster, i)
			}
		}
		for k := range c.runs {
			if first, ok := impl.RosterMake(c.runs[:k], rest); !ok || !slices.Equal(first, roster[:k]) {
				t.Errorf("RosterMake gives %v, but for the first %d runs %v and %v", roster, k, first, ok)
			}
		}
	})
}

// P28. If TeamsLeast is not -1, TeamsBusy at no Start is greater, at TeamsPeak it is just so great, if there are runs, and with a rest that is 1 more, if it is in range, it is not less.
func TestP28Least(t *testing.T) {
	eachRest(t, func(t *testing.T, c stableRuns, rest int) {
		least := impl.TeamsLeast(c.runs, rest)
		if least < 0 || len(c.runs) > 0 && least == 0 {
			t.Fatalf("TeamsLeast is %d", least)
		}
		for _, r := range c.runs {
			if busy := impl.TeamsBusy(c.runs, rest, r.Start); busy < 1 || busy > least {
				t.Errorf("TeamsBusy at %d is %d, but TeamsLeast %d", r.Start, busy, least)
			}
		}
		if peak, ok := impl.TeamsPeak(c.runs, rest); ok != (len(c.runs) > 0) || ok && impl.TeamsBusy(c.runs, rest, peak) != least {
			t.Errorf("TeamsPeak gives %d and %v, but TeamsLeast is %d", peak, ok, least)
		}
		if more := impl.TeamsLeast(c.runs, rest+1); rest < impl.RestMax && more < least || rest == impl.RestMax && more != -1 {
			t.Errorf("TeamsLeast is %d, but with 1 more %d", least, more)
		}
	})
}

// P29. If RosterTeams is not -1, it is at least TeamsLeast and at most the number of runs, and at each Start at least TeamsBusy.
func TestP29Teams(t *testing.T) {
	eachRoster(t, func(t *testing.T, c stableRuns, rest int, roster []int) {
		teams := impl.RosterTeams(c.runs, rest, roster)
		if least := impl.TeamsLeast(c.runs, rest); teams < least || teams < 0 || teams > len(c.runs) {
			t.Errorf("RosterTeams is %d, but TeamsLeast %d", teams, least)
		}
		for _, r := range c.runs {
			if busy := impl.TeamsBusy(c.runs, rest, r.Start); busy > teams {
				t.Errorf("RosterTeams is %d, but TeamsBusy at %d %d", teams, r.Start, busy)
			}
		}
	})
}

// P30. If TeamsBusy is not -1, it is at most TeamsLeast, and that of the first runs and of the others add up to it.
func TestP30Busy(t *testing.T) {
	eachRest(t, func(t *testing.T, c stableRuns, rest int) {
		least := impl.TeamsLeast(c.runs, rest)
		for _, time := range busyTimes(c.runs, rest) {
			busy := impl.TeamsBusy(c.runs, rest, time)
			if busy < 0 || busy > least {
				t.Errorf("TeamsBusy at %d is %d, but TeamsLeast %d", time, busy, least)
			}
			for k := range len(c.runs) + 1 {
				first, others := impl.TeamsBusy(c.runs[:k], rest, time), impl.TeamsBusy(c.runs[k:], rest, time)
				if first+others != busy {
					t.Errorf("TeamsBusy at %d is %d, but %d of the first %d runs and %d of the others", time, busy, first, k, others)
				}
			}
		}
	})
}

// busyTimes are the first and the last time and those around each Start, each End, and each End plus the rest.
func busyTimes(runs []impl.Run, rest int) []int {
	times := []int{0, impl.TimeMax}
	for _, r := range runs {
		for _, time := range []int{r.Start, r.End, r.End + rest} {
			times = append(times, time-1, time, time+1)
		}
	}
	slices.Sort(times)
	times = slices.Compact(times)
	return slices.DeleteFunc(times, func(time int) bool { return time < 0 || time > impl.TimeMax })
}

// P31. If TeamsPeak succeeds, at all times ahead of it, minute by minute up to 100 of them, TeamsBusy is less, and it is the Start of a run.
func TestP31Peak(t *testing.T) {
	eachRest(t, func(t *testing.T, c stableRuns, rest int) {
		peak, ok := impl.TeamsPeak(c.runs, rest)
		if ok != (len(c.runs) > 0) {
			t.Fatalf("TeamsPeak gives %d and %v", peak, ok)
		}
		if !ok {
			return
		}
		if !slices.ContainsFunc(c.runs, func(r impl.Run) bool { return r.Start == peak }) {
			t.Errorf("TeamsPeak is %d, which is no Start", peak)
		}
		most := impl.TeamsBusy(c.runs, rest, peak)
		for time := max(peak-100, 0); time < peak; time++ {
			if busy := impl.TeamsBusy(c.runs, rest, time); busy >= most {
				t.Fatalf("TeamsPeak is %d with %d teams, but at %d there are %d", peak, most, time, busy)
			}
		}
		for _, time := range busyTimes(c.runs, rest) {
			if busy := impl.TeamsBusy(c.runs, rest, time); busy > most || busy == most && time < peak {
				t.Errorf("TeamsPeak is %d with %d teams, but at %d there are %d", peak, most, time, busy)
			}
		}
	})
}

// P32. If RestMost is not -1, TeamsLeast with it is at most the number of teams, and with 1 more, if it is in range, it is more; with one team more, if there is one, it is not less.
func TestP32RestMost(t *testing.T) {
	eachRuns(t, func(t *testing.T, c stableRuns) {
		before := -1
		for teams := 1; teams <= impl.RunsMax; teams++ {
			rest := impl.RestMost(c.runs, teams)
			if rest < before || rest > impl.RestMax {
				t.Errorf("RestMost of %d teams is %d, but of one less %d", teams, rest, before)
			}
			before = rest
			if enough := impl.TeamsLeast(c.runs, 0) <= teams; enough != (rest != -1) {
				t.Errorf("RestMost of %d teams is %d", teams, rest)
			}
			if rest == -1 {
				continue
			}
			if least := impl.TeamsLeast(c.runs, rest); least > teams || least < 0 {
				t.Errorf("RestMost of %d teams is %d, but TeamsLeast with it %d", teams, rest, least)
			}
			if least := impl.TeamsLeast(c.runs, rest+1); rest < impl.RestMax && least <= teams {
				t.Errorf("RestMost of %d teams is %d, but TeamsLeast with 1 more %d", teams, rest, least)
			}
		}
		if len(c.runs) <= impl.RunsMax && before != impl.RestMax {
			t.Errorf("RestMost of a team for each run is %d", before)
		}
	})
}

// P33. If RunsAdd succeeds, there is one run more, TeamsLeast with any rest is as before or 1 greater, and all others are there in their order.
func TestP33Add(t *testing.T) {
	eachRuns(t, func(t *testing.T, c stableRuns) {
		for _, r := range addedRuns(c.runs) {
			more, ok := impl.RunsAdd(c.runs, r)
			if ok != (len(c.runs) < impl.RunsMax) {
				t.Fatalf("RunsAdd of %v gives %v and %v", r, more, ok)
			}
			if !ok {
				continue
			}
			// The run stands behind all that begin no later, so it is the last one of these.
			place := 0
			for i, other := range c.runs {
				if other.Start <= r.Start {
					place = i + 1
				}
			}
			if !impl.RunsValid(more) || len(more) != len(c.runs)+1 || more[place] != r || !slices.Equal(slices.Concat(more[:place], more[place+1:]), c.runs) {
				t.Fatalf("RunsAdd of %v gives %v", r, more)
			}
			for _, rest := range restsOf(more) {
				before, least := impl.TeamsLeast(c.runs, rest), impl.TeamsLeast(more, rest)
				if before == -1 || least != before && least != before+1 {
					t.Errorf("TeamsLeast with a rest of %d is %d, but after RunsAdd of %v %d", rest, before, r, least)
				}
			}
		}
	})
}

// addedRuns are runs ahead of all, behind all, and together with the first, a middle and the last one.
func addedRuns(runs []impl.Run) []impl.Run {
	added := []impl.Run{{Start: 0, End: 1}, {Start: 0, End: impl.TimeMax}, {Start: impl.TimeMax - 1, End: impl.TimeMax}}
	if len(runs) == 0 {
		return added
	}
	for _, k := range []int{0, len(runs) / 2, len(runs) - 1} {
		// An End that no other run with this Start needs to have tells the run from these.
		added = append(added, impl.Run{Start: runs[k].Start, End: impl.TimeMax}, impl.Run{Start: runs[k].Start, End: runs[k].Start + 1}, runs[k])
	}
	return added
}

// P34. If RunsLater succeeds, RunsLater by the opposite leads back, and RosterMake with any rest is the same.
func TestP34Later(t *testing.T) {
	eachRuns(t, func(t *testing.T, c stableRuns) {
		done := 0
		for _, k := range runShifts(c.runs) {
			later, ok := impl.RunsLater(c.runs, k)
			if !ok {
				continue
			}
			done++
			if back, ok := impl.RunsLater(later, -k); !ok || !slices.Equal(back, c.runs) {
				t.Errorf("RunsLater by %d gives %v, and by %d %v and %v", k, later, -k, back, ok)
			}
			for _, rest := range restsOf(c.runs) {
				want, _ := impl.RosterMake(c.runs, rest)
				if got, ok := impl.RosterMake(later, rest); !ok || !slices.Equal(got, want) {
					t.Errorf("RosterMake with a rest of %d is %v, but later by %d %v and %v", rest, want, k, got, ok)
				}
			}
		}
		if done < 3 {
			t.Errorf("only %d of all RunsLater succeed", done)
		}
	})
}

// runShifts are the numbers by which runs can be later at the limits, just beyond them, and some between.
func runShifts(runs []impl.Run) []int {
	first, last := 0, impl.TimeMax
	if len(runs) > 0 {
		first, last = runs[0].Start, 0
	}
	for _, r := range runs {
		last = max(last, r.End)
	}
	room := impl.TimeMax - last
	return []int{0, 1, -1, 60, -60, -first, -first - 1, -first + 1, room, room + 1, room - 1, impl.DayMinutes, -impl.DayMinutes, 20000, -20000}
}

// P35. If RosterSwap succeeds, RosterSwap of it leads back, RosterMinutes of all teams together are the same, and ahead of the run nothing changes.
func TestP35Swap(t *testing.T) {
	done, failed := 0, 0
	eachRoster(t, func(t *testing.T, c stableRuns, rest int, roster []int) {
		minutes, _ := impl.RosterMinutes(c.runs, rest, roster)
		for from := range c.runs {
			for _, pair := range swapPairs(roster, from) {
				swapped, ok := impl.RosterSwap(c.runs, rest, roster, from, pair[0], pair[1])
				if !ok {
					failed++
					continue
				}
				done++
				if back, ok := impl.RosterSwap(c.runs, rest, swapped, from, pair[0], pair[1]); !ok || !slices.Equal(back, roster) {
					t.Fatalf("RosterSwap of %v from %d on gives %v, and of this %v and %v", pair, from, swapped, back, ok)
				}
				if !slices.Equal(swapped[:from], roster[:from]) {
					t.Errorf("RosterSwap of %v from %d on gives %v", pair, from, swapped)
				}
				if after, ok := impl.RosterMinutes(c.runs, rest, swapped); !ok || sumOf(after) != sumOf(minutes) {
					t.Errorf("RosterMinutes are %v, and after RosterSwap %v and %v", minutes, after, ok)
				}
			}
		}
	})
	if done < 10000 || failed < 1000 {
		t.Errorf("%d of all RosterSwap succeed, and %d fail", done, failed)
	}
}

// swapPairs are the team of a run with itself, with that of the run ahead, with the first, and with the last team.
func swapPairs(roster []int, k int) [][2]int {
	team, ahead := roster[k], roster[max(k-1, 0)]
	return [][2]int{{team, team}, {team, ahead}, {ahead, team}, {0, team}, {team, impl.RunsMax - 1}}
}

// sumOf returns the sum of some numbers.
func sumOf(list []int) int {
	sum := 0
	for _, number := range list {
		sum += number
	}
	return sum
}

// P36. If RosterMinutes succeeds, its sum is that of End less Start of all runs, each number is greater than 0 exactly if the team has a run, and there are RosterTeams such teams.
func TestP36Minutes(t *testing.T) {
	eachRoster(t, func(t *testing.T, c stableRuns, rest int, roster []int) {
		minutes, ok := impl.RosterMinutes(c.runs, rest, roster)
		if !ok || len(minutes) != impl.RunsMax {
			t.Fatalf("RosterMinutes gives %v and %v", minutes, ok)
		}
		all := 0
		for _, r := range c.runs {
			all += r.End - r.Start
		}
		if sum := sumOf(minutes); sum != all {
			t.Errorf("the sum of RosterMinutes %v is %d, want %d", minutes, sum, all)
		}
		some := 0
		for team, number := range minutes {
			if number > 0 {
				some++
			}
			if has := slices.Contains(roster, team); number < 0 || has != (number > 0) {
				t.Errorf("RosterMinutes are %v", minutes)
			}
		}
		if teams := impl.RosterTeams(c.runs, rest, roster); teams != some {
			t.Errorf("RosterTeams is %d, but RosterMinutes are %v", teams, minutes)
		}
	})
}
