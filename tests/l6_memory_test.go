package tests

import (
	"slices"
	"testing"

	"loop.example/mailcoaches/impl"
)

// callAllLate calls all functions of the chapter with a coach and another timetable, overwrites all results, and calls a check after each.
func callAllLate(c lateCoach, other []impl.Stop, check func(name string)) {
	arrives, _ := arriveLate(c)
	overwrite(arrives, -7)
	check("LateArrive")
	leaves, _ := leaveLate(c)
	overwrite(leaves, -7)
	check("LateLeave")
	slacks, _ := impl.LateSlack(c.n, c.stops, c.least)
	overwrite(slacks, -7)
	check("LateSlack")
	late, _ := stopsLate(c)
	overwrite(late, impl.Stop{Town: -7, Arrive: -7, Leave: -7})
	check("LateStops")
	for k := range len(c.delays) + 1 {
		blameLate(c, k)
		check("LateBlame")
	}
	endLate(c)
	sumLate(c)
	impl.LateFree(c.n, c.stops, c.least)
	check("LateEnd, LateSum or LateFree")
	for town := range 9 {
		for _, lists := range [][2][]impl.Stop{{c.stops, other}, {other, c.stops}, {c.stops, c.stops}} {
			f := connection{c.name, c.n, lists[0], lists[1], town, c.start, c.least, 20}
			made(f)
			connectLate(f)
			connectMost(f)
			check("one of the functions of connections")
		}
	}
}

// TestArgumentsOfLateness checks that no argument is written into, and that no result shares memory with an argument.
func TestArgumentsOfLateness(t *testing.T) {
	coaches := slices.Concat(namedLate(), mixedLate(100), lateTables()[:100])
	for _, c := range noTables() {
		coaches = append(coaches, lateCoach{c.name, c.n, c.stops, 4, 5, []int{7, 2}})
	}
	for _, delays := range noDelayLists(2) {
		coaches = append(coaches, lateCoach{"delays that are none", 3, plainStops(), 4, 5, delays})
	}
	mark := impl.Stop{Town: 70, Arrive: 71, Leave: 72}
	for _, c := range coaches {
		stops, stopsMemory := roomy(c.stops, mark)
		other, otherMemory := roomy(plainConnect(), mark)
		delays, delaysMemory := roomy(c.delays, 70)
		stopsBefore, otherBefore, delaysBefore := slices.Clone(stopsMemory), slices.Clone(otherMemory), slices.Clone(delaysMemory)
		callAllLate(lateCoach{c.name, c.n, stops, c.least, c.start, delays}, other, func(name string) {
			if !slices.Equal(stopsMemory, stopsBefore) || !slices.Equal(otherMemory, otherBefore) || !slices.Equal(delaysMemory, delaysBefore) {
				t.Fatalf("%s: after %s the stops are %v and %v, and the delays %v", c.name, name, stopsMemory, otherMemory, delaysMemory)
			}
		})
	}
}

// TestResultsOfLateness checks that nothing is kept from call to call.
func TestResultsOfLateness(t *testing.T) {
	mark := impl.Stop{Town: -7, Arrive: -7, Leave: -7}
	eachLate(t, func(t *testing.T, c lateCoach) {
		checkAgain(t, "LateArrive", -7, func() ([]int, bool) { return arriveLate(c) })
		checkAgain(t, "LateLeave", -7, func() ([]int, bool) { return leaveLate(c) })
		checkAgain(t, "LateSlack", -7, func() ([]int, bool) { return impl.LateSlack(c.n, c.stops, c.least) })
		checkAgain(t, "LateStops", mark, func() ([]impl.Stop, bool) { return stopsLate(onlyStart(c, 0)) })
	})
}

// TestLatenessBesideOther checks that what is told of a coach does not depend on another one that was asked about in between.
func TestLatenessBesideOther(t *testing.T) {
	list := slices.Concat(namedLate(), mixedLate(40))
	for i, c := range list {
		before, _ := leaveLate(c)
		free := impl.LateFree(c.n, c.stops, c.least)
		d := list[(i*7+3)%len(list)]
		leaveLate(d)
		impl.LateFree(d.n, d.stops, d.least)
		after, ok := leaveLate(c)
		numbersDiffer(t, c.name+" behind "+d.name, after, ok, before)
		if again := impl.LateFree(c.n, c.stops, c.least); again != free {
			t.Errorf("%s behind %s: LateFree is %d, but was %d", c.name, d.name, again, free)
		}
	}
}
