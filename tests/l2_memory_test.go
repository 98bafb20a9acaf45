package tests

import (
	"slices"
	"testing"

	"loop.example/mailcoaches/impl"
)

// callAllStops calls all functions of the chapter with a list, overwrites all results, and calls a check after each.
func callAllStops(n int, stops []impl.Stop, other []impl.Stop, k int, check func(name string)) {
	mark := impl.Stop{Town: -7, Arrive: -7, Leave: -7}
	later, _ := impl.StopsLater(n, stops, k)
	overwrite(later, mark)
	check("StopsLater")
	back, _ := impl.StopsBack(n, stops, impl.TimeMax-k)
	overwrite(back, mark)
	check("StopsBack")
	for to := range len(stops) + 1 {
		part, _ := impl.StopsPart(n, stops, k, to)
		overwrite(part, mark)
		check("StopsPart")
	}
	impl.StopsValid(n, stops)
	impl.StopsRun(n, stops)
	impl.StopsWait(n, stops)
	impl.StopsAt(n, stops, k)
	impl.StopsWhere(n, stops, k)
	impl.StopsMeet(n, stops, other)
	impl.StopsMeet(n, other, stops)
	impl.StopsText(n, stops)
	check("one of the functions without a list as its result")
}

// TestArgumentsOfStops checks that no argument is written into, and that no result shares memory with an argument.
func TestArgumentsOfStops(t *testing.T) {
	tables := append(namedTables(), noTables()...)
	tables = append(tables, mixedTables(60)...)
	mark := impl.Stop{Town: 70, Arrive: 71, Leave: 72}
	for _, c := range tables {
		stops, stopsMemory := roomy(c.stops, mark)
		other, otherMemory := roomy(plainStops(), mark)
		stopsBefore, otherBefore := slices.Clone(stopsMemory), slices.Clone(otherMemory)
		check := func(name string) {
			if !slices.Equal(stopsMemory, stopsBefore) || !slices.Equal(otherMemory, otherBefore) {
				t.Fatalf("%s: after %s the stops are %v and the others %v", c.name, name, stopsMemory, otherMemory)
			}
		}
		for _, k := range []int{0, 1, 2, -1, 60, -60} {
			callAllStops(c.n, stops, other, k, check)
		}
	}
}

// TestResultsOfStops checks that nothing is kept from call to call: a result that was overwritten does not come back.
func TestResultsOfStops(t *testing.T) {
	mark := impl.Stop{Town: -7, Arrive: -7, Leave: -7}
	eachTable(t, func(t *testing.T, c coachTable) {
		turn := c.stops[0].Arrive + c.stops[len(c.stops)-1].Leave
		calls := map[string]func() ([]impl.Stop, bool){
			"StopsLater": func() ([]impl.Stop, bool) { return impl.StopsLater(c.n, c.stops, 0) },
			"StopsBack":  func() ([]impl.Stop, bool) { return impl.StopsBack(c.n, c.stops, turn) },
			"StopsPart":  func() ([]impl.Stop, bool) { return impl.StopsPart(c.n, c.stops, 0, len(c.stops)-1) },
		}
		for name, call := range calls {
			result, ok := call()
			before := slices.Clone(result)
			overwrite(result, mark)
			if again, againOk := call(); !ok || !againOk || !slices.Equal(again, before) {
				t.Errorf("%s is %v and %v, and then %v and %v", name, before, ok, again, againOk)
			}
		}
	})
}
