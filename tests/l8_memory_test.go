package tests

import (
	"slices"
	"testing"

	"loop.example/mailcoaches/impl"
)

// gateMark stands where no function may write.
var gateMark = impl.Gate{Mile: -7, Trust: -7, Toll: -7}

// callAllTolls calls all functions of the chapter with a coach, payments and a number, overwrites all results, and calls a check after each.
func callAllTolls(c tollRide, paid []int, k int, check func(name string)) {
	impl.GatesValid(c.gates)
	check("GatesValid")
	for _, g := range byGate(k, 2, 9, 0, 0, 1, 999, 1, 5, 700, 3, 99) {
		longer, _ := impl.GatesAdd(c.gates, g)
		overwrite(longer, gateMark)
		check("GatesAdd")
	}
	for index := range 4 {
		fewer, _ := impl.GatesDrop(c.gates, index)
		overwrite(fewer, gateMark)
		check("GatesDrop")
		overwrite(impl.GatesTrust(c.gates, index), -7)
		check("GatesTrust")
	}
	overwrite(c.passed(), -7)
	check("GatesPassed")
	c.valid(paid)
	check("TollValid")
	c.sum(paid)
	check("TollSum")
	must, _ := c.must()
	overwrite(must, -7)
	check("TollMust")
	c.least()
	check("TollLeast")
	best, _ := c.best()
	overwrite(best, -7)
	check("TollBest")
	each, _ := c.each()
	overwrite(each, -7)
	check("TollEach")
	for _, shift := range []int{0, 1, -1, k} {
		later, _ := impl.GatesLater(c.gates, shift)
		overwrite(later, gateMark)
		check("GatesLater")
	}
}

// TestArgumentsOfTolls checks that no argument is written into, and that no result shares memory with an argument.
func TestArgumentsOfTolls(t *testing.T) {
	for i, road := range slices.Concat(namedGates(), mixedGates(100), noGates()) {
		for _, list := range [][]int{nil, {0}, {0, 1}, {1, 0}, {-1, 20}, ascending(min(len(road.gates), 10))} {
			gates, gatesMemory := roomy(road.gates, gateMark)
			paid, paidMemory := roomy(list, -7)
			gatesBefore, paidBefore := slices.Clone(gatesMemory), slices.Clone(paidMemory)
			for _, free := range []int{0, 50} {
				c := tollRide{gatedRoad{road.name, gates}, free, 0, wholeRoad}
				callAllTolls(c, paid, 11*i%1000, func(name string) {
					if !slices.Equal(gatesMemory, gatesBefore) || !slices.Equal(paidMemory, paidBefore) {
						t.Fatalf("%s: after %s the gates are %v and the payments %v", road.name, name, gatesMemory, paidMemory)
					}
				})
			}
		}
	}
}

// TestResultsOfTolls checks that nothing is kept from call to call.
func TestResultsOfTolls(t *testing.T) {
	eachToll(t, func(t *testing.T, c tollRide) {
		checkAgain(t, "GatesPassed", -7, func() ([]int, bool) { return c.passed(), true })
		checkAgain(t, "TollMust", -7, c.must)
		checkAgain(t, "TollBest", -7, c.best)
		checkAgain(t, "TollEach", -7, c.each)
	})
	eachGates(t, func(t *testing.T, c gatedRoad) {
		checkAgain(t, "GatesLater", gateMark, func() ([]impl.Gate, bool) { return impl.GatesLater(c.gates, 0) })
		for k, g := range c.gates {
			checkAgain(t, "GatesTrust", -7, func() ([]int, bool) { return impl.GatesTrust(c.gates, g.Trust), true })
			checkAgain(t, "GatesDrop", gateMark, func() ([]impl.Gate, bool) { return impl.GatesDrop(c.gates, k) })
		}
		g := impl.Gate{Mile: 777, Trust: 1, Toll: 5}
		if _, fits := modelAdded(c.gates, g); fits {
			checkAgain(t, "GatesAdd", gateMark, func() ([]impl.Gate, bool) { return impl.GatesAdd(c.gates, g) })
		}
	})
}

// TestTollsBesideOther checks that what is asked in between changes no answer.
func TestTollsBesideOther(t *testing.T) {
	other := tollRide{gatedRoad{"other", crossGates()}, 20, 0, wholeRoad}
	eachToll(t, func(t *testing.T, c tollRide) {
		best, _ := c.best()
		before, valid := c.least(), c.valid(best)
		other.best()
		other.valid([]int{0, 1})
		other.must()
		if after, again := c.least(), c.valid(best); after != before || again != valid {
			t.Errorf("TollLeast is %d and then %d, TollValid of %v %v and then %v", before, after, best, valid, again)
		}
	})
}
