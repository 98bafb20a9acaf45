package tests

import (
	"fmt"
	"slices"
	"testing"

	"loop.example/mailcoaches/impl"
)

// gatedRoad are gates, with the name by which a failure is told.
type gatedRoad struct {
	name  string
	gates []impl.Gate
}

// tollRide is a coach past gates from one mile to another one, with the miles for which a ticket frees gates.
type tollRide struct {
	gatedRoad
	free int
	from int
	to   int
}

// wholeRoad is the mile behind the last one that a gate can have, up to which a coach passes all gates.
const wholeRoad = impl.MileMax + 1

// byGate are gates out of the Mile, Trust and Toll of each.
func byGate(numbers ...int) []impl.Gate {
	gates := []impl.Gate{}
	for g := range slices.Chunk(numbers, 3) {
		gates = append(gates, impl.Gate{Mile: g[0], Trust: g[1], Toll: g[2]})
	}
	return gates
}

// gatesEvery are a number of gates from a mile on, each some miles behind the one ahead, with trusts and tolls by turns.
func gatesEvery(number int, first int, miles int, trusts []int, tolls []int) []impl.Gate {
	gates := []impl.Gate{}
	for i := range number {
		gates = append(gates, impl.Gate{Mile: first + i*miles, Trust: trusts[i%len(trusts)], Toll: tolls[i%len(tolls)]})
	}
	return gates
}

// plainGates are ordinary gates of several trusts: with 50 free miles the cheap gate at the mile 40 is freed, and its ticket frees the one at the mile 60.
func plainGates() []impl.Gate {
	return byGate(0, 0, 10, 30, 1, 5, 40, 0, 1, 60, 0, 20, 75, 1, 5, 90, 3, 8)
}

// crossGates are gates of two trusts that are cheap by turns.
func crossGates() []impl.Gate {
	return byGate(5, 2, 9, 10, 1, 1, 20, 2, 1, 25, 1, 9, 35, 2, 9, 40, 1, 1, 50, 2, 1, 55, 1, 9)
}

// tenGates are as many gates as there can be, of all trusts.
func tenGates() []impl.Gate {
	return gatesEvery(10, 100, 10, []int{0, 1, 2, 3, 0, 0, 1}, []int{7, 3, 12, 99, 1})
}

// namedGates are gates with the edge cases of the chapter.
func namedGates() []gatedRoad {
	one, all, dear := []int{0}, []int{0, 1, 2, 3}, []int{99}
	return []gatedRoad{
		{"nil", nil},
		{"empty", []impl.Gate{}},
		{"plain", plainGates()},
		{"cheap by turns", crossGates()},
		{"ten of all trusts", tenGates()},
		{"one at mile 0", byGate(0, 0, 1)},
		{"one at MileMax", byGate(999, 3, 99)},
		{"one between", byGate(500, 2, 50)},
		{"mile 0 and MileMax", byGate(0, 1, 10, 999, 1, 10)},
		{"mile 0 and MileMax of two trusts", byGate(0, 0, 3, 999, 3, 4)},
		{"mile 0, one less than MileMax, and MileMax", byGate(0, 1, 99, 998, 1, 1, 999, 1, 99)},
		{"two side by side", byGate(7, 0, 2, 8, 0, 2)},
		{"GatesMax side by side from mile 0 on", gatesEvery(10, 0, 1, one, []int{5})},
		{"GatesMax side by side up to MileMax", gatesEvery(10, 990, 1, []int{3}, []int{9, 8, 7, 6, 5, 4, 3, 2, 1})},
		{"GatesMax over the whole road", gatesEvery(10, 0, 111, []int{2}, []int{1, 2, 3, 4, 5, 6, 7, 8, 9, 10})},
		{"GatesMax over the whole road, by turns", gatesEvery(10, 0, 111, []int{2, 1}, []int{6, 1, 1, 6})},
		{"GatesMax of all trusts by turns", gatesEvery(10, 3, 7, all, []int{1, 50, 99})},
		{"GatesMax with equal tolls", gatesEvery(10, 20, 10, one, []int{4})},
		{"GatesMax with equal tolls of two trusts", gatesEvery(10, 20, 10, []int{1, 3}, []int{4})},
		{"GatesMax with the greatest toll", gatesEvery(10, 1, 99, all, dear)},
		{"GatesMax, cheap and dear by turns", gatesEvery(10, 40, 10, []int{1}, []int{99, 1})},
		{"GatesMax, two cheap ones by turns with one", gatesEvery(10, 40, 10, []int{0}, []int{5, 2, 3})},
		{"less than GatesMax", gatesEvery(9, 0, 5, []int{0, 0, 3}, []int{10, 1})},
		{"sums of equal size", byGate(0, 0, 4, 10, 0, 2, 20, 0, 3, 30, 0, 5, 40, 0, 5)},
		{"sums of equal size of two trusts", byGate(0, 0, 4, 5, 1, 4, 10, 0, 2, 15, 1, 5, 20, 0, 2, 25, 1, 5)},
		{"only the trusts 1 and 2", byGate(11, 2, 6, 22, 1, 6, 33, 2, 6, 44, 1, 6)},
		{"only the trusts 0 and 3", byGate(11, 3, 6, 22, 0, 6, 33, 3, 1, 44, 0, 1, 50, 3, 8, 61, 0, 8)},
	}
}

// mixedGates are gates out of a fixed sequence, of few and many trusts, near each other and far apart, with tolls of which many are equal and others.
func mixedGates(number int) []gatedRoad {
	s := &numbers{state: 191}
	roads := []gatedRoad{}
	for i := range number {
		trusts, apart, dear := 1+s.below(1+s.below(4)), []int{1, 3, 10, 90}[s.below(4)], []int{2, 4, 10, 99}[s.below(4)]
		gates, mile := []impl.Gate{}, []int{0, 0, 1 + s.below(90), 999 - 10*apart}[s.below(4)]
		for range s.below(11) {
			gates = append(gates, impl.Gate{Mile: mile, Trust: 3 - s.below(trusts), Toll: 1 + s.below(dear)})
			mile += 1 + s.below(apart)
		}
		roads = append(roads, gatedRoad{fmt.Sprintf("mixed %d", i), gates})
	}
	return roads
}

// smallGates are all gates of the trusts 0 and 3 with a toll of 1 or 2 at the miles 0, 1, 3 and 4.
func smallGates() []gatedRoad {
	roads := []gatedRoad{}
	for code := range 256 {
		gates := []impl.Gate{}
		for i, mile := range []int{0, 1, 3, 4} {
			bits := code >> (2 * i)
			gates = append(gates, impl.Gate{Mile: mile, Trust: 3 * (bits & 1), Toll: 1 + bits>>1&1})
		}
		roads = append(roads, gatedRoad{fmt.Sprintf("small %d", code), gates})
	}
	return roads
}

// allGates are all gates on which the tests are done.
func allGates() []gatedRoad {
	return slices.Concat(namedGates(), mixedGates(300), smallGates())
}

// eachGates does a test with all gates.
func eachGates(t *testing.T, test func(t *testing.T, c gatedRoad)) {
	t.Helper()
	for _, c := range allGates() {
		test(t, c)
		if t.Failed() {
			t.Fatalf("gates %q: %v", c.name, c.gates)
		}
	}
}

// eachToll does a test with coaches past all gates.
func eachToll(t *testing.T, test func(t *testing.T, c tollRide)) {
	t.Helper()
	s := &numbers{state: 193}
	eachGates(t, func(t *testing.T, c gatedRoad) {
		for _, r := range tollRidesOf(s, c) {
			test(t, r)
			if t.Failed() {
				t.Fatalf("%d free miles, from %d to %d", r.free, r.from, r.to)
			}
		}
	})
}

// tollRidesOf are some coaches past gates: over the whole road, and over a part of it.
func tollRidesOf(s *numbers, c gatedRoad) []tollRide {
	rides, ends := []tollRide{}, endsNear(c.gates)
	for _, free := range someOf(s, freesNear(c.gates), 7) {
		rides = append(rides, tollRide{c, free, 0, wholeRoad})
		from, to := ends[s.below(len(ends))], ends[s.below(len(ends))]
		rides = append(rides, tollRide{c, free, min(from, to), max(from, to)})
		if from > to && s.below(4) == 0 {
			rides = append(rides, tollRide{c, free, from, to})
		}
	}
	return rides
}

// freesNear are free miles up to which a ticket frees another gate just or just not, and the limits, ascending.
func freesNear(gates []impl.Gate) []int {
	list := []int{0, 1, impl.MileMax}
	for i, g := range gates {
		for _, other := range gates[i+1:] {
			if apart := other.Mile - g.Mile; other.Trust == g.Trust {
				list = append(list, apart-1, apart, apart+1)
			}
		}
	}
	slices.Sort(list)
	return slices.DeleteFunc(slices.Compact(list), func(free int) bool { return free > impl.MileMax })
}

// endsNear are miles from which or to which a coach can go: at each gate and just behind it, between, and the limits, ascending.
func endsNear(gates []impl.Gate) []int {
	list := []int{0, 1, 500, impl.MileMax, wholeRoad}
	for _, g := range gates {
		list = append(list, g.Mile, g.Mile+1)
	}
	slices.Sort(list)
	return slices.Compact(list)
}

// noSingleGates are gates that can be in no list.
func noSingleGates() []impl.Gate {
	list := byGate(-1, 0, 5, -999, 0, 5, 1000, 0, 5, 1001, 3, 5, 50, -1, 5, 50, -4, 5, 50, 4, 5, 50, 5, 5, 50, 0, 0, 50, 0, -1, 50, 0, -99, 50, 0, 100, 50, 3, 101, 1000, 4, 100, -1, -1, 0, 0, 0, 0)
	for _, far := range farNumbers() {
		list = append(list, byGate(far, 0, 5, 50, far, 5, 50, 0, far, far, far, far)...)
	}
	return list
}

// noGates are lists that are no gates.
func noGates() []gatedRoad {
	roads := []gatedRoad{
		{"two at one mile", byGate(5, 0, 1, 5, 1, 2)},
		{"the same gate twice", byGate(5, 0, 1, 5, 0, 1)},
		{"two at one mile first", byGate(0, 0, 1, 0, 1, 1, 30, 2, 1, 40, 2, 1)},
		{"two at one mile between", byGate(0, 0, 1, 30, 1, 1, 30, 2, 1, 40, 2, 1)},
		{"two at one mile last", byGate(0, 0, 1, 30, 1, 1, 999, 2, 1, 999, 2, 1)},
		{"descending miles", byGate(6, 0, 1, 5, 0, 1)},
		{"descending miles of two trusts", byGate(999, 0, 1, 0, 1, 1)},
		{"descending miles first", byGate(30, 0, 1, 20, 0, 1, 40, 0, 1)},
		{"descending miles last", byGate(20, 0, 1, 40, 0, 1, 30, 0, 1)},
		{"back to the first mile", byGate(20, 0, 1, 40, 0, 1, 20, 0, 1)},
		{"one more than GatesMax", gatesEvery(11, 0, 1, []int{0, 1, 2, 3}, []int{5})},
		{"one more than GatesMax, far apart", gatesEvery(11, 0, 99, []int{2}, []int{5, 6})},
		{"far more than GatesMax", gatesEvery(900, 0, 1, []int{0, 1, 2, 3}, []int{5})},
		{"far more than there are miles", gatesEvery(5000, 0, 1, []int{0}, []int{1})},
	}
	for i, g := range noSingleGates() {
		roads = append(roads,
			gatedRoad{fmt.Sprintf("gate %d alone: %v", i, g), []impl.Gate{g}},
			gatedRoad{fmt.Sprintf("gate %d first: %v", i, g), append([]impl.Gate{g}, byGate(60, 0, 1, 70, 1, 2)...)},
			gatedRoad{fmt.Sprintf("gate %d between: %v", i, g), slices.Insert(byGate(10, 0, 1, 70, 1, 2), 1, g)},
			gatedRoad{fmt.Sprintf("gate %d last: %v", i, g), append(byGate(10, 0, 1, 20, 1, 2), g)},
		)
	}
	return roads
}

// noFrees are numbers of free miles that no ticket has.
func noFrees() []int {
	return append(farNumbers(), -999, -2, -1, 1000, 1001, 1998)
}

// noEnds are miles from which or to which no coach goes.
func noEnds() []int {
	return append(farNumbers(), -999, -2, -1, 1001, 1002, 2000)
}

// noTrusts are numbers that no trust has.
func noTrusts() []int {
	return append(farNumbers(), -4, -2, -1, 4, 5, 10)
}
