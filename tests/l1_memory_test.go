package tests

import (
	"slices"
	"testing"

	"loop.example/mailcoaches/impl"
)

// roomy returns a list with room behind it, and all of its memory, in which something that no function may touch stands behind the list.
func roomy[T any](list []T, mark T) ([]T, []T) {
	memory := append(slices.Clone(list), mark, mark, mark)
	return memory[:len(list)], memory
}

// overwrite writes into all memory of a result, also into the room behind it.
func overwrite[T any](result []T, mark T) {
	whole := result[:cap(result)]
	for i := range whole {
		whole[i] = mark
	}
}

// callAll calls all functions of the chapter, overwrites all results, and calls a check after each.
func callAll(n int, roads []impl.Road, way []int, a int, b int, check func(name string)) {
	mark := impl.Road{A: -7, B: -7, Miles: -7}
	added, _ := impl.RoadsAdd(n, roads, impl.Road{A: min(a, b), B: max(a, b), Miles: 9})
	overwrite(added, mark)
	check("RoadsAdd")
	closed, _ := impl.RoadsClose(n, roads, a, b)
	overwrite(closed, mark)
	check("RoadsClose")
	found, _ := impl.RoadsWay(n, roads, a, b)
	overwrite(found, -7)
	check("RoadsWay")
	overwrite(impl.RoadsNeeded(n, roads), -7)
	check("RoadsNeeded")
	net, _ := impl.RoadsNet(n, roads)
	overwrite(net, -7)
	check("RoadsNet")
	impl.RoadsValid(n, roads)
	impl.RoadsDirect(n, roads, a, b)
	impl.WayLength(n, roads, way)
	impl.RoadsFar(n, roads, a, b)
	impl.RoadsMany(n, roads, a, b)
	impl.RoadsWhole(n, roads)
	impl.RoadsMiddle(n, roads)
	impl.RoadsLength(n, roads)
	check("one of the functions without a list as its result")
}

// TestArgumentsOfRoads checks that no argument is written into, and that no result shares memory with an argument.
func TestArgumentsOfRoads(t *testing.T) {
	maps := append(namedMaps(), noMaps()...)
	maps = append(maps, mixedMaps(60)...)
	for _, m := range maps {
		roads, roadsMemory := roomy(m.roads, impl.Road{A: 70, B: 71, Miles: 72})
		way, wayMemory := roomy([]int{0, 1, 0, 2}, 70)
		roadsBefore, wayBefore := slices.Clone(roadsMemory), slices.Clone(wayMemory)
		check := func(name string) {
			if !slices.Equal(roadsMemory, roadsBefore) || !slices.Equal(wayMemory, wayBefore) {
				t.Fatalf("%s: after %s the roads are %v and the way %v", m.name, name, roadsMemory, wayMemory)
			}
		}
		for b := range min(max(m.n, 2), 9) {
			for a := range b {
				callAll(m.n, roads, way, a, b, check)
			}
		}
	}
}

// TestResultsOfRoads checks that nothing is kept from call to call: a result that was overwritten does not come back.
func TestResultsOfRoads(t *testing.T) {
	eachMap(t, func(t *testing.T, m roadMap) {
		way, wayOk := impl.RoadsWay(m.n, m.roads, 0, m.n-1)
		needed := impl.RoadsNeeded(m.n, m.roads)
		net, netOk := impl.RoadsNet(m.n, m.roads)
		wayBefore, neededBefore, netBefore := slices.Clone(way), slices.Clone(needed), slices.Clone(net)
		for _, list := range [][]int{way, needed, net} {
			overwrite(list, -7)
		}
		if again, ok := impl.RoadsWay(m.n, m.roads, 0, m.n-1); ok != wayOk || !slices.Equal(again, wayBefore) {
			t.Errorf("RoadsWay is %v, and then %v", wayBefore, again)
		}
		if again := impl.RoadsNeeded(m.n, m.roads); !slices.Equal(again, neededBefore) {
			t.Errorf("RoadsNeeded is %v, and then %v", neededBefore, again)
		}
		if again, ok := impl.RoadsNet(m.n, m.roads); ok != netOk || !slices.Equal(again, netBefore) {
			t.Errorf("RoadsNet is %v, and then %v", netBefore, again)
		}
	})
}
