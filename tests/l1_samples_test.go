package tests

import (
	"fmt"
	"testing"

	"loop.example/mailcoaches/impl"
)

// roadMap is a number of towns with roads, and the name by which a failure is told.
type roadMap struct {
	name  string
	n     int
	roads []impl.Road
}

// numbers is a fixed sequence of numbers, so that every run of the tests is the same.
type numbers struct {
	state uint64
}

// below returns the next number of the sequence, from 0 on and less than k.
func (s *numbers) below(k int) int {
	s.state = s.state*6364136223846793005 + 1442695040888963407
	return int(s.state>>33) % k
}

// namedMaps are the maps with the edge cases of the chapter.
func namedMaps() []roadMap {
	return []roadMap{
		{"one town", 1, nil},
		{"two towns, no roads", 2, []impl.Road{}},
		{"two towns, one road", 2, []impl.Road{{A: 0, B: 1, Miles: 7}}},
		{"eight towns, no roads", 8, nil},
		{"two parts", 5, []impl.Road{{A: 3, B: 4, Miles: 2}, {A: 0, B: 1, Miles: 3}, {A: 1, B: 2, Miles: 3}, {A: 0, B: 2, Miles: 6}}},
		{"triangle of equal roads", 3, []impl.Road{{A: 1, B: 2, Miles: 5}, {A: 0, B: 2, Miles: 5}, {A: 0, B: 1, Miles: 5}}},
		{"way as long as the road", 3, []impl.Road{{A: 0, B: 2, Miles: 8}, {A: 1, B: 2, Miles: 3}, {A: 0, B: 1, Miles: 5}}},
		{"road longer than the way", 3, []impl.Road{{A: 0, B: 2, Miles: 99}, {A: 1, B: 2, Miles: 3}, {A: 0, B: 1, Miles: 5}}},
		{"forked", 6, forked()},
		{"path of limits", 8, path(8, impl.MilesMax)},
		{"layers", 8, layers(4)},
		{"as many roads as can be", 8, sixteen(impl.MilesMax)},
		{"as many roads as can be, short", 8, sixteen(1)},
	}
}

// forked has two ways of equal length whose order is another one from each end: 0 1 4 5 and 0 2 3 5.
func forked() []impl.Road {
	return []impl.Road{{A: 3, B: 5, Miles: 4}, {A: 0, B: 2, Miles: 2}, {A: 4, B: 5, Miles: 3}, {A: 0, B: 1, Miles: 2}, {A: 2, B: 3, Miles: 1}, {A: 1, B: 4, Miles: 2}}
}

// path joins each town with the next one.
func path(n int, miles int) []impl.Road {
	roads := []impl.Road{}
	for town := 1; town < n; town++ {
		roads = append(roads, impl.Road{A: town - 1, B: town, Miles: miles})
	}
	return roads
}

// layers leads from 0 over one of 1 to 3 and one of 4 to 6 to 7: nine ways of equal length.
func layers(miles int) []impl.Road {
	roads := []impl.Road{}
	for town := 1; town <= 3; town++ {
		roads = append(roads, impl.Road{A: 0, B: town, Miles: miles}, impl.Road{A: town + 3, B: 7, Miles: miles})
		for next := 4; next <= 6; next++ {
			roads = append(roads, impl.Road{A: town, B: next, Miles: miles})
		}
	}
	return roads
}

// sixteen are RoadsMax roads: each town of 0 to 3 with each one of 4 to 7.
func sixteen(miles int) []impl.Road {
	roads := []impl.Road{}
	for a := range 4 {
		for b := 4; b < 8; b++ {
			roads = append(roads, impl.Road{A: a, B: b, Miles: miles})
		}
	}
	return roads
}

// mixedMaps are maps out of a fixed sequence, most of them with few different Miles and so many ways of equal length.
func mixedMaps(many int) []roadMap {
	s := &numbers{state: 7}
	maps := []roadMap{}
	for i := range many {
		n := 1 + s.below(impl.TownsMax)
		longest := []int{1, 2, 3, 6, impl.MilesMax}[s.below(5)]
		maps = append(maps, roadMap{fmt.Sprintf("mixed %d", i), n, mixedRoads(s, n, s.below(impl.RoadsMax+1), longest)})
	}
	return maps
}

// mixedRoads returns up to a number of roads, in no order.
func mixedRoads(s *numbers, n int, most int, longest int) []impl.Road {
	pairs := []impl.Road{}
	for b := range n {
		for a := range b {
			pairs = append(pairs, impl.Road{A: a, B: b, Miles: 1 + s.below(longest)})
		}
	}
	for i := len(pairs) - 1; i > 0; i-- {
		k := s.below(i + 1)
		pairs[i], pairs[k] = pairs[k], pairs[i]
	}
	return pairs[:min(most, len(pairs))]
}

// allSmallMaps are all maps of at most 4 towns with roads of 1 or 2 miles.
func allSmallMaps() []roadMap {
	maps := []roadMap{}
	for n := 1; n <= 4; n++ {
		pairs := n * (n - 1) / 2
		codes := 1
		for range pairs {
			codes *= 3
		}
		for code := range codes {
			maps = append(maps, roadMap{fmt.Sprintf("small %d of %d towns", code, n), n, smallRoads(n, code)})
		}
	}
	return maps
}

// smallRoads reads a code in base 3, a digit a pair of towns: no road, or one of 1 or 2 miles.
func smallRoads(n int, code int) []impl.Road {
	roads := []impl.Road{}
	for a := range n {
		for b := a + 1; b < n; b++ {
			if miles := code % 3; miles > 0 {
				roads = append(roads, impl.Road{A: a, B: b, Miles: miles})
			}
			code /= 3
		}
	}
	return roads
}

// eachMap runs a test on all maps.
func eachMap(t *testing.T, test func(t *testing.T, m roadMap)) {
	t.Helper()
	maps := append(namedMaps(), allSmallMaps()...)
	maps = append(maps, mixedMaps(200)...)
	for _, m := range maps {
		test(t, m)
		if t.Failed() {
			t.Fatalf("map %q: %d towns, roads %v", m.name, m.n, m.roads)
		}
	}
}

// eachPair runs a test on all pairs of towns of all maps, also of a town and itself.
func eachPair(t *testing.T, test func(t *testing.T, m roadMap, a int, b int)) {
	t.Helper()
	eachMap(t, func(t *testing.T, m roadMap) {
		for a := range m.n {
			for b := range m.n {
				test(t, m, a, b)
			}
		}
	})
}

// noMaps are numbers of towns and lists that are no roads of them.
func noMaps() []roadMap {
	one := []impl.Road{{A: 0, B: 1, Miles: 5}}
	return []roadMap{
		{"no towns", 0, nil},
		{"negative number of towns", -1, nil},
		{"most negative number of towns", -1 << 63, nil},
		{"too many towns", 9, nil},
		{"too many towns, with a road", 9, one},
		{"far too many towns", 1<<63 - 1, one},
		{"one town with a road", 1, one},
		{"town that there is not", 3, []impl.Road{{A: 0, B: 1, Miles: 5}, {A: 1, B: 3, Miles: 5}}},
		{"negative town", 3, []impl.Road{{A: 0, B: 1, Miles: 5}, {A: -1, B: 2, Miles: 5}}},
		{"town joined with itself", 3, []impl.Road{{A: 0, B: 1, Miles: 5}, {A: 2, B: 2, Miles: 5}}},
		{"towns in the wrong order", 3, []impl.Road{{A: 0, B: 1, Miles: 5}, {A: 2, B: 1, Miles: 5}}},
		{"same towns twice", 3, []impl.Road{{A: 0, B: 1, Miles: 5}, {A: 1, B: 2, Miles: 5}, {A: 0, B: 1, Miles: 5}}},
		{"same towns with other Miles", 3, []impl.Road{{A: 0, B: 1, Miles: 5}, {A: 1, B: 2, Miles: 5}, {A: 0, B: 1, Miles: 6}}},
		{"same towns exchanged", 3, []impl.Road{{A: 0, B: 1, Miles: 5}, {A: 1, B: 2, Miles: 5}, {A: 1, B: 0, Miles: 5}}},
		{"no Miles", 3, []impl.Road{{A: 0, B: 1, Miles: 5}, {A: 1, B: 2, Miles: 0}}},
		{"negative Miles", 3, []impl.Road{{A: 0, B: 1, Miles: 5}, {A: 1, B: 2, Miles: -1}}},
		{"too many Miles", 3, []impl.Road{{A: 0, B: 1, Miles: 5}, {A: 1, B: 2, Miles: 100}}},
		{"too many roads", 8, append(sixteen(5), impl.Road{A: 0, B: 1, Miles: 5})},
	}
}
