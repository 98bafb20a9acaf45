package tests

import (
	"slices"
	"testing"

	"loop.example/mailcoaches/impl"
)

// The model finds everything by trying all ways that visit no town twice: slow, but with nothing of the program in it.

// modelMiles returns the Miles between two towns, or -1.
func modelMiles(roads []impl.Road, a int, b int) int {
	for _, r := range roads {
		if r.A == a && r.B == b || r.A == b && r.B == a {
			return r.Miles
		}
	}
	return -1
}

// modelLength returns the length of a way.
func modelLength(roads []impl.Road, way []int) int {
	length := 0
	for i := 1; i < len(way); i++ {
		length += modelMiles(roads, way[i-1], way[i])
	}
	return length
}

// modelWays returns all ways between two towns that visit no town twice.
func modelWays(m roadMap, way []int, b int) [][]int {
	end := way[len(way)-1]
	if end == b {
		return [][]int{slices.Clone(way)}
	}
	ways := [][]int{}
	for next := range m.n {
		if modelMiles(m.roads, end, next) > 0 && !slices.Contains(way, next) {
			ways = append(ways, modelWays(m, append(slices.Clone(way), next), b)...)
		}
	}
	return ways
}

// modelShortest returns the shortest ways, the one with the lesser town where they differ first, and their length, or none and -1.
func modelShortest(m roadMap, a int, b int) ([][]int, int) {
	shortest, least := [][]int{}, -1
	for _, way := range modelWays(m, []int{a}, b) {
		length := modelLength(m.roads, way)
		if least == -1 || length < least {
			shortest, least = nil, length
		}
		if length == least {
			shortest = append(shortest, way)
		}
	}
	slices.SortFunc(shortest, slices.Compare)
	return shortest, least
}

// modelFar returns the distances of all towns from each other.
func modelFar(m roadMap) [][]int {
	table := [][]int{}
	for a := range m.n {
		row := []int{}
		for b := range m.n {
			_, far := modelShortest(m, a, b)
			row = append(row, far)
		}
		table = append(table, row)
	}
	return table
}

// modelWhole reports whether a table of distances has no -1.
func modelWhole(table [][]int) bool {
	for _, row := range table {
		if slices.Contains(row, -1) {
			return false
		}
	}
	return true
}

// modelMiddle returns the middle of a table of distances without -1.
func modelMiddle(table [][]int) (int, int) {
	middle, least := -1, 0
	for town, row := range table {
		if far := slices.Max(row); middle == -1 || far < least {
			middle, least = town, far
		}
	}
	return middle, least
}

// withoutRoad returns a map without one of its roads.
func withoutRoad(m roadMap, k int) roadMap {
	rest := []impl.Road{}
	for i, r := range m.roads {
		if i != k {
			rest = append(rest, r)
		}
	}
	return roadMap{m.name, m.n, rest}
}

// modelNeeded returns the indexes of the roads without which there is no way between their towns.
func modelNeeded(m roadMap) []int {
	needed := []int{}
	for k, r := range m.roads {
		if ways := modelWays(withoutRoad(m, k), []int{r.A}, r.B); len(ways) == 0 {
			needed = append(needed, k)
		}
	}
	return needed
}

// modelNet takes the roads of 1 mile, of 2 miles and so on, and marks for each town the part of the map in which it is.
func modelNet(m roadMap) []int {
	part := []int{}
	for town := range m.n {
		part = append(part, town)
	}
	taken := []int{}
	for miles := 1; miles <= impl.MilesMax; miles++ {
		for i, r := range m.roads {
			if r.Miles != miles || part[r.A] == part[r.B] {
				continue
			}
			taken = append(taken, i)
			gone, kept := part[r.B], part[r.A]
			for town := range part {
				if part[town] == gone {
					part[town] = kept
				}
			}
		}
	}
	slices.Sort(taken)
	return taken
}

func TestModelOfPairs(t *testing.T) {
	eachPair(t, func(t *testing.T, m roadMap, a int, b int) {
		if got, want := impl.RoadsDirect(m.n, m.roads, a, b), modelMiles(m.roads, a, b); got != want {
			t.Errorf("RoadsDirect %d %d: got %d, want %d", a, b, got, want)
		}
		ways, far := modelShortest(m, a, b)
		if got := impl.RoadsFar(m.n, m.roads, a, b); got != far {
			t.Errorf("RoadsFar %d %d: got %d, want %d", a, b, got, far)
		}
		many, best := -1, []int{}
		if far != -1 {
			many, best = len(ways), ways[0]
		}
		if got := impl.RoadsMany(m.n, m.roads, a, b); got != many {
			t.Errorf("RoadsMany %d %d: got %d, want %d", a, b, got, many)
		}
		if way, ok := impl.RoadsWay(m.n, m.roads, a, b); ok != (far != -1) || !slices.Equal(way, best) {
			t.Errorf("RoadsWay %d %d: got %v and %v, want %v", a, b, way, ok, best)
		}
	})
}

func TestModelOfMaps(t *testing.T) {
	eachMap(t, func(t *testing.T, m roadMap) {
		table := modelFar(m)
		whole := modelWhole(table)
		if !impl.RoadsValid(m.n, m.roads) {
			t.Errorf("RoadsValid does not hold")
		}
		if impl.RoadsWhole(m.n, m.roads) != whole {
			t.Errorf("RoadsWhole: got %v, want %v", !whole, whole)
		}
		if got, want := impl.RoadsNeeded(m.n, m.roads), modelNeeded(m); !slices.Equal(got, want) {
			t.Errorf("RoadsNeeded: got %v, want %v", got, want)
		}
		middle, far, net := 0, 0, []int{}
		if whole {
			middle, far = modelMiddle(table)
			net = modelNet(m)
		}
		if gotTown, gotFar, ok := impl.RoadsMiddle(m.n, m.roads); ok != whole || gotTown != middle || gotFar != far {
			t.Errorf("RoadsMiddle: got %d, %d and %v, want %d, %d and %v", gotTown, gotFar, ok, middle, far, whole)
		}
		if got, ok := impl.RoadsNet(m.n, m.roads); ok != whole || !slices.Equal(got, net) {
			t.Errorf("RoadsNet: got %v and %v, want %v and %v", got, ok, net, whole)
		}
		length := 0
		for _, r := range m.roads {
			length += r.Miles
		}
		if got := impl.RoadsLength(m.n, m.roads); got != length {
			t.Errorf("RoadsLength: got %d, want %d", got, length)
		}
	})
}

func TestModelOfWays(t *testing.T) {
	s := &numbers{state: 3}
	eachMap(t, func(t *testing.T, m roadMap) {
		for range 20 {
			way := mixedWay(s, m)
			want := modelLength(m.roads, way)
			for i := 1; i < len(way); i++ {
				if modelMiles(m.roads, way[i-1], way[i]) == -1 {
					want = -1
				}
			}
			if got := impl.WayLength(m.n, m.roads, way); got != want {
				t.Errorf("WayLength of %v: got %d, want %d", way, got, want)
			}
		}
	})
}

// mixedWay goes along some roads, there and back again, and sometimes where there is none.
func mixedWay(s *numbers, m roadMap) []int {
	way := []int{s.below(m.n)}
	for range s.below(12) {
		next := s.below(m.n)
		if s.below(30) > 0 && modelMiles(m.roads, way[len(way)-1], next) == -1 {
			continue
		}
		way = append(way, next)
	}
	return way
}
