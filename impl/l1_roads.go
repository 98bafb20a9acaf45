package impl

import (
	"container/heap"
	"slices"
)

// TownsMax is the greatest number of towns.
const TownsMax = 8

// RoadsMax is the greatest number of roads.
const RoadsMax = 16

// MilesMax is the greatest length of a road, in miles.
const MilesMax = 99

// Road joins two towns.
type Road struct {
	A     int
	B     int
	Miles int
}

// network has an entry for each town, also for one without roads: the Miles to each town that a road joins with it.
type network map[int]map[int]int

// newNetwork returns the network of n towns without roads.
func newNetwork(n int) network {
	net := network{}
	for town := range n {
		net[town] = map[int]int{}
	}
	return net
}

// networkOf returns the network of a list, and whether the list are roads of n towns.
func networkOf(n int, roads []Road) (network, bool) {
	if n < 1 || n > TownsMax || len(roads) > RoadsMax {
		return nil, false
	}
	net := newNetwork(n)
	for _, r := range roads {
		if !roadFits(n, r) || net.direct(r.A, r.B) != -1 {
			return nil, false
		}
		net.join(r)
	}
	return net, true
}

// roadFits reports whether a road alone is one of n towns.
func roadFits(n int, r Road) bool {
	return 0 <= r.A && r.A < r.B && r.B < n && 1 <= r.Miles && r.Miles <= MilesMax
}

// join keeps a road at both of its towns, so that it can be used in both directions.
func (net network) join(r Road) {
	net[r.A][r.B] = r.Miles
	net[r.B][r.A] = r.Miles
}

// part undoes join.
func (net network) part(r Road) {
	delete(net[r.A], r.B)
	delete(net[r.B], r.A)
}

// has reports whether there is a town.
func (net network) has(town int) bool {
	_, ok := net[town]
	return ok
}

// direct returns the Miles of the road between two towns, or -1 if there is none.
func (net network) direct(a int, b int) int {
	miles, ok := net[a][b]
	if !ok {
		return -1
	}
	return miles
}

// distances returns the distances of a town from all towns to which there is a way, and none if there is no such town.
func (net network) distances(from int) map[int]int {
	far := map[int]int{}
	if !net.has(from) {
		return far
	}
	ahead := &places{{town: from}}
	for ahead.Len() > 0 {
		p := heap.Pop(ahead).(place)
		if _, ok := far[p.town]; ok {
			continue
		}
		// No place that is still to come is nearer, so this distance is final.
		far[p.town] = p.far
		for town, miles := range net[p.town] {
			heap.Push(ahead, place{town: town, far: p.far + miles})
		}
	}
	return far
}

// reaches reports whether there is a way between two towns.
func (net network) reaches(a int, b int) bool {
	_, ok := net.distances(a)[b]
	return ok
}

// nearer returns the towns next to a town on the shortest ways to the one from which all distances are counted, ascending.
func (net network) nearer(town int, far map[int]int) []int {
	towns := []int{}
	for next, miles := range net[town] {
		if far[next]+miles == far[town] {
			towns = append(towns, next)
		}
	}
	slices.Sort(towns)
	return towns
}

// waysFrom returns the number of shortest ways from a town to the one from which all distances are counted.
func (net network) waysFrom(town int, far map[int]int) int {
	if far[town] == 0 {
		return 1
	}
	many := 0
	for _, next := range net.nearer(town, far) {
		many += net.waysFrom(next, far)
	}
	return many
}

// whole reports whether there is a way between any two towns.
func (net network) whole() bool {
	return len(net.distances(0)) == len(net)
}

// place is a town that can be reached over some way.
type place struct {
	town int
	far  int
}

// places is a heap whose first place is the nearest one.
type places []place

func (p places) Len() int {
	return len(p)
}

func (p places) Less(i int, j int) bool {
	return p[i].far < p[j].far
}

func (p places) Swap(i int, j int) {
	p[i], p[j] = p[j], p[i]
}

// Push is called by the package heap alone.
func (p *places) Push(x any) {
	*p = append(*p, x.(place))
}

// Pop is called by the package heap alone, which has moved the nearest place to the end.
func (p *places) Pop() any {
	last := len(*p) - 1
	x := (*p)[last]
	*p = (*p)[:last]
	return x
}

// RoadsValid reports whether a list are roads of n towns.
func RoadsValid(n int, roads []Road) bool {
	_, ok := networkOf(n, roads)
	return ok
}

// RoadsDirect returns the Miles of the road between two towns, or -1 if the list are no roads, or there are no such towns or no such road.
func RoadsDirect(n int, roads []Road, a int, b int) int {
	net, ok := networkOf(n, roads)
	if !ok {
		return -1
	}
	return net.direct(a, b)
}

// RoadsAdd returns the roads with a road behind all others, and true.
func RoadsAdd(n int, roads []Road, r Road) ([]Road, bool) {
	if !RoadsValid(n, roads) {
		return []Road{}, false
	}
	longer := slices.Concat(roads, []Road{r})
	if !RoadsValid(n, longer) {
		return []Road{}, false
	}
	return longer, true
}

// RoadsClose returns the roads without the one between two towns, and true.
func RoadsClose(n int, roads []Road, a int, b int) ([]Road, bool) {
	if RoadsDirect(n, roads, a, b) == -1 {
		return []Road{}, false
	}
	rest := []Road{}
	for _, r := range roads {
		if r.A != min(a, b) || r.B != max(a, b) {
			rest = append(rest, r)
		}
	}
	return rest, true
}

// WayLength returns the length of a way, or -1 if the first list are no roads or the other one is no way.
func WayLength(n int, roads []Road, way []int) int {
	net, ok := networkOf(n, roads)
	if !ok || len(way) == 0 || !net.has(way[0]) {
		return -1
	}
	length := 0
	for i, town := range way[1:] {
		miles := net.direct(way[i], town)
		if miles == -1 {
			return -1
		}
		length += miles
	}
	return length
}

// RoadsFar returns the distance of two towns, or -1 if the list are no roads, or there are no such towns or no way.
func RoadsFar(n int, roads []Road, a int, b int) int {
	net, ok := networkOf(n, roads)
	if !ok {
		return -1
	}
	far, ok := net.distances(a)[b]
	if !ok {
		return -1
	}
	return far
}

// RoadsWay returns the way between two towns whose length is their distance, and true: of several, the one whose first town that differs is the lesser one.
func RoadsWay(n int, roads []Road, a int, b int) ([]int, bool) {
	net, ok := networkOf(n, roads)
	if !ok || !net.reaches(a, b) {
		return []int{}, false
	}
	// Distances from the end tell at each town which next ones are on a shortest way.
	far := net.distances(b)
	way := []int{a}
	for town := a; town != b; {
		town = net.nearer(town, far)[0]
		way = append(way, town)
	}
	return way, true
}

// RoadsMany returns the number of ways between two towns whose length is their distance, or -1 if RoadsFar is -1.
func RoadsMany(n int, roads []Road, a int, b int) int {
	net, ok := networkOf(n, roads)
	if !ok || !net.reaches(a, b) {
		return -1
	}
	return net.waysFrom(a, net.distances(b))
}

// RoadsWhole reports whether the list are roads and there is a way between any two towns.
func RoadsWhole(n int, roads []Road) bool {
	net, ok := networkOf(n, roads)
	return ok && net.whole()
}

// RoadsMiddle returns the town whose greatest distance from any other town (0 if there is none) is least, the least one of several, and that distance, and true.
func RoadsMiddle(n int, roads []Road) (int, int, bool) {
	net, ok := networkOf(n, roads)
	if !ok || !net.whole() {
		return 0, 0, false
	}
	middle, least := 0, greatest(net.distances(0))
	for town := 1; town < n; town++ {
		if far := greatest(net.distances(town)); far < least {
			middle, least = town, far
		}
	}
	return middle, least, true
}

// greatest returns the greatest of some distances, of which none is negative.
func greatest(far map[int]int) int {
	most := 0
	for _, miles := range far {
		most = max(most, miles)
	}
	return most
}

// RoadsNeeded returns the indexes of all roads without which there is no way between their two towns, ascending.
func RoadsNeeded(n int, roads []Road) []int {
	needed := []int{}
	net, ok := networkOf(n, roads)
	if !ok {
		return needed
	}
	for i, r := range roads {
		net.part(r)
		if !net.reaches(r.A, r.B) {
			needed = append(needed, i)
		}
		net.join(r)
	}
	return needed
}

// RoadsNet returns the indexes of roads over which there is a way between any two towns, with the least sum of Miles, ascending, and true.
func RoadsNet(n int, roads []Road) ([]int, bool) {
	if !RoadsWhole(n, roads) {
		return []int{}, false
	}
	taken := newNetwork(n)
	indexes := []int{}
	for _, i := range byMiles(roads) {
		if !taken.reaches(roads[i].A, roads[i].B) {
			taken.join(roads[i])
			indexes = append(indexes, i)
		}
	}
	slices.Sort(indexes)
	return indexes, true
}

// byMiles returns the indexes of roads by their Miles, those of equal Miles ascending.
func byMiles(roads []Road) []int {
	order := []int{}
	for i := range roads {
		order = append(order, i)
	}
	slices.SortStableFunc(order, func(i int, j int) int {
		return roads[i].Miles - roads[j].Miles
	})
	return order
}

// RoadsLength returns the sum of the Miles of all roads, or -1 if the list are none.
func RoadsLength(n int, roads []Road) int {
	if !RoadsValid(n, roads) {
		return -1
	}
	length := 0
	for _, r := range roads {
		length += r.Miles
	}
	return length
}
