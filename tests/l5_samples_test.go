package tests

import (
	"fmt"
	"slices"
	"testing"

	"loop.example/mailcoaches/impl"
)

// partedRoad is a road in parts, with the name by which a failure is told.
type partedRoad struct {
	name  string
	parts []impl.Part
}

// plainParts are an ordinary plain road.
func plainParts() []impl.Part {
	return []impl.Part{{Owner: 0, Miles: 3}, {Owner: 1, Miles: 3}, {Owner: 0, Miles: 1}}
}

// pairedParts are an ordinary road that is not plain.
func pairedParts() []impl.Part {
	return []impl.Part{{Owner: 2, Miles: 4}, {Owner: 2, Miles: 1}, {Owner: 5, Miles: 7}, {Owner: 0, Miles: 2}, {Owner: 0, Miles: 2}, {Owner: 0, Miles: 3}}
}

// milesEach are parts of as many miles as are given, of the proprietors 0, 1 and so on, and again from 0 on.
func milesEach(miles ...int) []impl.Part {
	parts := []impl.Part{}
	for i, m := range miles {
		parts = append(parts, impl.Part{Owner: i % 6, Miles: m})
	}
	return parts
}

// twelveParts are as many parts as there can be, of some miles each.
func twelveParts(miles int) []impl.Part {
	return milesEach(slices.Repeat([]int{miles}, 12)...)
}

// byTurns are a number of parts of some miles each, by turns of two proprietors.
func byTurns(number int, miles int, a int, b int) []impl.Part {
	parts := []impl.Part{}
	for i := range number {
		parts = append(parts, impl.Part{Owner: []int{a, b}[i%2], Miles: miles})
	}
	return parts
}

// oneOwner are parts of one proprietor.
func oneOwner(owner int, miles ...int) []impl.Part {
	parts := []impl.Part{}
	for _, m := range miles {
		parts = append(parts, impl.Part{Owner: owner, Miles: m})
	}
	return parts
}

// workedBy is a road on which each proprietor works as many miles as are given, at most MilesMax.
func workedBy(miles ...int) []impl.Part {
	return slices.DeleteFunc(milesEach(miles...), func(p impl.Part) bool { return p.Miles == 0 })
}

// namedRoads are roads in parts with the edge cases of the chapter.
func namedRoads() []partedRoad {
	return slices.Concat(namedPlainRoads(), namedOtherRoads())
}

// namedPlainRoads are those on which no two parts that follow each other have one Owner.
func namedPlainRoads() []partedRoad {
	return []partedRoad{
		{"plain", plainParts()},
		{"one part of 1 mile", oneOwner(0, 1)},
		{"one part of 1 mile, last proprietor", oneOwner(5, 1)},
		{"one part of MilesMax miles", oneOwner(3, 99)},
		{"two parts of 1 mile", []impl.Part{{Owner: 4, Miles: 1}, {Owner: 1, Miles: 1}}},
		{"two parts of MilesMax miles", []impl.Part{{Owner: 1, Miles: 99}, {Owner: 4, Miles: 99}}},
		{"1 mile, then MilesMax miles", []impl.Part{{Owner: 5, Miles: 1}, {Owner: 0, Miles: 99}}},
		{"MilesMax miles, then 1 mile", []impl.Part{{Owner: 0, Miles: 99}, {Owner: 5, Miles: 1}}},
		{"12 parts of 1 mile", twelveParts(1)},
		{"12 parts of MilesMax miles", twelveParts(99)},
		{"12 parts of two proprietors", byTurns(12, 2, 3, 0)},
		{"11 parts of two proprietors", byTurns(11, 3, 0, 5)},
		{"12 parts, more and more miles", milesEach(1, 2, 3, 4, 5, 6, 7, 8, 9, 10, 11, 12)},
		{"12 parts, fewer and fewer miles", milesEach(12, 11, 10, 9, 8, 7, 6, 5, 4, 3, 2, 1)},
		{"all proprietors, more and more miles", milesEach(1, 2, 3, 4, 5, 6)},
		{"all proprietors with as many miles", milesEach(2, 2, 2, 2, 2, 2)},
		{"more than MilesMax miles of one proprietor, not joined", []impl.Part{{Owner: 2, Miles: 99}, {Owner: 3, Miles: 1}, {Owner: 2, Miles: 99}}},
	}
}

// namedOtherRoads are those on which some parts that follow each other have one Owner.
func namedOtherRoads() []partedRoad {
	return []partedRoad{
		{"pairs of parts with one Owner", pairedParts()},
		{"two parts of 1 mile with one Owner", oneOwner(0, 1, 1)},
		{"12 parts of 1 mile with one Owner", oneOwner(5, slices.Repeat([]int{1}, 12)...)},
		{"first parts with one Owner", []impl.Part{{Owner: 1, Miles: 2}, {Owner: 1, Miles: 3}, {Owner: 0, Miles: 1}}},
		{"last parts with one Owner", []impl.Part{{Owner: 0, Miles: 1}, {Owner: 1, Miles: 2}, {Owner: 1, Miles: 3}}},
		{"two parts of MilesMax miles together", oneOwner(4, 50, 49)},
		{"two parts of MilesMax miles and one more together", oneOwner(4, 50, 50)},
		{"1 and MilesMax miles with one Owner", oneOwner(2, 1, 99)},
		{"MilesMax miles and 1 with one Owner", oneOwner(2, 99, 1)},
		{"three parts of MilesMax miles together", oneOwner(1, 33, 33, 33)},
		{"three parts of MilesMax miles and one more together", oneOwner(1, 33, 34, 33)},
		{"first parts of MilesMax miles together", []impl.Part{{Owner: 3, Miles: 90}, {Owner: 3, Miles: 9}, {Owner: 2, Miles: 7}}},
		{"last parts of MilesMax miles and one more together", []impl.Part{{Owner: 2, Miles: 7}, {Owner: 3, Miles: 10}, {Owner: 3, Miles: 90}}},
		{"parts between of MilesMax miles and one more together", []impl.Part{{Owner: 2, Miles: 7}, {Owner: 3, Miles: 99}, {Owner: 3, Miles: 1}, {Owner: 2, Miles: 9}}},
		{"12 parts of MilesMax miles with one Owner", oneOwner(0, slices.Repeat([]int{99}, 12)...)},
		{"12 parts, each two with one Owner", []impl.Part{{Owner: 0, Miles: 1}, {Owner: 0, Miles: 2}, {Owner: 1, Miles: 1}, {Owner: 1, Miles: 1}, {Owner: 2, Miles: 4}, {Owner: 2, Miles: 1}, {Owner: 3, Miles: 5}, {Owner: 3, Miles: 1}, {Owner: 4, Miles: 2}, {Owner: 4, Miles: 2}, {Owner: 5, Miles: 3}, {Owner: 5, Miles: 3}}},
	}
}

// mixedParts are roads in parts out of a fixed sequence, with few and many proprietors, and with short and long parts.
func mixedParts(number int) []partedRoad {
	s := &numbers{state: 79}
	roads := []partedRoad{}
	for i := range number {
		owners, longest := 1+s.below(6), []int{2, 5, 20, 99}[s.below(4)]
		parts := []impl.Part{}
		for range 1 + s.below(12) {
			parts = append(parts, impl.Part{Owner: 5 - s.below(owners), Miles: 1 + s.below(longest)})
		}
		roads = append(roads, partedRoad{fmt.Sprintf("mixed %d", i), parts})
	}
	return roads
}

// shortRoads are all roads of at most 3 parts of 1 or 2 miles and of the proprietors 0, 1 and 5.
func shortRoads() []partedRoad {
	roads := []partedRoad{}
	for _, parts := range smallParts(nil, 3) {
		roads = append(roads, partedRoad{fmt.Sprintf("small %d", len(roads)), parts})
	}
	return roads
}

// smallParts are all lists that begin with some parts and go on with at most a number of others, at least one.
func smallParts(begin []impl.Part, most int) [][]impl.Part {
	lists := [][]impl.Part{}
	for code := range 6 {
		p := impl.Part{Owner: []int{0, 1, 5}[code%3], Miles: 1 + code/3}
		list := append(begin[:len(begin):len(begin)], p)
		lists = append(lists, list)
		if most > 1 {
			lists = append(lists, smallParts(list, most-1)...)
		}
	}
	return lists
}

// allParts are all roads on which the tests are done.
func allParts() []partedRoad {
	return slices.Concat(namedRoads(), mixedParts(80), shortRoads())
}

// eachParts does a test with all roads.
func eachParts(t *testing.T, test func(t *testing.T, c partedRoad)) {
	t.Helper()
	for _, c := range allParts() {
		test(t, c)
		if t.Failed() {
			t.Fatalf("road %q: %v", c.name, c.parts)
		}
	}
}

// eachAmount does a test with all roads, and amounts on each.
func eachAmount(t *testing.T, test func(t *testing.T, c partedRoad, amount int)) {
	t.Helper()
	eachParts(t, func(t *testing.T, c partedRoad) {
		for _, amount := range amountsOf(len(modelOwners(c.parts))) {
			test(t, c, amount)
			if t.Failed() {
				t.Fatalf("with the amount %d", amount)
			}
		}
	})
}

// eachStretch does a test with all roads, and stretches of each.
func eachStretch(t *testing.T, test func(t *testing.T, c partedRoad, from int, to int)) {
	t.Helper()
	eachParts(t, func(t *testing.T, c partedRoad) {
		miles := milesNearBounds(c.parts)
		for i, from := range miles {
			for _, to := range miles[i+1:] {
				test(t, c, from, to)
				if t.Failed() {
					t.Fatalf("with the miles from %d to %d", from, to)
				}
			}
		}
	})
}

// amountsOf are amounts to be shared by a number of miles: the limits, small ones, and those about which all divisions have no rest.
func amountsOf(miles int) []int {
	list := []int{0, 1, 2, 3, 5, 10, 97, 12345, 999999, 1000000}
	for _, whole := range []int{miles / 2, miles, 7 * miles, 1000000 / miles * miles} {
		list = append(list, whole-1, whole, whole+1)
	}
	slices.Sort(list)
	return slices.DeleteFunc(slices.Compact(list), func(amount int) bool { return amount < 0 || amount > 1000000 })
}

// milesNearBounds are the ends of a road, and miles at the bounds of its first, middle and last parts and within these, ascending.
func milesNearBounds(parts []impl.Part) []int {
	list, length := []int{0}, 0
	for i, p := range parts {
		if i < 2 || i == len(parts)/2 || i >= len(parts)-1 {
			list = append(list, length, length+1, length+p.Miles/2, length+p.Miles-1)
		}
		length += p.Miles
	}
	list = append(list, length)
	slices.Sort(list)
	return slices.Compact(list)
}

// noSingleParts are parts that can be on no road.
func noSingleParts() []impl.Part {
	list := []impl.Part{{Owner: -1, Miles: 5}, {Owner: -6, Miles: 5}, {Owner: 6, Miles: 5}, {Owner: 7, Miles: 5}, {Owner: 0, Miles: 0}, {Owner: 5, Miles: 0}, {Owner: 0, Miles: -1}, {Owner: 0, Miles: -99}, {Owner: 0, Miles: 100}, {Owner: 5, Miles: 101}, {Owner: 0, Miles: 1188}, {Owner: 6, Miles: 100}, {Owner: -1, Miles: 0}, {}}
	for _, far := range farNumbers() {
		list = append(list, impl.Part{Owner: far, Miles: 1}, impl.Part{Owner: 0, Miles: far}, impl.Part{Owner: far, Miles: far})
	}
	return list
}

// noRoads are lists that are no roads in parts.
func noRoads() []partedRoad {
	lists := []partedRoad{
		{"nil", nil},
		{"empty", []impl.Part{}},
		{"13 parts", append(twelveParts(1), impl.Part{Owner: 3, Miles: 1})},
		{"13 parts with one Owner", oneOwner(1, slices.Repeat([]int{1}, 13)...)},
		{"13 parts, plain with fewer", append(twelveParts(2), impl.Part{Owner: 5, Miles: 1})},
		{"24 parts", slices.Repeat(twelveParts(1), 2)},
		{"far too many parts", slices.Repeat(plainParts(), 1000)},
	}
	for i, p := range noSingleParts() {
		lists = append(lists,
			partedRoad{fmt.Sprintf("part %d alone: %v", i, p), []impl.Part{p}},
			partedRoad{fmt.Sprintf("part %d first: %v", i, p), append([]impl.Part{p}, plainParts()...)},
			partedRoad{fmt.Sprintf("part %d between: %v", i, p), slices.Insert(plainParts(), 1, p)},
			partedRoad{fmt.Sprintf("part %d last: %v", i, p), append(plainParts(), p)},
		)
	}
	return lists
}

// noOwners are numbers that no proprietor has.
func noOwners() []int {
	return append(farNumbers(), -6, -2, -1, 6, 7, 12)
}

// noAmounts are amounts that are not shared.
func noAmounts() []int {
	return append(farNumbers(), -1000000, -2, -1, 1000001, 1000002, 2000000)
}

// noStretches are miles from one to another one of a road of some miles that it does not have.
func noStretches(length int) [][2]int {
	list := [][2]int{{0, 0}, {length, length}, {length - 1, length - 1}, {1, 0}, {length, 0}, {length, length - 1}, {-1, 0}, {-1, 1}, {-1, length}, {-2, -1}, {-1, -1}, {0, length + 1}, {length - 1, length + 1}, {length, length + 1}, {length + 1, length + 2}, {-1, length + 1}, {0, -1}}
	for _, far := range farNumbers() {
		list = append(list, [2]int{far, length}, [2]int{0, far}, [2]int{far, far}, [2]int{far, far + 1}, [2]int{far, 1})
	}
	return slices.DeleteFunc(list, func(s [2]int) bool { return 0 <= s[0] && s[0] < s[1] && s[1] <= length })
}
