package tests

import (
	"slices"
	"testing"

	"loop.example/mailcoaches/impl"
)

// P50. If PartsMiles succeeds, its sum is PartsLength, and each number is how many miles PartsOwner gives to the proprietor.
func TestP50Miles(t *testing.T) {
	eachParts(t, func(t *testing.T, c partedRoad) {
		miles, ok := impl.PartsMiles(c.parts)
		length := impl.PartsLength(c.parts)
		if !ok || len(miles) != impl.OwnersMax || sumOf(miles) != length {
			t.Fatalf("PartsMiles gives %v and %v, and PartsLength is %d", miles, ok, length)
		}
		given := make([]int, impl.OwnersMax)
		for mile := range length {
			owner, ok := impl.PartsOwner(c.parts, mile)
			if !ok || owner < 0 || owner >= impl.OwnersMax {
				t.Fatalf("PartsOwner of the mile %d gives %d and %v", mile, owner, ok)
			}
			given[owner]++
		}
		if !slices.Equal(miles, given) {
			t.Errorf("PartsMiles is %v, but PartsOwner gives %v", miles, given)
		}
	})
}

// P51. If PartsLength is not -1, it is that of PartsTurn and of PartsPlain, if this succeeds, and there is no mile with it as its number.
func TestP51Length(t *testing.T) {
	eachParts(t, func(t *testing.T, c partedRoad) {
		length := impl.PartsLength(c.parts)
		if length < len(c.parts) {
			t.Fatalf("PartsLength is %d", length)
		}
		turned, ok := impl.PartsTurn(c.parts)
		if other := impl.PartsLength(turned); !ok || other != length {
			t.Errorf("PartsLength is %d, and that of PartsTurn %d", length, other)
		}
		plain, ok := impl.PartsPlain(c.parts)
		if other := impl.PartsLength(plain); ok && other != length {
			t.Errorf("PartsLength is %d, and that of PartsPlain %d", length, other)
		}
		if owner, ok := impl.PartsOwner(c.parts, length); ok || owner != 0 {
			t.Errorf("PartsOwner of the mile %d gives %d and %v", length, owner, ok)
		}
		if owner, ok := impl.PartsOwner(c.parts, length-1); !ok || owner != c.parts[len(c.parts)-1].Owner {
			t.Errorf("PartsOwner of the mile %d gives %d and %v", length-1, owner, ok)
		}
	})
}

// P52. If PartsOwner succeeds, it is that of the mile from the end of PartsTurn, and PartsSell of this mile alone to it is PartsPlain, if this succeeds.
func TestP52Owner(t *testing.T) {
	eachParts(t, func(t *testing.T, c partedRoad) {
		length := impl.PartsLength(c.parts)
		turned, _ := impl.PartsTurn(c.parts)
		plain, plainOk := impl.PartsPlain(c.parts)
		for _, mile := range milesNearBounds(c.parts) {
			owner, ok := impl.PartsOwner(c.parts, mile)
			if ok != (mile < length) {
				t.Fatalf("PartsOwner of the mile %d gives %d and %v", mile, owner, ok)
			}
			if !ok {
				continue
			}
			if other, ok := impl.PartsOwner(turned, length-1-mile); !ok || other != owner {
				t.Errorf("PartsOwner of the mile %d is %d, but from the end %d and %v", mile, owner, other, ok)
			}
			if sold, ok := impl.PartsSell(c.parts, mile, mile+1, owner); ok != plainOk || !slices.Equal(sold, plain) {
				t.Errorf("PartsSell of the mile %d gives %v and %v, but PartsPlain %v and %v", mile, sold, ok, plain, plainOk)
			}
		}
	})
}

// checkPlain checks that a list is a plain road.
func checkPlain(t *testing.T, name string, parts []impl.Part) {
	t.Helper()
	if !impl.PartsValid(parts) {
		t.Errorf("%s is %v, which is no road", name, parts)
	}
	for i := range len(parts) - 1 {
		if parts[i].Owner == parts[i+1].Owner {
			t.Errorf("%s is %v, which is not plain", name, parts)
		}
	}
}

// P53. If PartsPlain succeeds, no two parts that follow each other have one Owner, PartsMiles is the same, PartsPlain of it is itself, and each mile has the same Owner.
func TestP53Plain(t *testing.T) {
	made := 0
	eachParts(t, func(t *testing.T, c partedRoad) {
		plain, ok := impl.PartsPlain(c.parts)
		if !ok {
			return
		}
		made++
		checkPlain(t, "PartsPlain", plain)
		before, _ := impl.PartsMiles(c.parts)
		if after, ok := impl.PartsMiles(plain); !ok || !slices.Equal(before, after) {
			t.Errorf("PartsMiles is %v, but that of %v is %v and %v", before, plain, after, ok)
		}
		if again, ok := impl.PartsPlain(plain); !ok || !slices.Equal(again, plain) {
			t.Errorf("PartsPlain is %v, and then %v and %v", plain, again, ok)
		}
		for mile := range impl.PartsLength(c.parts) {
			before, _ := impl.PartsOwner(c.parts, mile)
			if after, ok := impl.PartsOwner(plain, mile); !ok || before != after {
				t.Fatalf("PartsOwner of the mile %d is %d, but on %v %d and %v", mile, before, plain, after, ok)
			}
		}
	})
	if made < 300 {
		t.Errorf("only %d roads were made plain", made)
	}
}

// P54. If PartsSell succeeds, its miles have the proprietor, all others the Owner of before, and it is plain.
func TestP54Sell(t *testing.T) {
	sales := 0
	eachStretch(t, func(t *testing.T, c partedRoad, from int, to int) {
		buyer := (from + 5*to + len(c.parts)) % impl.OwnersMax
		sold, ok := impl.PartsSell(c.parts, from, to, buyer)
		if !ok {
			return
		}
		sales++
		checkPlain(t, "PartsSell", sold)
		length := impl.PartsLength(c.parts)
		if other := impl.PartsLength(sold); other != length {
			t.Fatalf("PartsLength is %d, and that of PartsSell to %d %d", length, buyer, other)
		}
		for _, mile := range slices.Concat(milesNearBounds(c.parts), []int{from - 1, from, to - 1, to}) {
			want, there := impl.PartsOwner(c.parts, mile)
			if from <= mile && mile < to {
				want = buyer
			}
			if owner, ok := impl.PartsOwner(sold, mile); ok != there || owner != want {
				t.Errorf("PartsSell to %d gives %v, where the mile %d has the Owner %d and %v, want %d", buyer, sold, mile, owner, ok, want)
			}
		}
	})
	if sales < 1000 {
		t.Errorf("only %d sales were made", sales)
	}
}

// P55. If PartsTurn succeeds, PartsTurn of it is the road, PartsMiles is the same, and so is ShareMake of any amount.
func TestP55Turn(t *testing.T) {
	eachAmount(t, func(t *testing.T, c partedRoad, amount int) {
		turned, ok := impl.PartsTurn(c.parts)
		if back, backOk := impl.PartsTurn(turned); !ok || !backOk || !slices.Equal(back, c.parts) {
			t.Fatalf("PartsTurn gives %v and %v, and then %v and %v", turned, ok, back, backOk)
		}
		if turned[0] != c.parts[len(c.parts)-1] || turned[len(turned)-1] != c.parts[0] {
			t.Errorf("PartsTurn gives %v", turned)
		}
		before, _ := impl.PartsMiles(c.parts)
		if after, ok := impl.PartsMiles(turned); !ok || !slices.Equal(before, after) {
			t.Errorf("PartsMiles is %v, but turned %v and %v", before, after, ok)
		}
		before, _ = impl.ShareMake(c.parts, amount)
		if after, ok := impl.ShareMake(turned, amount); !ok || !slices.Equal(before, after) {
			t.Errorf("ShareMake is %v, but turned %v and %v", before, after, ok)
		}
	})
}

// P56. If PartsJoin succeeds, PartsMiles and PartsLength are the sums of both, and miles of the second one are that much farther.
func TestP56Join(t *testing.T) {
	joins := 0
	roads := slices.Concat(namedRoads(), mixedParts(20), shortRoads()[:20])
	for _, a := range roads {
		for _, b := range roads {
			joined, ok := impl.PartsJoin(a.parts, b.parts)
			if ok != (len(a.parts)+len(b.parts) <= 12) {
				t.Fatalf("PartsJoin of %v and %v gives %v and %v", a.parts, b.parts, joined, ok)
			}
			if ok {
				joins++
				checkJoined(t, a.parts, b.parts, joined)
			}
		}
	}
	if joins < 1000 {
		t.Errorf("only %d roads were joined", joins)
	}
}

// checkJoined checks the miles of two roads, one behind the other.
func checkJoined(t *testing.T, a []impl.Part, b []impl.Part, joined []impl.Part) {
	t.Helper()
	length := impl.PartsLength(a)
	if all := impl.PartsLength(joined); all != length+impl.PartsLength(b) {
		t.Errorf("PartsLength of %v and %v is %d", a, b, all)
	}
	ofA, _ := impl.PartsMiles(a)
	ofB, _ := impl.PartsMiles(b)
	both, ok := impl.PartsMiles(joined)
	for owner, miles := range both {
		if !ok || miles != ofA[owner]+ofB[owner] {
			t.Errorf("PartsMiles of %v and %v is %v and %v", a, b, both, ok)
		}
	}
	for _, mile := range milesNearBounds(b) {
		want, wantOk := impl.PartsOwner(b, mile)
		if owner, ok := impl.PartsOwner(joined, length+mile); ok != wantOk || owner != want {
			t.Errorf("PartsOwner of the mile %d of %v is %d and %v, but behind %v %d and %v", mile, b, want, wantOk, a, owner, ok)
		}
	}
	for _, mile := range milesNearBounds(a) {
		want, wantOk := impl.PartsOwner(a, mile)
		if owner, ok := impl.PartsOwner(joined, mile); wantOk && (!ok || owner != want) {
			t.Errorf("PartsOwner of the mile %d of %v is %d, but ahead of %v %d and %v", mile, a, want, b, owner, ok)
		}
	}
}

// P57. If ShareMake succeeds, its sum is the amount, each share times all miles is less than one whole from ShareDue, and who has no miles gets nothing.
func TestP57Shares(t *testing.T) {
	eachAmount(t, func(t *testing.T, c partedRoad, amount int) {
		shares, ok := impl.ShareMake(c.parts, amount)
		if !ok || len(shares) != impl.OwnersMax || sumOf(shares) != amount {
			t.Fatalf("ShareMake gives %v and %v", shares, ok)
		}
		due, ok := impl.ShareDue(c.parts, amount)
		if !ok || len(due) != impl.OwnersMax {
			t.Fatalf("ShareDue gives %v and %v", due, ok)
		}
		whole := impl.PartsLength(c.parts)
		miles, _ := impl.PartsMiles(c.parts)
		for owner, share := range shares {
			if from := share*whole - due[owner]; from >= whole || from <= -whole {
				t.Errorf("ShareMake is %v, but ShareDue %v of %d", shares, due, whole)
			}
			if miles[owner] == 0 && share != 0 {
				t.Errorf("ShareMake is %v, but PartsMiles %v", shares, miles)
			}
		}
	})
}

// P58. If ShareMake succeeds, a proprietor with more miles than another one gets at least as much, and with equal miles the one with the lesser number gets at most 1 more, and not less.
func TestP58Fair(t *testing.T) {
	more := 0
	eachAmount(t, func(t *testing.T, c partedRoad, amount int) {
		shares, ok := impl.ShareMake(c.parts, amount)
		miles, _ := impl.PartsMiles(c.parts)
		if !ok || len(shares) != len(miles) {
			t.Fatalf("ShareMake gives %v and %v", shares, ok)
		}
		for a := range shares {
			for b := range shares {
				if miles[a] > miles[b] && shares[a] < shares[b] {
					t.Errorf("ShareMake is %v, but PartsMiles %v", shares, miles)
				}
				if miles[a] == miles[b] && a < b && (shares[a] < shares[b] || shares[a] > shares[b]+1) {
					t.Errorf("ShareMake is %v, but PartsMiles %v", shares, miles)
				}
				if miles[a] == miles[b] && shares[a] == shares[b]+1 {
					more++
				}
			}
		}
	})
	if more < 300 {
		t.Errorf("only %d proprietors got one more for as many miles", more)
	}
}

// P59. If ShareDue succeeds, its sum is the amount times all miles, and ShareMake is it divided by all miles, if all divisions have no rest.
func TestP59Due(t *testing.T) {
	even := 0
	eachAmount(t, func(t *testing.T, c partedRoad, amount int) {
		due, ok := impl.ShareDue(c.parts, amount)
		whole := impl.PartsLength(c.parts)
		if !ok || len(due) != impl.OwnersMax || sumOf(due) != amount*whole {
			t.Fatalf("ShareDue gives %v and %v", due, ok)
		}
		miles, _ := impl.PartsMiles(c.parts)
		divided := []int{}
		for owner, number := range due {
			if number != amount*miles[owner] {
				t.Errorf("ShareDue is %v, but PartsMiles %v", due, miles)
			}
			if number%whole != 0 {
				return
			}
			divided = append(divided, number/whole)
		}
		even++
		if shares, ok := impl.ShareMake(c.parts, amount); !ok || !slices.Equal(shares, divided) {
			t.Errorf("ShareMake gives %v and %v, want %v", shares, ok, divided)
		}
	})
	if even < 1000 {
		t.Errorf("only %d amounts were divided without a rest", even)
	}
}

// P60. If ShareRide succeeds, its sum is the amount, a ride over the whole road is ShareMake, and one of a single mile is for its Owner alone.
func TestP60Ride(t *testing.T) {
	eachStretch(t, func(t *testing.T, c partedRoad, from int, to int) {
		for _, amount := range []int{0, 1, 4, 5, 77, 1000000} {
			shares, ok := impl.ShareRide(c.parts, from, to, amount)
			if !ok || len(shares) != impl.OwnersMax || sumOf(shares) != amount || slices.Min(shares) < 0 {
				t.Fatalf("ShareRide of %d gives %v and %v", amount, shares, ok)
			}
			if from+1 == to {
				owner, _ := impl.PartsOwner(c.parts, from)
				if shares[owner] != amount {
					t.Errorf("ShareRide of %d over the mile of %d alone gives %v", amount, owner, shares)
				}
			}
			if from > 0 || to < impl.PartsLength(c.parts) {
				continue
			}
			if all, ok := impl.ShareMake(c.parts, amount); !ok || !slices.Equal(all, shares) {
				t.Errorf("ShareRide of %d over the whole road gives %v, but ShareMake %v and %v", amount, shares, all, ok)
			}
		}
	})
}

// P61. If ShareSettle succeeds, its sum is 0, with what was taken they are ShareMake of the sum, and if this was taken, all is settled.
func TestP61Settle(t *testing.T) {
	s := &numbers{state: 89}
	eachParts(t, func(t *testing.T, c partedRoad) {
		for _, taken := range takenLists(s) {
			settled, ok := impl.ShareSettle(c.parts, taken)
			if !ok || len(settled) != impl.OwnersMax || sumOf(settled) != 0 {
				t.Fatalf("ShareSettle of %v gives %v and %v", taken, settled, ok)
			}
			together := []int{}
			for owner, amount := range taken {
				together = append(together, settled[owner]+amount)
			}
			if shares, ok := impl.ShareMake(c.parts, sumOf(taken)); !ok || !slices.Equal(shares, together) {
				t.Errorf("ShareSettle of %v gives %v, but ShareMake %v and %v", taken, settled, shares, ok)
			}
			if again, ok := impl.ShareSettle(c.parts, together); !ok || !slices.Equal(again, make([]int, impl.OwnersMax)) {
				t.Errorf("ShareSettle of %v gives %v and %v", together, again, ok)
			}
		}
	})
}
