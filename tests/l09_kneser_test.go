package tests

import (
	"math"
	"testing"

	"loop.example/g03402/impl"
)

// filledPairs returns pairs of sets that are not empty: sample pairs, pairs of two elements, and such as have sums with periods.
func filledPairs(sums [][]int) [][2]int {
	all := samplePairs(len(sums))
	for x := range sums {
		for y := range x + 1 {
			all = append(all, [2]int{1 | 1<<x, 1 | 1<<y})
		}
	}
	for _, h := range subgroupsOf(sums) {
		all = append(all, pairsOfCosets(cosetsOf(sums, h))...)
	}
	var filled [][2]int
	for _, pair := range all {
		if pair[0] != 0 && pair[1] != 0 {
			filled = append(filled, pair)
		}
	}
	return filled
}

// fewPairs returns all filled pairs of a small group, and some of them of a larger one.
func fewPairs(sums [][]int) [][2]int {
	all := filledPairs(sums)
	if len(sums) <= 6 {
		return all
	}
	var few [][2]int
	// Pairs of one kind come again after 12 or 16 others; with steps of 11, all kinds are met.
	for i := 0; i < len(all); i += 11 {
		few = append(few, all[i])
	}
	return few
}

// pairsOfCosets returns pairs of unions of one or two cosets, and of such as lack their least element.
func pairsOfCosets(cosets []int) [][2]int {
	var pairs [][2]int
	first, last := cosets[0], cosets[len(cosets)-1]
	for _, coset := range cosets {
		for _, a := range []int{coset, coset | last} {
			for _, b := range []int{first, first | coset} {
				pairs = append(pairs, [2]int{a, b}, [2]int{a & (a - 1), b}, [2]int{a, b & (b - 1)}, [2]int{a & (a - 1), b & (b - 1)})
			}
		}
	}
	return pairs
}

// orderIn counts how often an element is added until the sum is 0.
func orderIn(sums [][]int, x int) int {
	times := 1
	for y := x; y != 0; y = sums[y][x] {
		times++
	}
	return times
}

// primeWithin returns the least prime number that divides n, and 1 for 1.
func primeWithin(n int) int {
	for _, p := range []int{2, 3, 5, 7, 11, 13, 17, 19, 23} {
		if n%p == 0 {
			return p
		}
	}
	return 1
}

func TestKneserExamples(t *testing.T) {
	for _, test := range []struct {
		orders                        []int
		a, b                          int
		bound, cauchy, defect         int
		stabilizer, first, second     int
		tight, chowla, chowlaExchange bool
	}{
		// The sum is 0, 1, 4, 5, 8 and 9, which 4 keeps.
		{[]int{12}, 1<<0 | 1<<1 | 1<<4, 1<<0 | 1<<4 | 1<<8, 6, 2, 1, 1<<0 | 1<<4 | 1<<8, 1<<0 | 1<<1 | 1<<4 | 1<<5 | 1<<8 | 1<<9, 1<<0 | 1<<4 | 1<<8, true, false, false},
		// The sum is 0, 1, 2 and 3, which only 0 keeps.
		{[]int{7}, 1<<0 | 1<<1, 1<<0 | 1<<2, 3, 3, 1, 1, 1<<0 | 1<<1, 1<<0 | 1<<2, false, true, true},
		// The sum of 1, 2 and 3, 4 is 4, 5 and 6.
		{[]int{7}, 1<<1 | 1<<2, 1<<3 | 1<<4, 3, 3, 0, 1, 1<<1 | 1<<2, 1<<3 | 1<<4, true, false, false},
		// The sum is the group.
		{[]int{9}, 1<<9 - 1 - 1<<3, 1<<0 | 1<<1 | 1<<5, 9, 3, -1, 1<<9 - 1, 1<<9 - 1, 1<<9 - 1, true, true, false},
		// The places of the first set are 1, 0 and 1, 1 and 1, 2, of the second one 0, 1 and 1, 1: the sum is the group, too.
		{[]int{2, 3}, 1<<1 | 1<<3 | 1<<5, 1<<2 | 1<<3, 6, 2, 2, 1<<6 - 1, 1<<6 - 1, 1<<6 - 1, true, false, false},
		// The same, but the second places of the second set are 0 and 1: the sum are all with the first place 1.
		{[]int{2, 3}, 1<<1 | 1<<3 | 1<<5, 1<<0 | 1<<2, 3, 2, -1, 1<<0 | 1<<2 | 1<<4, 1<<1 | 1<<3 | 1<<5, 1<<0 | 1<<2 | 1<<4, true, false, false},
		{[]int{2, 2}, 1<<0 | 1<<1 | 1<<2, 1 << 0, 3, 2, 0, 1, 1<<0 | 1<<1 | 1<<2, 1 << 0, true, true, false},
	} {
		g := group(test.orders...)
		if bound, cauchy, defect := impl.KneserBound(g, test.a, test.b), impl.CauchyBound(g, test.a, test.b), impl.SumDefect(g, test.a, test.b); bound != test.bound || cauchy != test.cauchy || defect != test.defect {
			t.Errorf("%v, %d and %d: KneserBound = %d, CauchyBound = %d, SumDefect = %d", g, test.a, test.b, bound, cauchy, defect)
		}
		if h, first, second, ok := impl.KneserPair(g, test.a, test.b); !ok || h != test.stabilizer || first != test.first || second != test.second {
			t.Errorf("KneserPair(%v, %d, %d) = %d, %d, %d, %t", g, test.a, test.b, h, first, second, ok)
		}
		if tight, chowla, exchange := impl.IsKneserTight(g, test.a, test.b), impl.ChowlaHolds(g, test.a, test.b), impl.ChowlaHolds(g, test.b, test.a); tight != test.tight || chowla != test.chowla || exchange != test.chowlaExchange {
			t.Errorf("%v, %d and %d: IsKneserTight = %t, ChowlaHolds = %t, and %t in the other order", g, test.a, test.b, tight, chowla, exchange)
		}
	}
}

// TestSumsHaveTheBoundOfTheirStabilizer holds the first half of promise 2.
func TestSumsHaveTheBoundOfTheirStabilizer(t *testing.T) {
	for _, g := range allGroups() {
		sums := additionOf(g.Orders)
		for _, pair := range filledPairs(sums) {
			a, b := pair[0], pair[1]
			sum := sumOf(sums, a, b)
			size := len(membersOf(sum))
			h := stabilizerOf(sums, sum)
			first, second := sumOf(sums, a, h), sumOf(sums, b, h)
			if subgroup, one, two, ok := impl.KneserPair(g, a, b); !ok || subgroup != h || one != first || two != second {
				t.Fatalf("KneserPair(%v, %d, %d) = %d, %d, %d, %t, not %d, %d, %d", g, a, b, subgroup, one, two, ok, h, first, second)
			}
			want := len(membersOf(first)) + len(membersOf(second)) - len(membersOf(h))
			got := impl.KneserBound(g, a, b)
			if got != want {
				t.Fatalf("KneserBound(%v, %d, %d) = %d, not %d", g, a, b, got, want)
			}
			if size < got || impl.CountSet(g, impl.SumOfSets(g, a, b)) != size {
				t.Fatalf("KneserBound(%v, %d, %d) = %d, but the sum has %d elements", g, a, b, got, size)
			}
			if tight := impl.IsKneserTight(g, a, b); tight != (size == want) {
				t.Fatalf("IsKneserTight(%v, %d, %d) = %t, but the sum has %d elements and the bound is %d", g, a, b, tight, size, want)
			}
			// The bound and the size of the sum are multiples of the stabilizer's size, so that a greater sum has at least as many elements as both sets together.
			if defect := impl.SumDefect(g, a, b); defect <= 0 && size != got {
				t.Fatalf("SumDefect(%v, %d, %d) = %d, but the sum has %d elements and the bound is %d", g, a, b, defect, size, got)
			}
		}
	}
}

func TestKneserPairs(t *testing.T) {
	for _, g := range allGroups() {
		sums := additionOf(g.Orders)
		for _, pair := range filledPairs(sums) {
			a, b := pair[0], pair[1]
			sum := impl.SumOfSets(g, a, b)
			h, first, second, ok := impl.KneserPair(g, a, b)
			if !ok || h != impl.StabilizerOf(g, sum) {
				t.Fatalf("KneserPair(%v, %d, %d) = %d, %t, but the stabilizer of the sum is %d", g, a, b, h, ok, impl.StabilizerOf(g, sum))
			}
			if first != impl.SumOfSets(g, h, a) || second != impl.SumOfSets(g, h, b) {
				t.Fatalf("KneserPair(%v, %d, %d) = %d, %d, %d", g, a, b, h, first, second)
			}
			if bound := impl.CountSet(g, first) + impl.CountSet(g, second) - impl.CountSet(g, h); bound != impl.KneserBound(g, a, b) {
				t.Fatalf("KneserPair(%v, %d, %d) = %d, %d, %d, but KneserBound = %d", g, a, b, h, first, second, impl.KneserBound(g, a, b))
			}
			// The filled sets have the same sum, and so the same stabilizer, which fills them no further.
			if again, third, fourth, ok := impl.KneserPair(g, first, second); !ok || again != h || third != first || fourth != second || impl.SumOfSets(g, first, second) != sum {
				t.Fatalf("KneserPair(%v, %d, %d) = %d, %d, %d after %d and %d", g, first, second, again, third, fourth, a, b)
			}
		}
	}
}

func TestSumDefects(t *testing.T) {
	for _, g := range allGroups() {
		sums := additionOf(g.Orders)
		for _, pair := range filledPairs(sums) {
			a, b := pair[0], pair[1]
			got := impl.SumDefect(g, a, b)
			if want := len(membersOf(sumOf(sums, a, b))) - len(membersOf(a)) - len(membersOf(b)) + 1; got != want {
				t.Fatalf("SumDefect(%v, %d, %d) = %d, not %d", g, a, b, got, want)
			}
			if both := impl.CountSet(g, a) + impl.CountSet(g, b); got+both-1 != impl.CountSet(g, impl.SumOfSets(g, a, b)) {
				t.Fatalf("SumDefect(%v, %d, %d) = %d does not fit the sum and the sizes, together %d", g, a, b, got, both)
			}
		}
	}
}

// numbersOfPair are the results that a shift of one set and the order of both do not change.
type numbersOfPair struct {
	kneser, cauchy, defect int
	tight                  bool
}

func numbersFor(g impl.Group, a int, b int) numbersOfPair {
	return numbersOfPair{impl.KneserBound(g, a, b), impl.CauchyBound(g, a, b), impl.SumDefect(g, a, b), impl.IsKneserTight(g, a, b)}
}

// TestBoundsOfExchangedAndShiftedPairs has pairs whose sums are only shifted.
func TestBoundsOfExchangedAndShiftedPairs(t *testing.T) {
	for _, g := range allGroups() {
		sums := additionOf(g.Orders)
		for _, pair := range fewPairs(sums) {
			a, b := pair[0], pair[1]
			x := (5*a + 3*b + 1) % len(sums)
			for _, other := range [][2]int{{b, a}, {movedBy(sums, a, x), b}, {a, movedBy(sums, b, x)}} {
				if first, second := numbersFor(g, a, b), numbersFor(g, other[0], other[1]); first != second {
					t.Fatalf("%v: the numbers are %v for %v and %v for %v", g, first, pair, second, other)
				}
			}
		}
	}
}

// TestSumsHaveTheBoundOfCauchy holds the part of promise 6 for Cauchy and Davenport, in groups of prime order and in others.
func TestSumsHaveTheBoundOfCauchy(t *testing.T) {
	for _, g := range allGroups() {
		sums := additionOf(g.Orders)
		for _, pair := range filledPairs(sums) {
			a, b := pair[0], pair[1]
			got := impl.CauchyBound(g, a, b)
			if want := min(len(membersOf(a))+len(membersOf(b))-1, primeWithin(len(sums))); got != want {
				t.Fatalf("CauchyBound(%v, %d, %d) = %d, not %d", g, a, b, got, want)
			}
			if size := len(membersOf(sumOf(sums, a, b))); size < got || impl.CountSet(g, impl.SumOfSets(g, a, b)) < got {
				t.Fatalf("CauchyBound(%v, %d, %d) = %d, but the sum has %d elements", g, a, b, got, size)
			}
			// The bound of the stabilizer is the greater one.
			if bound := impl.KneserBound(g, a, b); bound < got {
				t.Fatalf("CauchyBound(%v, %d, %d) = %d, but KneserBound = %d", g, a, b, got, bound)
			}
		}
	}
}

// TestCauchyBoundsThatAreReached has multiples of one element in groups of prime order, and subgroups of prime order in all groups.
func TestCauchyBoundsThatAreReached(t *testing.T) {
	for _, p := range []int{2, 3, 5, 7, 11, 13, 17, 19, 23} {
		g := group(p)
		for step := 1; step < p; step++ {
			for first := 1; first <= p; first++ {
				for second := 1; second <= first; second++ {
					a, b := 0, 0
					for i := range first {
						a |= 1 << (i * step % p)
					}
					for i := range second {
						b |= 1 << ((3 + i*step) % p)
					}
					want := min(first+second-1, p)
					if got, size := impl.CauchyBound(g, a, b), impl.CountSet(g, impl.SumOfSets(g, a, b)); got != want || size != want {
						t.Fatalf("CauchyBound(%d, %d, %d) = %d, and the sum has %d elements", p, a, b, got, size)
					}
				}
			}
		}
	}
	for _, g := range allGroups() {
		sums := additionOf(g.Orders)
		for _, h := range subgroupsOf(sums) {
			if size := len(membersOf(h)); size == primeWithin(len(sums)) {
				if got := impl.CauchyBound(g, h, h); got != size || impl.CountSet(g, impl.SumOfSets(g, h, h)) != size {
					t.Fatalf("CauchyBound(%v, %d, %d) = %d", g, h, h, got)
				}
			}
		}
	}
}

// setsWithGenerators returns sets with 0 whose other elements each generate the group: all of them, if there are few.
func setsWithGenerators(sums [][]int) []int {
	var generators []int
	for x := range sums {
		if x != 0 && orderIn(sums, x) == len(sums) {
			generators = append(generators, x)
		}
	}
	var all []int
	for _, chosen := range sampleSets(len(generators)) {
		set := 1
		for _, i := range membersOf(chosen) {
			set |= 1 << generators[i]
		}
		all = append(all, set)
	}
	return all
}

// TestSumsHaveTheBoundOfChowla holds the part of promise 6 for Chowla.
func TestSumsHaveTheBoundOfChowla(t *testing.T) {
	for _, g := range allGroups() {
		sums := additionOf(g.Orders)
		for _, b := range setsWithGenerators(sums) {
			for _, a := range sampleSets(len(sums)) {
				got := impl.ChowlaHolds(g, a, b)
				if got != (a != 0) {
					t.Fatalf("ChowlaHolds(%v, %d, %d) = %t", g, a, b, got)
				}
				if !got {
					continue
				}
				bound := min(len(membersOf(a))+len(membersOf(b))-1, len(sums))
				if size := impl.CountSet(g, impl.SumOfSets(g, a, b)); size < bound {
					t.Fatalf("ChowlaHolds(%v, %d, %d), but the sum has %d elements", g, a, b, size)
				}
			}
		}
		for _, pair := range filledPairs(sums) {
			a, b := pair[0], pair[1]
			sum := impl.SumOfSets(g, a, b)
			if impl.ChowlaHolds(g, a, b) && impl.SumDefect(g, a, b) < 0 && sum != 1<<len(sums)-1 {
				t.Fatalf("ChowlaHolds(%v, %d, %d), but the sum is %d", g, a, b, sum)
			}
		}
	}
}

func TestChowlaHolds(t *testing.T) {
	for _, g := range allGroups() {
		sums := additionOf(g.Orders)
		for _, pair := range filledPairs(sums) {
			a, b := pair[0], pair[1]
			want := b&1 == 1
			for _, x := range membersOf(b &^ 1) {
				want = want && orderIn(sums, x) == len(sums)
			}
			if got := impl.ChowlaHolds(g, a, b); got != want {
				t.Fatalf("ChowlaHolds(%v, %d, %d) = %t", g, a, b, got)
			}
		}
	}
}

// TestChowlaDoesNotHold takes 0 away, and adds an element whose order is smaller than that of the group.
func TestChowlaDoesNotHold(t *testing.T) {
	for _, g := range allGroups() {
		sums := additionOf(g.Orders)
		full := 1<<len(sums) - 1
		for _, b := range setsWithGenerators(sums) {
			for _, a := range []int{1, full, b, full &^ 1, 1 << (len(sums) - 1)} {
				if without := b &^ 1; impl.ChowlaHolds(g, a, without) {
					t.Fatalf("ChowlaHolds(%v, %d, %d)", g, a, without)
				}
				for x := range sums {
					// The order of 0 is smaller, too, but in the trivial group.
					if smaller := orderIn(sums, x) < len(sums); x != 0 && impl.ChowlaHolds(g, max(a, 1), b|1<<x) == smaller {
						t.Fatalf("ChowlaHolds(%v, %d, %d) = %t", g, a, b|1<<x, smaller)
					}
				}
			}
		}
	}
}

// checkWholeSum expects the results for a pair whose sum is the group.
func checkWholeSum(t *testing.T, g impl.Group, size int, a int, b int) {
	t.Helper()
	full := 1<<size - 1
	if h, first, second, ok := impl.KneserPair(g, a, b); !ok || h != full || first != full || second != full {
		t.Fatalf("KneserPair(%v, %d, %d) = %d, %d, %d, %t", g, a, b, h, first, second, ok)
	}
	if bound, tight := impl.KneserBound(g, a, b), impl.IsKneserTight(g, a, b); bound != size || !tight {
		t.Fatalf("%v, %d and %d: KneserBound = %d, IsKneserTight = %t", g, a, b, bound, tight)
	}
	if got, want := impl.SumDefect(g, a, b), size-len(membersOf(a))-len(membersOf(b))+1; got != want {
		t.Fatalf("SumDefect(%v, %d, %d) = %d, not %d", g, a, b, got, want)
	}
}

// TestSumsThatAreTheGroup has sets with more elements together than the group, and others whose sum is the group.
func TestSumsThatAreTheGroup(t *testing.T) {
	for _, g := range allGroups() {
		sums := additionOf(g.Orders)
		full := 1<<len(sums) - 1
		checkWholeSum(t, g, len(sums), full, full)
		for _, pair := range fewPairs(sums) {
			a, b := pair[0], pair[1]
			checkWholeSum(t, g, len(sums), a, full)
			checkWholeSum(t, g, len(sums), full, b)
			many := len(membersOf(a))+len(membersOf(b)) > len(sums)
			whole := sumOf(sums, a, b) == full
			if many && !whole {
				t.Fatalf("%v, %d and %d: the sum is not the group", g, a, b)
			}
			if whole {
				checkWholeSum(t, g, len(sums), a, b)
			}
		}
		// One element of each coset of a subgroup, with it.
		for _, h := range subgroupsOf(sums) {
			chosen := 0
			for _, coset := range cosetsOf(sums, h) {
				chosen |= coset & -coset
			}
			checkWholeSum(t, g, len(sums), chosen, h)
			if got := impl.CauchyBound(g, chosen, h); len(sums) > 1 && got > primeWithin(len(sums)) {
				t.Fatalf("CauchyBound(%v, %d, %d) = %d", g, chosen, h, got)
			}
		}
	}
}

func TestBoundsInTheTrivialGroup(t *testing.T) {
	for _, g := range []impl.Group{{}, group()} {
		checkWholeSum(t, g, 1, 1, 1)
		if bound, defect, cauchy := impl.KneserBound(g, 1, 1), impl.SumDefect(g, 1, 1), impl.CauchyBound(g, 1, 1); bound != 1 || defect != 0 || cauchy != 1 {
			t.Errorf("KneserBound = %d, SumDefect = %d, CauchyBound = %d", bound, defect, cauchy)
		}
		// There is no other element than 0.
		if !impl.ChowlaHolds(g, 1, 1) {
			t.Error("ChowlaHolds = false")
		}
		for _, pair := range [][2]int{{0, 0}, {0, 1}, {1, 0}, {1, 2}, {2, 1}, {1, -1}, {-1, 1}, {2, 2}, {3, 1}} {
			checkNoBounds(t, g, pair[0], pair[1])
		}
	}
}

// TestBoundsOfOneElement has a set of one element, with which the other one is only shifted.
func TestBoundsOfOneElement(t *testing.T) {
	for _, g := range allGroups() {
		sums := additionOf(g.Orders)
		for _, b := range append(sampleSets(len(sums)), periodicSets(sums)...) {
			x := (7*b + 2) % len(sums)
			size := len(membersOf(b))
			if b == 0 {
				continue
			}
			if bound, tight, defect := impl.KneserBound(g, 1<<x, b), impl.IsKneserTight(g, 1<<x, b), impl.SumDefect(g, 1<<x, b); bound != size || !tight || defect != 0 {
				t.Fatalf("%v, %d and %d: KneserBound = %d, IsKneserTight = %t, SumDefect = %d", g, 1<<x, b, bound, tight, defect)
			}
			h := stabilizerOf(sums, b)
			if stabilizer, first, second, ok := impl.KneserPair(g, 1<<x, b); !ok || stabilizer != h || first != movedBy(sums, h, x) || second != b {
				t.Fatalf("KneserPair(%v, %d, %d) = %d, %d, %d, %t", g, 1<<x, b, stabilizer, first, second, ok)
			}
			if got := impl.CauchyBound(g, 1<<x, b); got != min(size, primeWithin(len(sums))) {
				t.Fatalf("CauchyBound(%v, %d, %d) = %d", g, 1<<x, b, got)
			}
		}
	}
}

// TestBoundsOfCosets has two cosets of one subgroup, whose sum is another one: no defect is less.
func TestBoundsOfCosets(t *testing.T) {
	for _, g := range allGroups() {
		sums := additionOf(g.Orders)
		for _, h := range subgroupsOf(sums) {
			size, cosets := len(membersOf(h)), cosetsOf(sums, h)
			for _, a := range cosets {
				for _, b := range cosets {
					if bound, tight, defect := impl.KneserBound(g, a, b), impl.IsKneserTight(g, a, b), impl.SumDefect(g, a, b); bound != size || !tight || defect != 1-size {
						t.Fatalf("%v, %d and %d: KneserBound = %d, IsKneserTight = %t, SumDefect = %d", g, a, b, bound, tight, defect)
					}
					if stabilizer, first, second, ok := impl.KneserPair(g, a, b); !ok || stabilizer != h || first != a || second != b {
						t.Fatalf("KneserPair(%v, %d, %d) = %d, %d, %d, %t", g, a, b, stabilizer, first, second, ok)
					}
				}
			}
		}
	}
}

// checkNoBounds expects the fixed results where one of two sets is none or empty.
func checkNoBounds(t *testing.T, g impl.Group, a int, b int) {
	t.Helper()
	if bound, cauchy, defect := impl.KneserBound(g, a, b), impl.CauchyBound(g, a, b), impl.SumDefect(g, a, b); bound != -1 || cauchy != -1 || defect != -100 {
		t.Errorf("%v, %d and %d: KneserBound = %d, CauchyBound = %d, SumDefect = %d", g, a, b, bound, cauchy, defect)
	}
	if tight, chowla := impl.IsKneserTight(g, a, b), impl.ChowlaHolds(g, a, b); tight || chowla {
		t.Errorf("%v, %d and %d: IsKneserTight = %t, ChowlaHolds = %t", g, a, b, tight, chowla)
	}
	if h, first, second, ok := impl.KneserPair(g, a, b); h != 0 || first != 0 || second != 0 || ok {
		t.Errorf("KneserPair(%v, %d, %d) = %d, %d, %d, %t", g, a, b, h, first, second, ok)
	}
}

func TestBoundsOfEmptySetsAndOfNoSets(t *testing.T) {
	for _, g := range allGroups() {
		full := 1<<sizeOf(g.Orders) - 1
		bad := []int{0, -1, -2, -full - 1, full + 1, full + 2, 2*full + 1, 1 << 24, 1 << 32, 1 << 62, math.MaxInt, math.MinInt, math.MinInt + 1}
		for _, a := range bad {
			for _, b := range append(sampleSets(sizeOf(g.Orders)), bad...) {
				checkNoBounds(t, g, a, b)
				checkNoBounds(t, g, b, a)
			}
		}
		// The full set and the sets of one element are the limits on the other side.
		for _, pair := range [][2]int{{1, 1}, {1, full}, {full, 1}, {full, full}, {full - full>>1, full - full>>1}} {
			if bound, cauchy, defect := impl.KneserBound(g, pair[0], pair[1]), impl.CauchyBound(g, pair[0], pair[1]), impl.SumDefect(g, pair[0], pair[1]); bound < 1 || cauchy < 1 || defect == -100 {
				t.Errorf("%v, %v: KneserBound = %d, CauchyBound = %d, SumDefect = %d", g, pair, bound, cauchy, defect)
			}
			if _, _, _, ok := impl.KneserPair(g, pair[0], pair[1]); !ok {
				t.Errorf("KneserPair(%v, %v) fails", g, pair)
			}
		}
	}
}

func TestBoundsInNoGroup(t *testing.T) {
	sets := []int{-100, -1, 0, 1, 2, 3, 1<<24 - 1, 1 << 24, math.MaxInt, math.MinInt}
	for _, g := range noGroups() {
		for _, a := range sets {
			for _, b := range sets {
				checkNoBounds(t, g, a, b)
			}
		}
	}
}

// TestBoundArgumentsAreKept calls every function with slices that have unused capacity.
func TestBoundArgumentsAreKept(t *testing.T) {
	checkGroupsAreKept(t, func(g impl.Group) {
		for _, a := range []int{-1, 0, 1, 41} {
			impl.KneserBound(g, a, 1)
			impl.IsKneserTight(g, a, 1)
			impl.CauchyBound(g, a, 1)
			impl.ChowlaHolds(g, a, 1)
			impl.SumDefect(g, a, 1)
			impl.KneserPair(g, a, 1)
		}
	})
}
