package tests

import (
	"math"
	"slices"
	"testing"

	"loop.example/g03402/impl"
)

// termsOf returns the sets of the sums of 0 to 30 elements of a set, equal ones allowed.
func termsOf(sums [][]int, a int) []int {
	all := []int{1}
	for range 30 {
		all = append(all, sumOf(sums, all[len(all)-1], a))
	}
	return all
}

// growingSets returns sample sets, sets of two elements, cosets, and cosets with one element changed, without repetition.
func growingSets(sums [][]int) []int {
	all := sampleSets(len(sums))
	for x := range sums {
		y := (5*x + 3) % len(sums)
		all = append(all, 1|1<<x, 1<<x|1<<y)
	}
	for i, coset := range allCosetsOf(sums) {
		all = append(all, coset, coset^1<<(7*i%len(sums)))
	}
	slices.Sort(all)
	return slices.Compact(all)
}

func sizesOf(sets []int) []int {
	var sizes []int
	for _, a := range sets {
		sizes = append(sizes, len(membersOf(a)))
	}
	return sizes
}

func repeated(n int, times int) []int {
	var list []int
	for range times {
		list = append(list, n)
	}
	return list
}

func TestGrowthExamples(t *testing.T) {
	// 0 and 1 reach one element more with each term, until nine of them reach the group.
	if got := impl.GrowthOf(group(10), 3, 11); !slices.Equal(got, []int{2, 3, 4, 5, 6, 7, 8, 9, 10, 10, 10}) {
		t.Errorf("GrowthOf = %v", got)
	}
	g := group(2, 6)
	// The places are 0, 0 and 1, 1 and 0, 2, both even or both odd: two terms reach 1, 3 and 0, 4 too, and three terms 1, 5.
	a := 1<<0 | 1<<3 | 1<<4
	if got := impl.GrowthOf(g, a, 4); !slices.Equal(got, []int{3, 5, 6, 6}) {
		t.Errorf("GrowthOf = %v", got)
	}
	if got := impl.OrderOfBasis(g, a); got != -1 || impl.IsBasis(g, a) {
		t.Errorf("OrderOfBasis = %d, IsBasis = %t", got, impl.IsBasis(g, a))
	}
	if got := impl.StableSize(g, a); got != 6 {
		t.Errorf("StableSize = %d", got)
	}
	if n, m := impl.DoublingOf(g, a); n != 5 || m != 3 {
		t.Errorf("DoublingOf = %d, %d", n, m)
	}
	// 1 and 3 have the sums 2, 4 and 6: the size 3 divided by 2.
	if n, m := impl.DoublingOf(group(9), 1<<1|1<<3); n != 3 || m != 2 {
		t.Errorf("DoublingOf = %d, %d", n, m)
	}
	// 0, 1, 3 and 4 have all sums from 0 to 8.
	if n, m := impl.DoublingOf(group(8), 1<<0|1<<1|1<<3|1<<4); n != 2 || m != 1 {
		t.Errorf("DoublingOf = %d, %d", n, m)
	}
	if got := impl.OrderOfBasis(group(8), 1<<0|1<<1|1<<3|1<<4); got != 2 {
		t.Errorf("OrderOfBasis = %d", got)
	}
	// Sets without 0 can be bases, too.
	if got := impl.OrderOfBasis(group(5), 1<<1|1<<2); got != 4 || !impl.IsBasis(group(5), 1<<1|1<<2) {
		t.Errorf("OrderOfBasis = %d", got)
	}
}

func TestSmallestBasisExamples(t *testing.T) {
	for _, test := range []struct {
		g    impl.Group
		n    int
		want int
	}{
		// Two terms of three elements have six sums at most, and three terms of two elements have four.
		{group(7), 2, 1<<0 | 1<<1 | 1<<2 | 1<<3},
		{group(7), 3, 1<<0 | 1<<1 | 1<<2},
		{group(4), 3, 1<<0 | 1<<1},
		{group(5), 4, 1<<0 | 1<<1},
		{group(6), 4, 1<<0 | 1<<1 | 1<<2},
		{group(2, 2), 2, 1<<0 | 1<<1 | 1<<2},
		// Twice an element is 0, so that four elements have seven sums of two at most.
		{group(2, 2, 2), 2, 1<<0 | 1<<1 | 1<<2 | 1<<3 | 1<<4},
		{group(2, 2, 2), 3, 1<<0 | 1<<1 | 1<<2 | 1<<4},
		{group(3, 3), 4, 1<<0 | 1<<1 | 1<<3},
		{group(12), 1, 1<<12 - 1},
		{group(), 1, 1},
		{group(), 4, 1},
	} {
		if got, ok := impl.SmallestBasis(test.g, test.n); !ok || got != test.want {
			t.Errorf("SmallestBasis(%v, %d) = %d, %t, not %d", test.g, test.n, got, ok, test.want)
		}
	}
}

// checkSizes compares the sums of a set and their sizes with the sets of 0 to 30 terms.
func checkSizes(t *testing.T, g impl.Group, a int, sets []int) {
	t.Helper()
	sizes := sizesOf(sets)
	for n := range 31 {
		if impl.MultipleSum(g, a, n) != sets[n] {
			t.Fatalf("MultipleSum(%v, %d, %d) is not %d", g, a, n, sets[n])
		}
		// The whole list is long; shorter ones are a part of it.
		if n < 30 && (a+n)%7 != 0 {
			continue
		}
		got := impl.GrowthOf(g, a, n)
		if !slices.Equal(got, sizes[1:n+1]) {
			t.Fatalf("GrowthOf(%v, %d, %d) = %v, not %v", g, a, n, got, sizes[1:n+1])
		}
		if !slices.IsSorted(got) {
			t.Fatalf("GrowthOf(%v, %d, %d) = %v shrinks", g, a, n, got)
		}
	}
}

// checkOrder compares the order of a basis with the sets of 0 to 30 terms.
func checkOrder(t *testing.T, g impl.Group, a int, sets []int) {
	t.Helper()
	full := 1<<sizeOf(g.Orders) - 1
	want := slices.Index(sets, full)
	if got, is := impl.OrderOfBasis(g, a), impl.IsBasis(g, a); got != want || is != (want >= 0) {
		t.Fatalf("%v, %d: OrderOfBasis = %d, IsBasis = %t, not %d", g, a, got, is, want)
	}
	if got := impl.StableSize(g, a); got != len(membersOf(sets[30])) {
		t.Fatalf("StableSize(%v, %d) = %d", g, a, got)
	}
	for n, set := range sets {
		// From the order on, every sum is the group; only the empty set has no sums after that of no elements.
		if whole := want >= 0 && n >= want; whole != (set == full) && a != 0 {
			t.Fatalf("MultipleSum(%v, %d, %d) = %d, but OrderOfBasis is %d", g, a, n, set, want)
		}
	}
}

// TestSumsNeverShrinkAndBasesReachTheGroup holds promise 7 for single sets.
func TestSumsNeverShrinkAndBasesReachTheGroup(t *testing.T) {
	for _, g := range allGroups() {
		sums := additionOf(g.Orders)
		for _, a := range growingSets(sums) {
			sets := termsOf(sums, a)
			checkSizes(t, g, a, sets)
			checkOrder(t, g, a, sets)
		}
	}
}

// TestGrowthStopsInTheHull has the reason why 30 terms are enough: a sum that is not larger than the one before is the hull, shifted.
func TestGrowthStopsInTheHull(t *testing.T) {
	for _, g := range allGroups() {
		for _, a := range setsNear(sizeOf(g.Orders), nil) {
			if a == 0 {
				continue
			}
			hull := impl.CountSet(g, impl.AffineHull(g, a))
			sizes := impl.GrowthOf(g, a, 30)
			if len(sizes) != 30 || sizes[0] != impl.CountSet(g, a) || sizes[29] != hull {
				t.Fatalf("GrowthOf(%v, %d, 30) = %v, and the hull has %d elements", g, a, sizes, hull)
			}
			for i, size := range sizes[1:] {
				if size <= sizes[i] && size != hull {
					t.Fatalf("GrowthOf(%v, %d, 30) = %v stops before %d", g, a, sizes, hull)
				}
			}
			if got := impl.StableSize(g, a); got != hull {
				t.Fatalf("StableSize(%v, %d) = %d, not %d", g, a, got, hull)
			}
			if got := impl.IsBasis(g, a); got != (hull == sizeOf(g.Orders)) {
				t.Fatalf("IsBasis(%v, %d) = %t, but the hull has %d elements", g, a, got, hull)
			}
		}
	}
}

// TestBasesOfEverySmallGroup finds the order of all sets, as the first of the sums that is the group.
func TestBasesOfEverySmallGroup(t *testing.T) {
	for _, g := range allGroups() {
		size := sizeOf(g.Orders)
		if size > 12 {
			continue
		}
		for a := range 1 << size {
			want := -1
			for n := 0; n <= 30 && want == -1; n++ {
				if impl.MultipleSum(g, a, n) == 1<<size-1 {
					want = n
				}
			}
			if got := impl.OrderOfBasis(g, a); got != want || impl.IsBasis(g, a) != (want != -1) {
				t.Fatalf("%v, %d: OrderOfBasis = %d, IsBasis = %t, not %d", g, a, got, impl.IsBasis(g, a), want)
			}
		}
	}
}

// smallestOf goes through all sets and keeps for each number of terms from 1 to 4 the first of those with fewest elements that reach the group.
func smallestOf(sums [][]int) []int {
	full := 1<<len(sums) - 1
	best := repeated(full, 5)
	for a := range full + 1 {
		sum := 1
		for n := 1; n <= 4; n++ {
			sum = sumOf(sums, sum, a)
			if sum == full && len(membersOf(a)) < len(membersOf(best[n])) {
				best[n] = a
			}
		}
	}
	return best
}

// TestSmallestBases holds promise 7 for the best sets.
func TestSmallestBases(t *testing.T) {
	for _, g := range allGroups() {
		sums := additionOf(g.Orders)
		if len(sums) > 12 {
			continue
		}
		want := smallestOf(sums)
		for n := 1; n <= 4; n++ {
			got, ok := impl.SmallestBasis(g, n)
			if !ok || got != want[n] {
				t.Fatalf("SmallestBasis(%v, %d) = %d, %t, not %d", g, n, got, ok, want[n])
			}
			if order := impl.OrderOfBasis(g, got); order < 0 || order > n || impl.MultipleSum(g, got, n) != 1<<len(sums)-1 {
				t.Fatalf("SmallestBasis(%v, %d) = %d has the order %d", g, n, got, order)
			}
		}
	}
}

// TestNoSetIsASmallerBasis compares with all sets by the functions of the program alone.
func TestNoSetIsASmallerBasis(t *testing.T) {
	for _, g := range allGroups() {
		size := sizeOf(g.Orders)
		for n := 1; n <= 4 && size <= 12; n++ {
			best, _ := impl.SmallestBasis(g, n)
			for a := range 1 << size {
				fewer := impl.CountSet(g, a) - impl.CountSet(g, best)
				if (fewer < 0 || fewer == 0 && a < best) && impl.MultipleSum(g, a, n) == 1<<size-1 {
					t.Fatalf("SmallestBasis(%v, %d) = %d, but there is %d", g, n, best, a)
				}
			}
		}
	}
}

func TestSmallestBasisLimits(t *testing.T) {
	for _, g := range allGroups() {
		size := sizeOf(g.Orders)
		for _, n := range []int{-1, 0, 5, 6, 30, 31, -4, 1 << 32, math.MaxInt, math.MinInt} {
			if got, ok := impl.SmallestBasis(g, n); got != 0 || ok {
				t.Errorf("SmallestBasis(%v, %d) = %d, %t", g, n, got, ok)
			}
		}
		for n := 1; n <= 4; n++ {
			got, ok := impl.SmallestBasis(g, n)
			if ok != (size <= 12) || !ok && got != 0 {
				t.Errorf("SmallestBasis(%v, %d) = %d, %t", g, n, got, ok)
			}
			if ok && n == 1 && got != 1<<size-1 {
				t.Errorf("SmallestBasis(%v, 1) = %d", g, got)
			}
		}
	}
}

func TestDoublings(t *testing.T) {
	for _, g := range allGroups() {
		sums := additionOf(g.Orders)
		for _, a := range growingSets(sums) {
			if a == 0 {
				continue
			}
			once, twice := len(membersOf(a)), len(membersOf(sumOf(sums, a, a)))
			// The least denominator with which the fraction is a whole number of parts gives the lowest terms.
			m := 1
			for twice*m%once != 0 {
				m++
			}
			if top, bottom := impl.DoublingOf(g, a); bottom != m || top != twice*m/once {
				t.Fatalf("DoublingOf(%v, %d) = %d, %d, not %d, %d", g, a, top, bottom, twice*m/once, m)
			}
		}
	}
}

// TestDoublingsAreBounded has sets of all doublings that a group may have: from 1, which cosets have, to half of one more than the elements.
func TestDoublingsAreBounded(t *testing.T) {
	for _, g := range allGroups() {
		for _, a := range setsNear(sizeOf(g.Orders), nil) {
			if a == 0 {
				continue
			}
			n, m := impl.DoublingOf(g, a)
			count, sum := impl.CountSet(g, a), impl.CountSet(g, impl.SumOfSets(g, a, a))
			if m < 1 || n*count != m*sum || n < m || 2*n > m*(count+1) {
				t.Fatalf("DoublingOf(%v, %d) = %d, %d: sizes %d and %d", g, a, n, m, count, sum)
			}
			for d := 2; d <= m; d++ {
				if n%d == 0 && m%d == 0 {
					t.Fatalf("DoublingOf(%v, %d) = %d, %d, which %d divides", g, a, n, m, d)
				}
			}
			if (n == m) != impl.IsCoset(g, a) {
				t.Fatalf("DoublingOf(%v, %d) = %d, %d, IsCoset is %t", g, a, n, m, impl.IsCoset(g, a))
			}
		}
	}
}

// checkNoGrowth expects that sums of one element and more of a set have a fixed size.
func checkNoGrowth(t *testing.T, g impl.Group, a int, size int) {
	t.Helper()
	for n := range 31 {
		if got := impl.GrowthOf(g, a, n); !slices.Equal(got, repeated(size, n)) {
			t.Fatalf("GrowthOf(%v, %d, %d) = %v, not %d elements all the time", g, a, n, got, size)
		}
	}
	if got := impl.StableSize(g, a); got != size {
		t.Errorf("StableSize(%v, %d) = %d, not %d", g, a, got, size)
	}
	order := -1
	switch sizeOf(g.Orders) {
	case 1:
		// The sum of no elements is 0, and all of the trivial group.
		order = 0
	case size:
		order = 1
	}
	if got, is := impl.OrderOfBasis(g, a), impl.IsBasis(g, a); got != order || is != (order >= 0) {
		t.Errorf("%v, %d: OrderOfBasis = %d, IsBasis = %t, not %d", g, a, got, is, order)
	}
}

func TestSetsThatNeverGrow(t *testing.T) {
	for _, g := range allGroups() {
		sums := additionOf(g.Orders)
		full := 1<<len(sums) - 1
		checkNoGrowth(t, g, 0, 0)
		checkNoGrowth(t, g, full, len(sums))
		for x := range sums {
			checkNoGrowth(t, g, 1<<x, 1)
		}
		for _, coset := range allCosetsOf(sums) {
			checkNoGrowth(t, g, coset, len(membersOf(coset)))
			if n, m := impl.DoublingOf(g, coset); n != 1 || m != 1 {
				t.Errorf("DoublingOf(%v, %d) = %d, %d", g, coset, n, m)
			}
		}
		if n, m := impl.DoublingOf(g, 0); n != 0 || m != 0 {
			t.Errorf("DoublingOf(%v, 0) = %d, %d", g, n, m)
		}
	}
}

func TestGrowthOfTheTrivialGroup(t *testing.T) {
	g := impl.Group{}
	if got := impl.OrderOfBasis(g, 1); got != 0 || !impl.IsBasis(g, 1) {
		t.Errorf("OrderOfBasis = %d", got)
	}
	// The sum of no elements of the empty set is 0, too.
	if got := impl.OrderOfBasis(g, 0); got != 0 || !impl.IsBasis(g, 0) {
		t.Errorf("OrderOfBasis = %d", got)
	}
	if one, none := impl.StableSize(g, 1), impl.StableSize(g, 0); one != 1 || none != 0 {
		t.Errorf("StableSize = %d and %d", one, none)
	}
	if n, m := impl.DoublingOf(g, 1); n != 1 || m != 1 {
		t.Errorf("DoublingOf = %d, %d", n, m)
	}
	if one, none := impl.GrowthOf(g, 1, 3), impl.GrowthOf(g, 0, 3); !slices.Equal(one, []int{1, 1, 1}) || !slices.Equal(none, []int{0, 0, 0}) {
		t.Errorf("GrowthOf = %v and %v", one, none)
	}
	for n := 1; n <= 4; n++ {
		if a, ok := impl.SmallestBasis(g, n); a != 1 || !ok {
			t.Errorf("SmallestBasis(%d) = %d, %t", n, a, ok)
		}
	}
}

// TestBasesOfTheLargestOrder has two elements with a generator as their difference: each term adds one element.
func TestBasesOfTheLargestOrder(t *testing.T) {
	for size := 2; size <= 24; size++ {
		g := group(size)
		for x := range size {
			for y := range x {
				want := -1
				if orderIn(additionOf(g.Orders), x-y) == size {
					want = size - 1
				}
				a := 1<<x | 1<<y
				if got := impl.OrderOfBasis(g, a); got != want || impl.IsBasis(g, a) != (want != -1) {
					t.Fatalf("OrderOfBasis(%d, %d) = %d, not %d", size, a, got, want)
				}
			}
		}
		for _, a := range sampleSets(size) {
			if got := impl.OrderOfBasis(g, a); got > size-1 {
				t.Errorf("OrderOfBasis(%d, %d) = %d", size, a, got)
			}
		}
	}
	g := group(24)
	if got := impl.GrowthOf(g, 3, 30); !slices.Equal(got[20:], []int{22, 23, 24, 24, 24, 24, 24, 24, 24, 24}) {
		t.Errorf("GrowthOf(24, 3, 30) = %v", got)
	}
	if got := impl.OrderOfBasis(g, 3); got != 23 || impl.StableSize(g, 3) != 24 {
		t.Errorf("OrderOfBasis(24, 3) = %d", got)
	}
	if got := impl.OrderOfBasis(g, 5); got != -1 || impl.IsBasis(g, 5) || impl.StableSize(g, 5) != 12 {
		t.Errorf("OrderOfBasis(24, 5) = %d", got)
	}
}

// TestGrowthOfEqualShapes has sets that are shifted or turned around: their sums are, too.
func TestGrowthOfEqualShapes(t *testing.T) {
	for _, g := range allGroups() {
		sums := additionOf(g.Orders)
		for i, a := range growingSets(sums) {
			sizes, order := impl.GrowthOf(g, a, 30), impl.OrderOfBasis(g, a)
			n, m := impl.DoublingOf(g, a)
			for _, b := range []int{movedBy(sums, a, (5*i+1)%len(sums)), negativesOf(sums, a)} {
				if got := impl.GrowthOf(g, b, 30); !slices.Equal(got, sizes) || impl.OrderOfBasis(g, b) != order {
					t.Fatalf("%v: GrowthOf %d is %v, and of %d %v", g, a, sizes, b, got)
				}
				if top, bottom := impl.DoublingOf(g, b); top != n || bottom != m {
					t.Fatalf("%v: DoublingOf %d is %d, %d, and of %d %d, %d", g, a, n, m, b, top, bottom)
				}
			}
		}
	}
}

func TestGrowthLimits(t *testing.T) {
	for _, g := range allGroups() {
		size := sizeOf(g.Orders)
		full := 1<<size - 1
		for _, a := range []int{0, 1, full - full>>1, full} {
			for _, n := range []int{-1, -2, -30, 31, 32, 100, 1 << 32, math.MaxInt, math.MinInt} {
				if got := impl.GrowthOf(g, a, n); len(got) != 0 {
					t.Errorf("GrowthOf(%v, %d, %d) = %v", g, a, n, got)
				}
			}
			for _, n := range []int{0, 1, 2, 29, 30} {
				if got := impl.GrowthOf(g, a, n); len(got) != n || n > 0 && got[0] != len(membersOf(a)) {
					t.Errorf("GrowthOf(%v, %d, %d) = %v", g, a, n, got)
				}
			}
			if n, m := impl.DoublingOf(g, a); (m == 0) != (a == 0) || (n == 0) != (a == 0) {
				t.Errorf("DoublingOf(%v, %d) = %d, %d", g, a, n, m)
			}
		}
		for _, a := range []int{-1, -2, -full, -full - 1, full + 1, full + 2, 2*full + 1, 1 << 24, 1 << 32, 1 << 62, math.MaxInt, math.MinInt, math.MinInt + 1} {
			checkNoGrowthOf(t, g, a)
		}
	}
}

// checkNoGrowthOf expects the fixed results for a number that is no set.
func checkNoGrowthOf(t *testing.T, g impl.Group, a int) {
	t.Helper()
	for _, n := range []int{-1, 0, 1, 30, 31, math.MaxInt, math.MinInt} {
		if got := impl.GrowthOf(g, a, n); len(got) != 0 {
			t.Errorf("GrowthOf(%v, %d, %d) = %v", g, a, n, got)
		}
	}
	if order, is, size := impl.OrderOfBasis(g, a), impl.IsBasis(g, a), impl.StableSize(g, a); order != -1 || is || size != -1 {
		t.Errorf("%v, %d: OrderOfBasis = %d, IsBasis = %t, StableSize = %d", g, a, order, is, size)
	}
	if n, m := impl.DoublingOf(g, a); n != 0 || m != 0 {
		t.Errorf("DoublingOf(%v, %d) = %d, %d", g, a, n, m)
	}
}

func TestGrowthInNoGroup(t *testing.T) {
	for _, g := range noGroups() {
		for _, a := range []int{-100, -1, 0, 1, 2, 3, 1<<24 - 1, 1 << 24, math.MaxInt, math.MinInt} {
			checkNoGrowthOf(t, g, a)
		}
		for _, n := range []int{-1, 0, 1, 2, 3, 4, 5, math.MaxInt, math.MinInt} {
			if a, ok := impl.SmallestBasis(g, n); a != 0 || ok {
				t.Errorf("SmallestBasis(%v, %d) = %d, %t", g, n, a, ok)
			}
		}
	}
}

// TestGrowthArgumentsAreKept calls every function with slices that have unused capacity, and changes the lists that it returns.
func TestGrowthArgumentsAreKept(t *testing.T) {
	checkGroupsAreKept(t, func(g impl.Group) {
		for _, a := range []int{-1, 0, 1, 41} {
			list := impl.GrowthOf(g, a, 9)
			kept := slices.Clone(list)
			overwrite(list)
			if again := impl.GrowthOf(g, a, 9); !slices.Equal(again, kept) {
				t.Errorf("GrowthOf(%v, %d, 9) = %v after the first result changed", g, a, again)
			}
			impl.OrderOfBasis(g, a)
			impl.IsBasis(g, a)
			impl.DoublingOf(g, a)
			impl.StableSize(g, a)
		}
		impl.SmallestBasis(g, 2)
	})
}
