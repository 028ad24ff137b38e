package tests

import (
	"maps"
	"math"
	"slices"
	"testing"

	"loop.example/g03402/impl"
)

// isClosed reports whether a set contains 0 and the sums of its elements; in a finite group the negatives are among these.
func isClosed(sums [][]int, a int) bool {
	list := membersOf(a)
	for _, x := range list {
		for _, y := range list {
			if a>>sums[x][y]&1 == 0 {
				return false
			}
		}
	}
	return a&1 == 1
}

// subgroupsOf adds up what one element generates up to three times: three elements generate each subgroup of a product of three cyclic groups.
func subgroupsOf(sums [][]int) []int {
	cyclic := map[int]bool{}
	for x := range sums {
		multiples := []int{0}
		for y := x; y != 0; y = sums[y][x] {
			multiples = append(multiples, y)
		}
		cyclic[numberOf(multiples)] = true
	}
	all := maps.Clone(cyclic)
	for range 2 {
		wider := map[int]bool{}
		for h := range all {
			for c := range cyclic {
				wider[sumOf(sums, h, c)] = true
			}
		}
		all = wider
	}
	return slices.Sorted(maps.Keys(all))
}

// cosetsOf shifts a subgroup by each element and keeps the first of equal sets.
func cosetsOf(sums [][]int, h int) []int {
	var all []int
	for x := range sums {
		if coset := sumOf(sums, h, 1<<x); !slices.Contains(all, coset) {
			all = append(all, coset)
		}
	}
	return all
}

func allCosetsOf(sums [][]int) []int {
	var all []int
	for _, h := range subgroupsOf(sums) {
		all = append(all, cosetsOf(sums, h)...)
	}
	return all
}

// setsNear returns all sets of a group of at most 12 elements, and of a larger one sample sets and those that differ in one element at most from one of the given sets.
func setsNear(size int, given []int) []int {
	if size <= 12 {
		all := make([]int, 1<<size)
		for a := range all {
			all[a] = a
		}
		return all
	}
	all := sampleSets(size)
	for _, a := range given {
		all = append(all, a)
		for x := range size {
			all = append(all, a^1<<x)
		}
	}
	return all
}

func TestSubgroupExamples(t *testing.T) {
	g := group(2, 6)
	// The places are 1, 1 and 0, 2: they generate all of an even second place with 0, 0 and of an odd one with 1.
	if got, want := impl.GeneratedBy(g, 1<<3), 1<<0|1<<3|1<<4|1<<7|1<<8|1<<11; got != want {
		t.Errorf("GeneratedBy = %d, not %d", got, want)
	}
	if got, want := impl.GeneratedBy(g, 1<<4|1<<1), 1<<0|1<<1|1<<4|1<<5|1<<8|1<<9; got != want {
		t.Errorf("GeneratedBy = %d, not %d", got, want)
	}
	if !impl.IsSubgroup(g, 1<<0|1<<4|1<<8) || !impl.IsSubgroup(g, 1<<0|1<<7) || impl.IsSubgroup(g, 1<<0|1<<4) || impl.IsSubgroup(g, 1<<3|1<<7) {
		t.Error("IsSubgroup")
	}
	if got, ok := impl.SubgroupsOf(group(12)); !ok || !slices.Equal(got, []int{1, 1 | 1<<6, 1 | 1<<4 | 1<<8, 1 | 1<<3 | 1<<6 | 1<<9, 1 | 1<<2 | 1<<4 | 1<<6 | 1<<8 | 1<<10, 1<<12 - 1}) {
		t.Errorf("SubgroupsOf = %v, %t", got, ok)
	}
	if got, ok := impl.CosetsOf(g, 1<<0|1<<5|1<<8|1<<1|1<<4|1<<9); !ok || !slices.Equal(got, []int{1<<0 | 1<<1 | 1<<4 | 1<<5 | 1<<8 | 1<<9, 1<<2 | 1<<3 | 1<<6 | 1<<7 | 1<<10 | 1<<11}) {
		t.Errorf("CosetsOf = %v, %t", got, ok)
	}
	if got := impl.CosetNumber(g, 1<<0|1<<4|1<<8, 7); got != 3 {
		t.Errorf("CosetNumber = %d", got)
	}
	if !impl.IsCoset(g, 1<<3|1<<7|1<<11) || impl.IsCoset(g, 1<<3|1<<5|1<<11) {
		t.Error("IsCoset")
	}
	if got, want := impl.AffineHull(g, 1<<3|1<<7), 1<<3|1<<7|1<<11; got != want {
		t.Errorf("AffineHull = %d, not %d", got, want)
	}
}

func TestGeneratedSubgroups(t *testing.T) {
	for _, g := range allGroups() {
		sums := additionOf(g.Orders)
		subgroups := subgroupsOf(sums)
		for _, a := range append(sampleSets(len(sums)), subgroups...) {
			got := impl.GeneratedBy(g, a)
			if !isPart(a, got) || !isClosed(sums, got) || !impl.IsSubgroup(g, got) || impl.GeneratedBy(g, got) != got {
				t.Fatalf("GeneratedBy(%v, %d) = %d is no subgroup that contains the set", g, a, got)
			}
			for _, h := range subgroups {
				if isPart(a, h) && !isPart(got, h) {
					t.Fatalf("GeneratedBy(%v, %d) = %d is not within %d", g, a, got, h)
				}
			}
		}
	}
}

// TestGeneratedByFewElements adds up the multiples of one element and of two.
func TestGeneratedByFewElements(t *testing.T) {
	for _, g := range allGroups() {
		for x := range sizeOf(g.Orders) {
			want := 0
			for n := range impl.OrderOfElement(g, x) {
				want |= 1 << impl.MultipleOf(g, x, n)
			}
			if got := impl.GeneratedBy(g, 1<<x); got != want {
				t.Fatalf("GeneratedBy(%v, %d) = %d, not %d", g, 1<<x, got, want)
			}
			for y := range x {
				both := impl.SumOfSets(g, want, impl.GeneratedBy(g, 1<<y))
				if got := impl.GeneratedBy(g, 1<<x|1<<y); got != both {
					t.Fatalf("GeneratedBy(%v, %d) = %d, not %d", g, 1<<x|1<<y, got, both)
				}
			}
		}
	}
}

func TestIsSubgroupOfEverySet(t *testing.T) {
	for _, g := range allGroups() {
		sums := additionOf(g.Orders)
		listed, _ := impl.SubgroupsOf(g)
		for _, a := range setsNear(len(sums), subgroupsOf(sums)) {
			closed := isClosed(sums, a)
			if got := impl.IsSubgroup(g, a); got != closed {
				t.Fatalf("IsSubgroup(%v, %d) = %t", g, a, got)
			}
			if slices.Contains(listed, a) != closed {
				t.Fatalf("SubgroupsOf(%v) = %v, but %d is a subgroup: %t", g, listed, a, closed)
			}
		}
	}
}

func TestSubgroupsAreAllFound(t *testing.T) {
	for _, g := range allGroups() {
		sums := additionOf(g.Orders)
		got, ok := impl.SubgroupsOf(g)
		if !ok || !slices.Equal(got, subgroupsOf(sums)) {
			t.Fatalf("SubgroupsOf(%v) = %v, %t, not %v", g, got, ok, subgroupsOf(sums))
		}
		for i, h := range got {
			if i > 0 && got[i-1] >= h {
				t.Errorf("SubgroupsOf(%v) = %v does not ascend", g, got)
			}
			if !isClosed(sums, h) || !impl.IsSubgroup(g, h) || len(sums)%len(membersOf(h)) != 0 {
				t.Errorf("SubgroupsOf(%v): %d is no subgroup, or its size does not divide the order", g, h)
			}
		}
		if got[0] != 1 || got[len(got)-1] != 1<<len(sums)-1 {
			t.Errorf("SubgroupsOf(%v) = %v without 0 or the group", g, got)
		}
	}
}

// TestNumbersOfSubgroups has the known numbers: a cyclic group has one for each divisor of its order.
func TestNumbersOfSubgroups(t *testing.T) {
	for order := 2; order <= 24; order++ {
		divisors := 0
		for n := range order {
			if order%(n+1) == 0 {
				divisors++
			}
		}
		if got, ok := impl.SubgroupsOf(group(order)); len(got) != divisors || !ok {
			t.Errorf("SubgroupsOf(%d) = %v, %t, not %d subgroups", order, got, ok, divisors)
		}
	}
	for _, c := range []struct {
		g    impl.Group
		want int
	}{
		{group(2, 2), 5}, {group(3, 3), 6}, {group(2, 4), 8}, {group(4, 2), 8}, {group(2, 2, 2), 16}, {group(4, 4), 15}, {group(2, 8), 11},
		{group(2, 2, 4), 27}, {group(2, 4, 2), 27}, {group(2, 2, 6), 32}, {group(6, 2, 2), 32}, {group(2, 12), 16}, {group(4, 6), 16}, {group(3, 5), 4}, {group(2, 3, 4), 16},
	} {
		if got, ok := impl.SubgroupsOf(c.g); len(got) != c.want || !ok {
			t.Errorf("SubgroupsOf(%v) = %v, %t, not %d subgroups", c.g, got, ok, c.want)
		}
	}
}

func TestCosetsPartTheGroup(t *testing.T) {
	for _, g := range allGroups() {
		sums := additionOf(g.Orders)
		full := 1<<len(sums) - 1
		for _, h := range subgroupsOf(sums) {
			got, ok := impl.CosetsOf(g, h)
			if !ok || !slices.Equal(got, cosetsOf(sums, h)) {
				t.Fatalf("CosetsOf(%v, %d) = %v, %t, not %v", g, h, got, ok, cosetsOf(sums, h))
			}
			covered := 0
			for i, coset := range got {
				if impl.CountSet(g, coset) != impl.CountSet(g, h) || coset&covered != 0 {
					t.Fatalf("CosetsOf(%v, %d) = %v: %d has another size or a common element", g, h, got, coset)
				}
				if i > 0 && membersOf(got[i-1])[0] >= membersOf(coset)[0] {
					t.Fatalf("CosetsOf(%v, %d) = %v is not ordered", g, h, got)
				}
				covered |= coset
			}
			if covered != full || got[0] != h {
				t.Fatalf("CosetsOf(%v, %d) = %v does not make up the group from %d on", g, h, got, h)
			}
			for x := range sums {
				number := impl.CosetNumber(g, h, x)
				if number < 0 || number >= len(got) || got[number]>>x&1 != 1 {
					t.Fatalf("CosetNumber(%v, %d, %d) = %d", g, h, x, number)
				}
				if got[number] != impl.ShiftSet(g, h, x) {
					t.Fatalf("CosetsOf(%v, %d) has no shift by %d", g, h, x)
				}
			}
		}
	}
}

func TestIsCosetOfEverySet(t *testing.T) {
	for _, g := range allGroups() {
		sums := additionOf(g.Orders)
		cosets := map[int]bool{}
		for _, coset := range allCosetsOf(sums) {
			cosets[coset] = true
		}
		for _, a := range setsNear(len(sums), allCosetsOf(sums)) {
			if got := impl.IsCoset(g, a); got != cosets[a] {
				t.Fatalf("IsCoset(%v, %d) = %t", g, a, got)
			}
		}
	}
}

func TestAffineHulls(t *testing.T) {
	for _, g := range allGroups() {
		sums := additionOf(g.Orders)
		cosets := allCosetsOf(sums)
		for _, a := range append(sampleSets(len(sums)), cosets...) {
			if a == 0 {
				continue
			}
			got := impl.AffineHull(g, a)
			if !isPart(a, got) || !slices.Contains(cosets, got) || !impl.IsCoset(g, got) || (got == a) != impl.IsCoset(g, a) {
				t.Fatalf("AffineHull(%v, %d) = %d is no coset that contains the set", g, a, got)
			}
			for _, coset := range cosets {
				if isPart(a, coset) && !isPart(got, coset) {
					t.Fatalf("AffineHull(%v, %d) = %d is not within %d", g, a, got, coset)
				}
			}
		}
	}
}

// TestAffineHullsOfTwoElements tells that the hull of x and y is x plus the multiples of their difference.
func TestAffineHullsOfTwoElements(t *testing.T) {
	for _, g := range allGroups() {
		size := sizeOf(g.Orders)
		for x := range size {
			for y := range size {
				step := impl.AddElements(g, y, impl.NegateElement(g, x))
				want, next := 0, x
				for range size {
					want |= 1 << next
					next = impl.AddElements(g, next, step)
				}
				if got := impl.AffineHull(g, 1<<x|1<<y); got != want {
					t.Fatalf("AffineHull(%v, %d) = %d, not %d", g, 1<<x|1<<y, got, want)
				}
			}
		}
	}
}

func TestSubgroupOfZero(t *testing.T) {
	for _, g := range allGroups() {
		size := sizeOf(g.Orders)
		if a, b := impl.GeneratedBy(g, 0), impl.GeneratedBy(g, 1); a != 1 || b != 1 {
			t.Errorf("GeneratedBy(%v) of nothing and of 0 = %d and %d", g, a, b)
		}
		if impl.IsSubgroup(g, 0) || !impl.IsSubgroup(g, 1) || impl.IsCoset(g, 0) || impl.AffineHull(g, 0) != -1 {
			t.Errorf("%v: the empty set is a subgroup or a coset, or the set of 0 is none", g)
		}
		singles := make([]int, size)
		for x := range size {
			singles[x] = 1 << x
			if got := impl.CosetNumber(g, 1, x); got != x {
				t.Errorf("CosetNumber(%v, 1, %d) = %d", g, x, got)
			}
			if !impl.IsCoset(g, 1<<x) || impl.AffineHull(g, 1<<x) != 1<<x || impl.IsSubgroup(g, 1<<x) != (x == 0) {
				t.Errorf("%v: the set of %d has the hull %d", g, x, impl.AffineHull(g, 1<<x))
			}
		}
		if got, ok := impl.CosetsOf(g, 1); !ok || !slices.Equal(got, singles) {
			t.Errorf("CosetsOf(%v, 1) = %v, %t", g, got, ok)
		}
	}
}

func TestSubgroupOfAllElements(t *testing.T) {
	for _, g := range allGroups() {
		size := sizeOf(g.Orders)
		full := 1<<size - 1
		if !impl.IsSubgroup(g, full) || !impl.IsCoset(g, full) || impl.GeneratedBy(g, full) != full || impl.AffineHull(g, full) != full {
			t.Errorf("%v: the full set generates %d and has the hull %d", g, impl.GeneratedBy(g, full), impl.AffineHull(g, full))
		}
		if got, ok := impl.CosetsOf(g, full); !ok || !slices.Equal(got, []int{full}) {
			t.Errorf("CosetsOf(%v, %d) = %v, %t", g, full, got, ok)
		}
		if impl.CosetNumber(g, full, 0) != 0 || impl.CosetNumber(g, full, size-1) != 0 {
			t.Errorf("CosetNumber(%v, %d) of the first and the last element", g, full)
		}
	}
}

func TestTrivialGroupSubgroups(t *testing.T) {
	for _, g := range []impl.Group{{}, {Orders: []int{}}, {Orders: make([]int, 0, 5)}} {
		if impl.GeneratedBy(g, 0) != 1 || impl.GeneratedBy(g, 1) != 1 || impl.IsSubgroup(g, 0) || !impl.IsSubgroup(g, 1) || impl.IsCoset(g, 0) || !impl.IsCoset(g, 1) || impl.AffineHull(g, 0) != -1 || impl.AffineHull(g, 1) != 1 {
			t.Error("the sets of the trivial group")
		}
		if got, ok := impl.SubgroupsOf(g); !ok || !slices.Equal(got, []int{1}) {
			t.Errorf("SubgroupsOf = %v, %t", got, ok)
		}
		if got, ok := impl.CosetsOf(g, 1); !ok || !slices.Equal(got, []int{1}) {
			t.Errorf("CosetsOf = %v, %t", got, ok)
		}
		if impl.CosetNumber(g, 1, 0) != 0 || impl.CosetNumber(g, 1, 1) != -1 || impl.CosetNumber(g, 1, -1) != -1 || impl.CosetNumber(g, 0, 0) != -1 {
			t.Error("CosetNumber in the trivial group")
		}
	}
}

// checkNoSubgroup expects the fixed results of a number that is no subgroup.
func checkNoSubgroup(t *testing.T, g impl.Group, h int) {
	t.Helper()
	if impl.IsSubgroup(g, h) {
		t.Errorf("IsSubgroup(%v, %d) is true", g, h)
	}
	if got, ok := impl.CosetsOf(g, h); len(got) != 0 || ok {
		t.Errorf("CosetsOf(%v, %d) = %v, %t", g, h, got, ok)
	}
	for _, x := range []int{-1, 0, 1, sizeOf(g.Orders) - 1, sizeOf(g.Orders), 23, 24, math.MaxInt, math.MinInt} {
		if got := impl.CosetNumber(g, h, x); got != -1 {
			t.Errorf("CosetNumber(%v, %d, %d) = %d", g, h, x, got)
		}
	}
}

func checkNoSetOfSubgroups(t *testing.T, g impl.Group, a int) {
	t.Helper()
	checkNoSubgroup(t, g, a)
	if generated, coset, hull := impl.GeneratedBy(g, a), impl.IsCoset(g, a), impl.AffineHull(g, a); generated != -1 || coset || hull != -1 {
		t.Errorf("%v, %d: GeneratedBy = %d, IsCoset = %t, AffineHull = %d", g, a, generated, coset, hull)
	}
}

func TestSubgroupsOfNoSets(t *testing.T) {
	for _, g := range allGroups() {
		full := 1<<sizeOf(g.Orders) - 1
		for _, a := range []int{-1, -2, -full, -full - 1, full + 1, full + 2, 2*full + 1, 1 << 24, 1<<24 + 1, 1 << 32, 1<<32 + 1, 1 << 62, math.MaxInt, math.MinInt, math.MinInt + 1} {
			checkNoSetOfSubgroups(t, g, a)
		}
	}
}

// TestNoSubgroups has subgroups less one element or with one more, cosets without 0, and the empty set.
func TestNoSubgroups(t *testing.T) {
	for _, g := range allGroups() {
		sums := additionOf(g.Orders)
		checkNoSubgroup(t, g, 0)
		for _, h := range subgroupsOf(sums) {
			for x := range sums {
				if a := h ^ 1<<x; !isClosed(sums, a) {
					checkNoSubgroup(t, g, a)
				}
			}
			for _, coset := range cosetsOf(sums, h)[1:] {
				checkNoSubgroup(t, g, coset)
			}
		}
	}
}

func TestCosetNumbersOfNoElements(t *testing.T) {
	for _, g := range allGroups() {
		size := sizeOf(g.Orders)
		for _, h := range subgroupsOf(additionOf(g.Orders)) {
			if first, last := impl.CosetNumber(g, h, 0), impl.CosetNumber(g, h, size-1); first != 0 || last < 0 {
				t.Errorf("CosetNumber(%v, %d) of the first and the last element = %d and %d", g, h, first, last)
			}
			for _, x := range []int{-1, -2, -size, size, size + 1, 2 * size, 24, 25, 63, 64, 1 << 32, math.MaxInt, math.MinInt} {
				if got := impl.CosetNumber(g, h, x); got != -1 {
					t.Errorf("CosetNumber(%v, %d, %d) = %d", g, h, x, got)
				}
			}
		}
	}
}

func TestSubgroupsOfNoGroup(t *testing.T) {
	for _, g := range noGroups() {
		for _, a := range []int{-1, 0, 1, 2, 3, 1<<24 - 1, 1 << 24, math.MaxInt, math.MinInt} {
			checkNoSetOfSubgroups(t, g, a)
		}
		if got, ok := impl.SubgroupsOf(g); len(got) != 0 || ok {
			t.Errorf("SubgroupsOf(%v) = %v, %t", g, got, ok)
		}
	}
}

// TestSubgroupsDoNotDependOnTheCall repeats a call whose map may be ranged over in another order.
func TestSubgroupsDoNotDependOnTheCall(t *testing.T) {
	want, _ := impl.SubgroupsOf(group(2, 2, 6))
	for range 100 {
		if got, ok := impl.SubgroupsOf(group(2, 2, 6)); !ok || !slices.Equal(got, want) {
			t.Fatalf("SubgroupsOf = %v, %t, not %v", got, ok, want)
		}
	}
}

// TestSubgroupArgumentsAreKept calls every function with slices that have unused capacity.
func TestSubgroupArgumentsAreKept(t *testing.T) {
	checkGroupsAreKept(t, func(g impl.Group) {
		for _, a := range []int{-1, 0, 1, 41} {
			impl.GeneratedBy(g, a)
			impl.IsSubgroup(g, a)
			impl.CosetNumber(g, a, 0)
			impl.IsCoset(g, a)
			impl.AffineHull(g, a)
			subgroups, _ := impl.SubgroupsOf(g)
			cosets, _ := impl.CosetsOf(g, a)
			for _, list := range [][]int{subgroups, cosets} {
				overwrite(list)
			}
		}
	})
	firstSubgroups, _ := impl.SubgroupsOf(group(6))
	firstSubgroups[0] = 71
	if second, ok := impl.SubgroupsOf(group(6)); !ok || !slices.Equal(second, []int{1, 9, 21, 63}) {
		t.Errorf("SubgroupsOf = %v, %t after the first result changed", second, ok)
	}
	firstCosets, _ := impl.CosetsOf(group(6), 9)
	firstCosets[0] = 71
	if second, ok := impl.CosetsOf(group(6), 9); !ok || !slices.Equal(second, []int{9, 18, 36}) {
		t.Errorf("CosetsOf = %v, %t after the first result changed", second, ok)
	}
}
