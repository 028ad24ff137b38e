package tests

import (
	"math"
	"slices"
	"testing"

	"loop.example/g03402/impl"
)

// samplePairs returns all pairs of sets of a small group, and of a larger one those of each sample set with itself, the empty and the full set and some others, in both orders.
func samplePairs(size int) [][2]int {
	sets := sampleSets(size)
	var pairs [][2]int
	for i, a := range sets {
		if size <= 7 {
			for _, b := range sets {
				pairs = append(pairs, [2]int{a, b})
			}
			continue
		}
		for _, b := range []int{0, 1<<size - 1, a, 1<<size - 1 - a, sets[(7*i+3)%len(sets)], sets[(11*i+5)%len(sets)]} {
			pairs = append(pairs, [2]int{a, b}, [2]int{b, a})
		}
	}
	return pairs
}

// countsOf counts the pairs of an element of a and one of b with each sum.
func countsOf(sums [][]int, a int, b int) []int {
	counts := make([]int, len(sums))
	for _, x := range membersOf(a) {
		for _, y := range membersOf(b) {
			counts[sums[x][y]]++
		}
	}
	return counts
}

// sumOf returns the set of the elements that have a pair in countsOf.
func sumOf(sums [][]int, a int, b int) int {
	set := 0
	for x, count := range countsOf(sums, a, b) {
		if count > 0 {
			set += 1 << x
		}
	}
	return set
}

func negativesOf(sums [][]int, a int) int {
	var list []int
	for _, x := range membersOf(a) {
		list = append(list, slices.Index(sums[x], 0))
	}
	return numberOf(list)
}

func restrictedOf(sums [][]int, a int, b int) int {
	var list []int
	for _, x := range membersOf(a) {
		for _, y := range membersOf(b) {
			if x != y {
				list = append(list, sums[x][y])
			}
		}
	}
	return numberOf(list)
}

// partSums adds up every part of a list on its own, in the order of the parts as binary numbers.
func partSums(sums [][]int, list []int) []int {
	all := make([]int, 1<<len(list))
	for part := range all {
		for i, x := range list {
			if part>>i&1 == 1 {
				all[part] = sums[all[part]][x]
			}
		}
	}
	return all
}

// multisetSums adds up every choice of n elements of a list, equal ones allowed.
func multisetSums(sums [][]int, list []int, n int) []int {
	if n == 0 {
		return []int{0}
	}
	var all []int
	for i, x := range list {
		for _, sum := range multisetSums(sums, list[i:], n-1) {
			all = append(all, sums[sum][x])
		}
	}
	return all
}

func isPart(a int, b int) bool {
	return a >= 0 && b >= 0 && a&b == a
}

func TestSumExamples(t *testing.T) {
	g := group(2, 3)
	// The places are 1, 0 and 0, 1 in the first set, 1, 0 and 0, 2 in the second.
	a, b := 1<<1|1<<2, 1<<1|1<<4
	if got := impl.SumOfSets(g, a, b); got != 1<<0|1<<5|1<<3 {
		t.Errorf("SumOfSets = %d", got)
	}
	if got := impl.DifferenceOfSets(g, a, b); got != 1<<0|1<<3|1<<4 {
		t.Errorf("DifferenceOfSets = %d", got)
	}
	if got := impl.DifferenceOfSets(g, b, a); got != 1<<0|1<<5|1<<2 {
		t.Errorf("DifferenceOfSets = %d", got)
	}
	if got := impl.MultipleSum(g, a, 2); got != 1<<0|1<<3|1<<4 {
		t.Errorf("MultipleSum = %d", got)
	}
	if got := impl.RestrictedSum(g, a, a); got != 1<<3 {
		t.Errorf("RestrictedSum = %d", got)
	}
	// 1 and 1 are equal, but 2 and 4 have the sum 0 too.
	if got := impl.RestrictedSum(g, a, b); got != 1<<0|1<<5|1<<3 {
		t.Errorf("RestrictedSum = %d", got)
	}
	if got := impl.SumTable(g, a, b); !slices.Equal(got, []int{2, 0, 0, 1, 0, 1}) {
		t.Errorf("SumTable = %v", got)
	}
	if got := impl.CountSums(g, a, b, 0); got != 2 {
		t.Errorf("CountSums = %d", got)
	}
	if got := impl.SubsetSums(g, a); got != 1<<0|1<<1|1<<2|1<<3 {
		t.Errorf("SubsetSums = %d", got)
	}
}

func TestSumsOfPairs(t *testing.T) {
	for _, g := range allGroups() {
		sums := additionOf(g.Orders)
		for _, pair := range samplePairs(len(sums)) {
			a, b := pair[0], pair[1]
			if got, want := impl.SumOfSets(g, a, b), sumOf(sums, a, b); got != want {
				t.Fatalf("SumOfSets(%v, %d, %d) = %d, not %d", g, a, b, got, want)
			}
			if got, want := impl.DifferenceOfSets(g, a, b), sumOf(sums, a, negativesOf(sums, b)); got != want {
				t.Fatalf("DifferenceOfSets(%v, %d, %d) = %d, not %d", g, a, b, got, want)
			}
			if got, want := impl.RestrictedSum(g, a, b), restrictedOf(sums, a, b); got != want {
				t.Fatalf("RestrictedSum(%v, %d, %d) = %d, not %d", g, a, b, got, want)
			}
			want := countsOf(sums, a, b)
			if got := impl.SumTable(g, a, b); !slices.Equal(got, want) {
				t.Fatalf("SumTable(%v, %d, %d) = %v, not %v", g, a, b, got, want)
			}
			for x := range sums {
				if got := impl.CountSums(g, a, b, x); got != want[x] {
					t.Fatalf("CountSums(%v, %d, %d, %d) = %d, not %d", g, a, b, x, got, want[x])
				}
			}
		}
	}
}

func TestSizesOfSums(t *testing.T) {
	for _, g := range allGroups() {
		for _, pair := range samplePairs(sizeOf(g.Orders)) {
			a, b := pair[0], pair[1]
			sum := impl.SumOfSets(g, a, b)
			size, first, second := impl.CountSet(g, sum), impl.CountSet(g, a), impl.CountSet(g, b)
			if size > first*second || a != 0 && b != 0 && (size < first || size < second) {
				t.Fatalf("SumOfSets(%v, %d, %d) has %d elements, the sets %d and %d", g, a, b, size, first, second)
			}
			if other := impl.SumOfSets(g, b, a); other != sum {
				t.Fatalf("SumOfSets(%v, %d, %d) = %d, but %d in the other order", g, a, b, sum, other)
			}
			if impl.DifferenceOfSets(g, a, b) != impl.SumOfSets(g, a, impl.NegateSet(g, b)) || impl.DifferenceOfSets(g, a, impl.NegateSet(g, b)) != sum {
				t.Fatalf("DifferenceOfSets(%v, %d, %d) is not the sum with the negative", g, a, b)
			}
		}
	}
}

func TestRestrictedSumsAreParts(t *testing.T) {
	for _, g := range allGroups() {
		for _, pair := range samplePairs(sizeOf(g.Orders)) {
			a, b := pair[0], pair[1]
			sum, restricted := impl.SumOfSets(g, a, b), impl.RestrictedSum(g, a, b)
			if !isPart(restricted, sum) || a&b == 0 && restricted != sum {
				t.Fatalf("%v, %d and %d: RestrictedSum = %d, SumOfSets = %d", g, a, b, restricted, sum)
			}
			if apart := impl.RestrictedSum(g, a, b&^a); apart != impl.SumOfSets(g, a, b&^a) || !isPart(apart, restricted) {
				t.Fatalf("RestrictedSum(%v, %d, %d) = %d", g, a, b&^a, apart)
			}
			if other := impl.RestrictedSum(g, b, a); other != restricted {
				t.Fatalf("RestrictedSum(%v, %d, %d) = %d, but %d in the other order", g, a, b, restricted, other)
			}
		}
	}
}

func TestCountsAddUp(t *testing.T) {
	for _, g := range allGroups() {
		for _, pair := range samplePairs(sizeOf(g.Orders)) {
			a, b := pair[0], pair[1]
			table := impl.SumTable(g, a, b)
			total, support := 0, 0
			for x, count := range table {
				total += count
				if count != 0 {
					support |= 1 << x
				}
			}
			if len(table) != impl.OrderOf(g) || total != impl.CountSet(g, a)*impl.CountSet(g, b) || support != impl.SumOfSets(g, a, b) {
				t.Fatalf("SumTable(%v, %d, %d) = %v", g, a, b, table)
			}
		}
	}
}

func TestMultipleSumsAddOneMore(t *testing.T) {
	for _, g := range allGroups() {
		sums := additionOf(g.Orders)
		for _, a := range sampleSets(len(sums)) {
			want, before := 1, -1
			for n := range 31 {
				got := impl.MultipleSum(g, a, n)
				if got != want {
					t.Fatalf("MultipleSum(%v, %d, %d) = %d, not %d", g, a, n, got, want)
				}
				if n > 0 && got != impl.SumOfSets(g, before, a) {
					t.Fatalf("MultipleSum(%v, %d, %d) = %d is not the sum of %d and one more element", g, a, n, got, before)
				}
				want, before = sumOf(sums, want, a), got
			}
			if impl.MultipleSum(g, a, 1) != a || impl.MultipleSum(g, a, 2) != impl.SumOfSets(g, a, a) {
				t.Fatalf("MultipleSum(%v, %d) of 1 and 2", g, a)
			}
		}
	}
}

func TestMultipleSumsOfChoices(t *testing.T) {
	for _, g := range allGroups() {
		sums := additionOf(g.Orders)
		for _, a := range sampleSets(len(sums)) {
			list := membersOf(a)
			for n := range 5 {
				if len(list) > 5 {
					continue
				}
				if got, want := impl.MultipleSum(g, a, n), numberOf(multisetSums(sums, list, n)); got != want {
					t.Fatalf("MultipleSum(%v, %d, %d) = %d, not %d", g, a, n, got, want)
				}
			}
		}
	}
}

// TestMultipleSumsOfSteps adds up 0 and 1 in cyclic groups: n of them reach each number from 0 to n.
func TestMultipleSumsOfSteps(t *testing.T) {
	for size := 2; size <= 24; size++ {
		for n := range 31 {
			if got, want := impl.MultipleSum(group(size), 3, n), 1<<min(n+1, size)-1; got != want {
				t.Errorf("MultipleSum(%d, 3, %d) = %d, not %d", size, n, got, want)
			}
			if got, want := impl.MultipleSum(group(size), 2, n), 1<<(n%size); got != want {
				t.Errorf("MultipleSum(%d, 2, %d) = %d, not %d", size, n, got, want)
			}
		}
	}
}

func TestMultipleSumLimits(t *testing.T) {
	for _, g := range allGroups() {
		full := 1<<sizeOf(g.Orders) - 1
		for _, a := range []int{0, 1, full - full>>1, full} {
			for _, n := range []int{-1, -2, -30, -31, 31, 32, 100, 1 << 32, math.MaxInt, math.MinInt} {
				if got := impl.MultipleSum(g, a, n); got != -1 {
					t.Errorf("MultipleSum(%v, %d, %d) = %d", g, a, n, got)
				}
			}
			if got := impl.MultipleSum(g, a, 0); got != 1 {
				t.Errorf("MultipleSum(%v, %d, 0) = %d", g, a, got)
			}
		}
		for _, n := range []int{1, 2, 29, 30} {
			if got := impl.MultipleSum(g, full, n); got != full {
				t.Errorf("MultipleSum(%v, %d, %d) = %d", g, full, n, got)
			}
			if got := impl.MultipleSum(g, 1, n); got != 1 {
				t.Errorf("MultipleSum(%v, 1, %d) = %d", g, n, got)
			}
		}
	}
}

func TestSubsetSumsOfAllParts(t *testing.T) {
	for _, g := range allGroups() {
		sums := additionOf(g.Orders)
		for _, a := range sampleSets(len(sums)) {
			got := impl.SubsetSums(g, a)
			if !isPart(1|a, got) {
				t.Fatalf("SubsetSums(%v, %d) = %d without 0 or an element", g, a, got)
			}
			list := membersOf(a)
			// The parts of a larger set are those of its first elements, with and without each of the other ones.
			early := min(len(list), 10)
			want := numberOf(partSums(sums, list[:early]))
			for _, x := range list[early:] {
				want |= sumOf(sums, want, 1<<x)
			}
			if got != want {
				t.Fatalf("SubsetSums(%v, %d) = %d, not %d", g, a, got, want)
			}
		}
	}
}

// TestSubsetSumsUseElementsOnce has sets in which an element that is taken twice reaches more.
func TestSubsetSumsUseElementsOnce(t *testing.T) {
	for _, g := range allGroups() {
		sums := additionOf(g.Orders)
		for x := range sums {
			if got := impl.SubsetSums(g, 1<<x); got != 1|1<<x {
				t.Errorf("SubsetSums(%v, %d) = %d", g, 1<<x, got)
			}
			for y := range x {
				if got, want := impl.SubsetSums(g, 1<<x|1<<y), numberOf([]int{0, x, y, sums[x][y]}); got != want {
					t.Errorf("SubsetSums(%v, %d) = %d, not %d", g, 1<<x|1<<y, got, want)
				}
			}
		}
	}
}

// TestSubsetSumsOfDigits adds up 1, 2, 4 and 8 in cyclic groups: the parts reach each number below 16.
func TestSubsetSumsOfDigits(t *testing.T) {
	for size := 9; size <= 24; size++ {
		if got, want := impl.SubsetSums(group(size), 1<<1|1<<2|1<<4|1<<8), 1<<min(size, 16)-1; got != want {
			t.Errorf("SubsetSums(%d) = %d, not %d", size, got, want)
		}
	}
}

func TestSumsWithTheEmptySet(t *testing.T) {
	for _, g := range allGroups() {
		size := sizeOf(g.Orders)
		for _, a := range sampleSets(size) {
			for _, pair := range [][2]int{{a, 0}, {0, a}} {
				if sum, difference, restricted := impl.SumOfSets(g, pair[0], pair[1]), impl.DifferenceOfSets(g, pair[0], pair[1]), impl.RestrictedSum(g, pair[0], pair[1]); sum != 0 || difference != 0 || restricted != 0 {
					t.Errorf("%v, %v: sum %d, difference %d, restricted sum %d", g, pair, sum, difference, restricted)
				}
				if got := impl.SumTable(g, pair[0], pair[1]); !slices.Equal(got, make([]int, size)) {
					t.Errorf("SumTable(%v, %v) = %v", g, pair, got)
				}
				for x := range size {
					if got := impl.CountSums(g, pair[0], pair[1], x); got != 0 {
						t.Errorf("CountSums(%v, %v, %d) = %d", g, pair, x, got)
					}
				}
			}
		}
		for n := range 31 {
			if got := impl.MultipleSum(g, 0, n); n == 0 && got != 1 || n > 0 && got != 0 {
				t.Errorf("MultipleSum(%v, 0, %d) = %d", g, n, got)
			}
		}
		if got := impl.SubsetSums(g, 0); got != 1 {
			t.Errorf("SubsetSums(%v, 0) = %d", g, got)
		}
	}
}

func TestSumsOfTheFullSet(t *testing.T) {
	for _, g := range allGroups() {
		size := sizeOf(g.Orders)
		full := 1<<size - 1
		for _, a := range sampleSets(size) {
			if a == 0 {
				continue
			}
			if impl.SumOfSets(g, a, full) != full || impl.SumOfSets(g, full, a) != full || impl.DifferenceOfSets(g, a, full) != full || impl.DifferenceOfSets(g, full, a) != full {
				t.Errorf("%v: the sums and differences of %d and the full set", g, a)
			}
			members := len(membersOf(a))
			if got := impl.SumTable(g, a, full); !slices.Equal(got, slices.Repeat([]int{members}, size)) {
				t.Errorf("SumTable(%v, %d, %d) = %v", g, a, full, got)
			}
			if impl.CountSums(g, full, a, 0) != members || impl.CountSums(g, full, a, size-1) != members {
				t.Errorf("CountSums(%v, %d, %d) is not %d", g, full, a, members)
			}
		}
		if got := impl.SubsetSums(g, full); got != full {
			t.Errorf("SubsetSums(%v, %d) = %d", g, full, got)
		}
	}
}

func TestTrivialGroupSums(t *testing.T) {
	for _, g := range []impl.Group{{}, {Orders: []int{}}, {Orders: make([]int, 0, 5)}} {
		for a := range 2 {
			for b := range 2 {
				if impl.SumOfSets(g, a, b) != a*b || impl.DifferenceOfSets(g, a, b) != a*b || impl.RestrictedSum(g, a, b) != 0 || impl.CountSums(g, a, b, 0) != a*b || !slices.Equal(impl.SumTable(g, a, b), []int{a * b}) {
					t.Errorf("the sets %d and %d of the trivial group", a, b)
				}
			}
			if impl.MultipleSum(g, a, 0) != 1 || impl.MultipleSum(g, a, 1) != a || impl.MultipleSum(g, a, 30) != a || impl.SubsetSums(g, a) != 1 {
				t.Errorf("the set %d of the trivial group", a)
			}
		}
	}
}

// checkNoSums expects the fixed results of sets that are none.
func checkNoSums(t *testing.T, g impl.Group, a int, b int) {
	t.Helper()
	if sum, difference, restricted, table := impl.SumOfSets(g, a, b), impl.DifferenceOfSets(g, a, b), impl.RestrictedSum(g, a, b), impl.SumTable(g, a, b); sum != -1 || difference != -1 || restricted != -1 || len(table) != 0 {
		t.Errorf("%v, %d, %d: sum %d, difference %d, restricted sum %d, table %v", g, a, b, sum, difference, restricted, table)
	}
	for _, x := range []int{-1, 0, 1, 23, 24, math.MaxInt, math.MinInt} {
		if got := impl.CountSums(g, a, b, x); got != -1 {
			t.Errorf("CountSums(%v, %d, %d, %d) = %d", g, a, b, x, got)
		}
	}
}

func checkNoMultiples(t *testing.T, g impl.Group, a int) {
	t.Helper()
	for _, n := range []int{-1, 0, 1, 2, 30, 31, math.MaxInt, math.MinInt} {
		if got := impl.MultipleSum(g, a, n); got != -1 {
			t.Errorf("MultipleSum(%v, %d, %d) = %d", g, a, n, got)
		}
	}
	if got := impl.SubsetSums(g, a); got != -1 {
		t.Errorf("SubsetSums(%v, %d) = %d", g, a, got)
	}
}

func TestSumsOfNoSets(t *testing.T) {
	for _, g := range allGroups() {
		full := 1<<sizeOf(g.Orders) - 1
		bad := []int{-1, -2, -full, -full - 1, full + 1, full + 2, 2*full + 1, 1 << 24, 1 << 32, 1 << 62, math.MaxInt, math.MinInt}
		for _, a := range bad {
			for _, b := range []int{0, 1, full >> 1, full} {
				checkNoSums(t, g, a, b)
				checkNoSums(t, g, b, a)
			}
			for _, b := range bad {
				checkNoSums(t, g, a, b)
			}
			checkNoMultiples(t, g, a)
		}
	}
}

func TestCountsOfNoElements(t *testing.T) {
	for _, g := range allGroups() {
		size := sizeOf(g.Orders)
		full := 1<<size - 1
		for _, pair := range [][2]int{{0, 0}, {0, full}, {full, 0}, {1, 1}, {1, full}, {full, full}} {
			want := len(membersOf(pair[0])) * len(membersOf(pair[1])) / size
			if pair == [2]int{1, 1} {
				want = 1
			}
			if got := impl.CountSums(g, pair[0], pair[1], 0); got != want {
				t.Errorf("CountSums(%v, %v, 0) = %d, not %d", g, pair, got, want)
			}
			for _, x := range []int{-1, -2, -size, size, size + 1, 24, 25, 63, 64, 1 << 32, math.MaxInt, math.MinInt} {
				if got := impl.CountSums(g, pair[0], pair[1], x); got != -1 {
					t.Errorf("CountSums(%v, %v, %d) = %d", g, pair, x, got)
				}
			}
		}
	}
}

func TestSumsOfNoGroup(t *testing.T) {
	sets := []int{-1, 0, 1, 2, 3, 1<<24 - 1, 1 << 24, math.MaxInt, math.MinInt}
	for _, g := range noGroups() {
		for _, a := range sets {
			for _, b := range sets {
				checkNoSums(t, g, a, b)
			}
			checkNoMultiples(t, g, a)
		}
	}
}

// TestSumArgumentsAreKept calls every function with slices that have unused capacity.
func TestSumArgumentsAreKept(t *testing.T) {
	checkGroupsAreKept(t, func(g impl.Group) {
		for _, a := range []int{-1, 0, 1, 41} {
			impl.SumOfSets(g, a, 1)
			impl.DifferenceOfSets(g, a, 1)
			impl.MultipleSum(g, a, 3)
			impl.RestrictedSum(g, a, 1)
			impl.CountSums(g, a, 1, 0)
			table := impl.SumTable(g, a, 1)
			overwrite(table)
			impl.SubsetSums(g, a)
		}
	})
	first := impl.SumTable(group(6), 41, 1)
	first[0] = 71
	if second := impl.SumTable(group(6), 41, 1); !slices.Equal(second, []int{1, 0, 0, 1, 0, 1}) {
		t.Errorf("SumTable = %v after the first result changed", second)
	}
}
