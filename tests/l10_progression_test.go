package tests

import (
	"math"
	"math/bits"
	"slices"
	"testing"

	"loop.example/g03402/impl"
)

// primeGroups returns the groups of prime order, of which each has one order.
func primeGroups() []impl.Group {
	var all []impl.Group
	for _, p := range []int{2, 3, 5, 7, 11, 13, 17, 19, 23} {
		all = append(all, group(p))
	}
	return all
}

// progressionsOf maps each set of different elements that follow one another by a step to the ascending list of all such steps.
func progressionsOf(sums [][]int) map[int][]int {
	found := map[int][]int{}
	for step := range sums {
		for start := range sums {
			set, x := 0, start
			for set>>x&1 == 0 {
				set |= 1 << x
				if steps := found[set]; !slices.Contains(steps, step) {
					found[set] = append(steps, step)
				}
				x = sums[x][step]
			}
		}
	}
	return found
}

// longestOf returns the size of the largest of these progressions that is a part of a set.
func longestOf(progressions map[int][]int, a int) int {
	longest := 0
	for set := range progressions {
		if set&a == set {
			longest = max(longest, len(membersOf(set)))
		}
	}
	return longest
}

// steppedSets returns the sets of up to two rounds of every step from one start, each of them also with one element changed, without repetition.
func steppedSets(sums [][]int) []int {
	var all []int
	for step := range sums {
		set, x := 0, (5*step+1)%len(sums)
		for n := range 2 * len(sums) {
			set |= 1 << x
			x = sums[x][step]
			all = append(all, set, set^1<<((7*n+step)%len(sums)))
		}
	}
	slices.Sort(all)
	return slices.Compact(all)
}

// setsWithSteps returns all sets of a group of at most 12 elements, and of a larger one sample sets, progressions, and sets that are nearly one.
func setsWithSteps(sums [][]int) []int {
	all := setsNear(len(sums), nil)
	if len(sums) > 12 {
		all = append(all, steppedSets(sums)...)
	}
	return all
}

// steppedPairs returns pairs of progressions with the same step, and of such with other ones.
func steppedPairs(p int) [][2]int {
	var pairs [][2]int
	for step := 1; step < p; step++ {
		a := 0
		for first := range p {
			a |= 1 << (first * step % p)
			b, c := 0, 0
			for second := range first + 1 {
				b |= 1 << ((3 + second*step) % p)
				c |= 1 << ((1 + second*(step+first)) % p)
				pairs = append(pairs, [2]int{a, b}, [2]int{c, a})
			}
		}
	}
	return pairs
}

// pairsWithoutOneSum returns pairs of a set and all the elements that have no fixed sum with one of it, also without one of these.
func pairsWithoutOneSum(p int) [][2]int {
	var pairs [][2]int
	full := 1<<p - 1
	for i, a := range sampleSets(p) {
		b := full
		for _, x := range membersOf(a) {
			b &^= 1 << ((i + p - x) % p)
		}
		pairs = append(pairs, [2]int{a, b}, [2]int{b & (b - 1), a})
	}
	return pairs
}

// vosperPairs returns pairs of sets that are not empty in a group of prime order: all of them, if it is small.
func vosperPairs(sums [][]int) [][2]int {
	all := filledPairs(sums)
	for _, pair := range append(steppedPairs(len(sums)), pairsWithoutOneSum(len(sums))...) {
		if pair[0] != 0 && pair[1] != 0 {
			all = append(all, pair)
		}
	}
	return all
}

// commonOf returns the least number that is in both of two ascending lists.
func commonOf(p []int, q []int) (int, bool) {
	for _, x := range p {
		if slices.Contains(q, x) {
			return x, true
		}
	}
	return 0, false
}

// vosperOf goes through the cases in the order of the chapter.
func vosperOf(sums [][]int, progressions map[int][]int, a int, b int) string {
	sum := sumOf(sums, a, b)
	first, second := len(membersOf(a)), len(membersOf(b))
	n := first + second - 1
	_, common := commonOf(progressions[a], progressions[b])
	for _, test := range []struct {
		word  string
		holds bool
	}{
		{"whole", sum == 1<<len(sums)-1 && n >= len(sums)},
		{"large", len(membersOf(sum)) != n},
		{"one", first == 1 || second == 1},
		{"steps", common},
		{"gap", n == len(sums)-1},
	} {
		if test.holds {
			return test.word
		}
	}
	return "none"
}

func TestProgressionExamples(t *testing.T) {
	for _, test := range []struct {
		orders             []int
		start, step, n     int
		set, longest       int
		differences        []int
		isProgression      bool
		added, addedLonger int
	}{
		// With 0, also 3, 0 and 7 follow one another, by 7.
		{[]int{10}, 3, 2, 3, 1<<3 | 1<<5 | 1<<7, 3, []int{2, 8}, true, 1 << 0, 3},
		// All odd elements, or all but one, follow one another by each even step but 0.
		{[]int{10}, 3, 2, 4, 1<<3 | 1<<5 | 1<<7 | 1<<9, 4, []int{2, 4, 6, 8}, true, 1 << 1, 5},
		{[]int{10}, 3, 2, 5, 1<<1 | 1<<3 | 1<<5 | 1<<7 | 1<<9, 5, []int{2, 4, 6, 8}, true, 1 << 2, 5},
		{[]int{10}, 9, 7, 3, 1<<9 | 1<<6 | 1<<3, 3, []int{3, 7}, true, 1 << 0, 4},
		// The fourth element is the first one again.
		{[]int{12}, 1, 4, 7, 1<<1 | 1<<5 | 1<<9, 3, []int{4, 8}, true, 1 << 3, 3},
		{[]int{5}, 4, 3, 4, 1<<4 | 1<<2 | 1<<0 | 1<<3, 4, []int{1, 2, 3, 4}, true, 1 << 1, 5},
		// The elements have the places 1, 1 and 0, 2 and 1, 0; then 0, 1 follows.
		{[]int{2, 3}, 3, 3, 3, 1<<3 | 1<<4 | 1<<1, 3, []int{3, 5}, true, 1 << 2, 4},
		// The step has no more than two multiples, and the other elements other ones.
		{[]int{2, 2}, 1, 3, 2, 1<<1 | 1<<2, 2, []int{3}, true, 1 << 3, 2},
		{[]int{6}, 2, 0, 5, 1 << 2, 1, []int{0, 1, 2, 3, 4, 5}, true, 1 << 4, 2},
		{[]int{6}, 2, 1, 0, 0, 0, nil, false, 1 << 1, 1},
	} {
		g := group(test.orders...)
		if got := impl.ProgressionSet(g, test.start, test.step, test.n); got != test.set {
			t.Errorf("ProgressionSet(%v, %d, %d, %d) = %d", g, test.start, test.step, test.n, got)
		}
		if got := impl.LongestProgression(g, test.set); got != test.longest {
			t.Errorf("LongestProgression(%v, %d) = %d", g, test.set, got)
		}
		if got := impl.DifferencesOf(g, test.set); !slices.Equal(got, test.differences) {
			t.Errorf("DifferencesOf(%v, %d) = %v", g, test.set, got)
		}
		if got := impl.IsProgression(g, test.set); got != test.isProgression {
			t.Errorf("IsProgression(%v, %d) = %t", g, test.set, got)
		}
		if got := impl.LongestProgression(g, test.set|test.added); got != test.addedLonger {
			t.Errorf("LongestProgression(%v, %d) = %d", g, test.set|test.added, got)
		}
	}
}

func TestVosperExamples(t *testing.T) {
	for _, test := range []struct {
		order, a, b int
		word        string
		common      int
		ok          bool
	}{
		{7, 1<<0 | 1<<1 | 1<<3 | 1<<4, 1<<0 | 1<<1 | 1<<2 | 1<<5, "whole", 0, false},
		// One set has one element, and all steps but 0 are common: the first case comes before.
		{7, 1 << 4, 1<<7 - 1, "whole", 1, true},
		{7, 1<<0 | 1<<1 | 1<<2 | 1<<3, 1<<0 | 1<<1 | 1<<2 | 1<<3, "whole", 1, true},
		// The sum is the group, but n is less than 7.
		{7, 1<<0 | 1<<1 | 1<<2, 1<<0 | 1<<3 | 1<<6, "large", 0, false},
		{7, 1<<0 | 1<<1, 1<<0 | 1<<2, "large", 0, false},
		{7, 1 << 5, 1<<0 | 1<<1 | 1<<3, "one", 0, false},
		{7, 1<<0 | 1<<2 | 1<<4, 1 << 6, "one", 2, true},
		{7, 1 << 3, 1 << 3, "one", 0, true},
		// Both are progressions, with the steps 3 and 2.
		{7, 1<<0 | 1<<3, 1<<1 | 1<<4 | 1<<6, "large", 0, false},
		{7, 1<<0 | 1<<3 | 1<<6, 1<<1 | 1<<5, "steps", 3, true},
		// n is the order minus 1, too.
		{7, 1<<0 | 1<<2, 1<<0 | 1<<2 | 1<<4 | 1<<6 | 1<<1, "steps", 2, true},
		// Only 6 is no sum.
		{7, 1<<0 | 1<<1 | 1<<3, 1<<0 | 1<<1 | 1<<2 | 1<<4, "gap", 0, false},
		{2, 1 << 0, 1 << 1, "one", 0, true},
		{2, 1<<0 | 1<<1, 1 << 1, "whole", 1, true},
	} {
		g := group(test.order)
		for _, pair := range [][2]int{{test.a, test.b}, {test.b, test.a}} {
			if got := impl.VosperCase(g, pair[0], pair[1]); got != test.word {
				t.Errorf("VosperCase(%d, %v) = %q", test.order, pair, got)
			}
			if common, ok := impl.CommonDifference(g, pair[0], pair[1]); common != test.common || ok != test.ok {
				t.Errorf("CommonDifference(%d, %v) = %d, %t", test.order, pair, common, ok)
			}
		}
	}
}

func TestProgressionSets(t *testing.T) {
	for _, g := range allGroups() {
		sums := additionOf(g.Orders)
		for start := range sums {
			for step := range sums {
				want, x := 0, start
				for n := range 25 {
					if got := impl.ProgressionSet(g, start, step, n); got != want {
						t.Fatalf("ProgressionSet(%v, %d, %d, %d) = %d, not %d", g, start, step, n, got, want)
					}
					want |= 1 << x
					x = sums[x][step]
				}
			}
		}
	}
}

// TestProgressionsOfAllLengths has as many elements as it has different ones, up to the order of the step, and then no more.
func TestProgressionsOfAllLengths(t *testing.T) {
	for _, g := range allGroups() {
		sums := additionOf(g.Orders)
		for step := range sums {
			start, order := (3*step+2)%len(sums), orderIn(sums, step)
			for n := 1; n <= impl.MaxOrder; n++ {
				set := impl.ProgressionSet(g, start, step, n)
				if size := len(membersOf(set)); size != min(n, order) {
					t.Fatalf("ProgressionSet(%v, %d, %d, %d) = %d", g, start, step, n, set)
				}
				// Beyond the order of the step, the set stays the same.
				if n > order+1 {
					continue
				}
				if list, longest := impl.DifferencesOf(g, set), impl.LongestProgression(g, set); !slices.Contains(list, step) || longest != min(n, order) {
					t.Fatalf("%v, %d: DifferencesOf = %v, LongestProgression = %d", g, set, list, longest)
				}
				if n >= order && set != impl.ShiftSet(g, impl.GeneratedBy(g, 1<<step), start) {
					t.Fatalf("ProgressionSet(%v, %d, %d, %d) = %d", g, start, step, n, set)
				}
			}
		}
	}
}

func TestDifferencesAndLongestProgressions(t *testing.T) {
	for _, g := range allGroups() {
		sums := additionOf(g.Orders)
		progressions := progressionsOf(sums)
		for _, a := range setsWithSteps(sums) {
			got, want := impl.DifferencesOf(g, a), progressions[a]
			if !slices.Equal(got, want) {
				t.Fatalf("DifferencesOf(%v, %d) = %v, not %v", g, a, got, want)
			}
			for _, d := range got {
				if !slices.Contains(got, impl.NegateElement(g, d)) {
					t.Fatalf("DifferencesOf(%v, %d) = %v, without the negative of %d", g, a, got, d)
				}
			}
			is := impl.IsProgression(g, a)
			if is != (len(want) > 0) {
				t.Fatalf("IsProgression(%v, %d) = %t, but DifferencesOf = %v", g, a, is, got)
			}
			size, longest := len(membersOf(a)), impl.LongestProgression(g, a)
			if longest > size || a != 0 && is != (longest == size) || size > 0 && longest < min(size, 2) {
				t.Fatalf("LongestProgression(%v, %d) = %d, but IsProgression = %t and the size is %d", g, a, longest, is, size)
			}
		}
	}
}

// TestDifferencesAreThoseOfProgressionSets compares results of the program alone.
func TestDifferencesAreThoseOfProgressionSets(t *testing.T) {
	for _, g := range allGroups() {
		order := impl.OrderOf(g)
		sets := sampleSets(order)
		if order > 7 {
			sets = append(sets, steppedSets(additionOf(g.Orders))...)
		}
		for i, a := range sets {
			// Of the larger groups, some sets are enough.
			if order > 12 && i%5 != 0 || a == 0 {
				continue
			}
			var want []int
			for d := range order {
				for start := range order {
					if impl.ProgressionSet(g, start, d, impl.CountSet(g, a)) == a {
						want = append(want, d)
						break
					}
				}
			}
			if got := impl.DifferencesOf(g, a); !slices.Equal(got, want) {
				t.Fatalf("DifferencesOf(%v, %d) = %v, not %v", g, a, got, want)
			}
		}
	}
}

func TestLongestProgressions(t *testing.T) {
	for _, g := range allGroups() {
		sums := additionOf(g.Orders)
		progressions := progressionsOf(sums)
		for i, a := range setsWithSteps(sums) {
			// All sets of the groups of up to 9 elements, and every seventh one of the others.
			if len(sums) > 9 && i%7 != 0 {
				continue
			}
			if got, want := impl.LongestProgression(g, a), longestOf(progressions, a); got != want {
				t.Fatalf("LongestProgression(%v, %d) = %d, not %d", g, a, got, want)
			}
		}
	}
}

// TestProgressionsOfShiftedSets has sets whose steps and lengths are those of others.
func TestProgressionsOfShiftedSets(t *testing.T) {
	for _, g := range allGroups() {
		sums := additionOf(g.Orders)
		for i, a := range setsWithSteps(sums) {
			if len(sums) > 7 && i%11 != 0 {
				continue
			}
			for _, other := range []int{movedBy(sums, a, (5*a+1)%len(sums)), negativesOf(sums, a)} {
				if first, second := impl.DifferencesOf(g, a), impl.DifferencesOf(g, other); !slices.Equal(first, second) {
					t.Fatalf("DifferencesOf(%v, %d) = %v, but that of %d is %v", g, a, first, other, second)
				}
				if first, second := impl.LongestProgression(g, a), impl.LongestProgression(g, other); first != second {
					t.Fatalf("LongestProgression(%v, %d) = %d, but that of %d is %d", g, a, first, other, second)
				}
			}
		}
	}
}

// TestProgressionsOfTheFullSet has the generators of a group of one step as differences, and of other groups none.
func TestProgressionsOfTheFullSet(t *testing.T) {
	for _, g := range allGroups() {
		sums := additionOf(g.Orders)
		full := 1<<len(sums) - 1
		var generators []int
		for x := range sums {
			if orderIn(sums, x) == len(sums) {
				generators = append(generators, x)
			}
		}
		if got, is := impl.DifferencesOf(g, full), impl.IsProgression(g, full); !slices.Equal(got, generators) || is != (len(generators) > 0) {
			t.Errorf("DifferencesOf(%v, %d) = %v, IsProgression = %t", g, full, got, is)
		}
		if got := impl.LongestProgression(g, full); got != impl.ExponentOf(g) {
			t.Errorf("LongestProgression(%v, %d) = %d", g, full, got)
		}
	}
}

// checkSingle expects each element of the group as the step of one element.
func checkSingle(t *testing.T, g impl.Group, size int, x int) {
	t.Helper()
	got := impl.DifferencesOf(g, 1<<x)
	if len(got) != size || !impl.IsProgression(g, 1<<x) || impl.LongestProgression(g, 1<<x) != 1 {
		t.Fatalf("%v, %d: DifferencesOf = %v, IsProgression = %t, LongestProgression = %d", g, 1<<x, got, impl.IsProgression(g, 1<<x), impl.LongestProgression(g, 1<<x))
	}
	for d := range size {
		if got[d] != d || impl.ProgressionSet(g, x, d, 1) != 1<<x || impl.ProgressionSet(g, x, 0, d+1) != 1<<x {
			t.Fatalf("DifferencesOf(%v, %d) = %v", g, 1<<x, got)
		}
	}
}

func TestProgressionsOfOneElement(t *testing.T) {
	for _, g := range allGroups() {
		sums := additionOf(g.Orders)
		for x := range sums {
			checkSingle(t, g, len(sums), x)
			for y := range sums {
				if d, ok := impl.CommonDifference(g, 1<<x, 1<<y); d != 0 || !ok {
					t.Fatalf("CommonDifference(%v, %d, %d) = %d, %t", g, 1<<x, 1<<y, d, ok)
				}
			}
		}
		for i, b := range setsWithSteps(sums) {
			if len(sums) > 9 && i%7 != 0 {
				continue
			}
			want := impl.DifferencesOf(g, b)
			first, ok := impl.CommonDifference(g, 1<<(i%len(sums)), b)
			second, alsoOk := impl.CommonDifference(g, b, 1<<(i%len(sums)))
			if ok != (len(want) > 0) || alsoOk != ok || first != second || ok && first != want[0] || !ok && first != 0 {
				t.Fatalf("CommonDifference(%v, %d, %d) = %d, %t, but DifferencesOf = %v", g, 1<<(i%len(sums)), b, first, ok, want)
			}
		}
	}
}

func TestVosperCasesOfOneElement(t *testing.T) {
	for _, g := range primeGroups() {
		sums := additionOf(g.Orders)
		full := 1<<len(sums) - 1
		for i, b := range setsWithSteps(sums) {
			want := "one"
			if b == full {
				want = "whole"
			}
			if a := 1 << (i % len(sums)); b != 0 && (impl.VosperCase(g, a, b) != want || impl.VosperCase(g, b, a) != want) {
				t.Fatalf("VosperCase(%v, %d, %d) = %q, not %q", g, a, b, impl.VosperCase(g, a, b), want)
			}
		}
	}
}

func TestTrivialGroupProgressions(t *testing.T) {
	for _, g := range []impl.Group{{}, group()} {
		checkSingle(t, g, 1, 0)
		checkNoProgression(t, g, 0, 0)
		for _, a := range []int{-1, 2, 3} {
			checkNoProgression(t, g, a, -1)
		}
		for n, want := range map[int]int{-1: -1, 0: 0, 1: 1, 2: 1, 23: 1, 24: 1, 25: -1} {
			if got := impl.ProgressionSet(g, 0, 0, n); got != want {
				t.Errorf("ProgressionSet = %d for %d", got, n)
			}
		}
		for _, x := range []int{-1, 1, 2} {
			if first, second := impl.ProgressionSet(g, x, 0, 1), impl.ProgressionSet(g, 0, x, 1); first != -1 || second != -1 {
				t.Errorf("ProgressionSet = %d and %d for %d", first, second, x)
			}
		}
		if d, ok := impl.CommonDifference(g, 1, 1); d != 0 || !ok {
			t.Errorf("CommonDifference = %d, %t", d, ok)
		}
		if impl.IsPrimeOrder(g) || impl.VosperCase(g, 1, 1) != "" {
			t.Errorf("IsPrimeOrder = %t, VosperCase = %q", impl.IsPrimeOrder(g), impl.VosperCase(g, 1, 1))
		}
	}
}

func TestCommonDifferences(t *testing.T) {
	for _, g := range allGroups() {
		sums := additionOf(g.Orders)
		progressions := progressionsOf(sums)
		stepped := steppedSets(sums)
		pairs := fewPairs(sums)
		for i, a := range stepped {
			// Of the larger groups, some sets are enough.
			if len(sums) > 7 && i%9 != 0 {
				continue
			}
			pairs = append(pairs, [2]int{a, stepped[(3*i+1)%len(stepped)]}, [2]int{a, movedBy(sums, a, i%len(sums))}, [2]int{a, a & (a - 1)})
		}
		for _, pair := range pairs {
			a, b := pair[0], pair[1]
			want, wantOk := commonOf(progressions[a], progressions[b])
			got, ok := impl.CommonDifference(g, a, b)
			if got != want || ok != wantOk {
				t.Fatalf("CommonDifference(%v, %d, %d) = %d, %t, not %d, %t", g, a, b, got, ok, want, wantOk)
			}
			if other, alsoOk := impl.CommonDifference(g, b, a); other != got || alsoOk != ok {
				t.Fatalf("CommonDifference(%v, %d, %d) = %d, %t", g, b, a, other, alsoOk)
			}
			if d, found := commonOf(impl.DifferencesOf(g, a), impl.DifferencesOf(g, b)); d != got || found != ok {
				t.Fatalf("CommonDifference(%v, %d, %d) = %d, %t, but %d is in both lists", g, a, b, got, ok, d)
			}
		}
	}
}

func TestPrimeOrders(t *testing.T) {
	for _, g := range allGroups() {
		size := sizeOf(g.Orders)
		want := slices.Contains([]int{2, 3, 5, 7, 11, 13, 17, 19, 23}, size)
		if got := impl.IsPrimeOrder(g); got != want {
			t.Errorf("IsPrimeOrder(%v) = %t", g, got)
		}
		if !want {
			checkNoVosperCase(t, g, size)
		}
	}
	// Primes beyond the limit are the orders of no group.
	for _, g := range append(noGroups(), group(29), group(31), group(97), group(1, 23), group(7, 1), group(-7), group(-7, -1), group(math.MaxInt-24)) {
		if impl.IsPrimeOrder(g) {
			t.Errorf("IsPrimeOrder(%v)", g)
		}
	}
}

// checkNoVosperCase expects the empty string for all pairs of sets of a group whose order is not a prime number.
func checkNoVosperCase(t *testing.T, g impl.Group, size int) {
	t.Helper()
	for _, pair := range samplePairs(size) {
		if got := impl.VosperCase(g, pair[0], pair[1]); got != "" {
			t.Fatalf("VosperCase(%v, %v) = %q", g, pair, got)
		}
	}
}

// TestVosperCases holds the part of promise 6 for Vosper, and its bound for the sum.
func TestVosperCases(t *testing.T) {
	for _, g := range primeGroups() {
		sums := additionOf(g.Orders)
		progressions := progressionsOf(sums)
		found := map[string]bool{}
		for _, pair := range vosperPairs(sums) {
			a, b := pair[0], pair[1]
			got := impl.VosperCase(g, a, b)
			if want := vosperOf(sums, progressions, a, b); got != want || got == "none" {
				t.Fatalf("VosperCase(%v, %d, %d) = %q, not %q", g, a, b, got, want)
			}
			bound := min(impl.CountSet(g, a)+impl.CountSet(g, b)-1, len(sums))
			if size := impl.CountSet(g, impl.SumOfSets(g, a, b)); size < bound {
				t.Fatalf("%v, %d and %d: the sum has %d elements", g, a, b, size)
			}
			found[got] = true
		}
		// With 5 elements there is no gap: one set would have two elements, and the other one, all that are left when it is turned around, the same step.
		reached := map[string]bool{"whole": true, "one": true, "large": len(sums) >= 5, "steps": len(sums) >= 5, "gap": len(sums) >= 7, "none": false}
		for word, want := range reached {
			if found[word] != want {
				t.Errorf("%v: the case %s is reached: %t", g, word, found[word])
			}
		}
	}
}

// smallSums returns the pairs of sets of 0 and other elements whose sum has as many elements as both sets minus 1, but not all of the group.
func smallSums(p int) [][2]int {
	var pairs [][2]int
	full := 1<<p - 1
	for a := 1; a < full; a += 2 {
		first := membersOf(a)
		for b := 1; b <= a; b += 2 {
			sum := 0
			for _, x := range first {
				sum |= b<<x | b>>(p-x)
			}
			if n := len(first) + bits.OnesCount(uint(b)) - 1; n < p && bits.OnesCount(uint(sum&full)) == n {
				pairs = append(pairs, [2]int{a, b})
			}
		}
	}
	return pairs
}

// TestVosperCasesOfAllSmallSums goes through all pairs for which Vosper's theorem says something; shifts of them only shift the sum.
func TestVosperCasesOfAllSmallSums(t *testing.T) {
	for _, p := range []int{2, 3, 5, 7, 11, 13} {
		g := group(p)
		for _, pair := range smallSums(p) {
			a, b := pair[0], pair[1]
			got := impl.VosperCase(g, a, b)
			if impl.SumDefect(g, a, b) != 0 || !slices.Contains([]string{"one", "steps", "gap"}, got) {
				t.Fatalf("VosperCase(%d, %d, %d) = %q, SumDefect = %d", p, a, b, got, impl.SumDefect(g, a, b))
			}
			_, common := impl.CommonDifference(g, a, b)
			single := b&(b-1) == 0 || a&(a-1) == 0
			if (got == "one") != single || (got == "steps") != (common && !single) {
				t.Fatalf("VosperCase(%d, %d, %d) = %q, but CommonDifference is %t", p, a, b, got, common)
			}
		}
	}
}

// TestVosperCasesOfExchangedAndShiftedPairs has pairs whose sums are only shifted or turned around.
func TestVosperCasesOfExchangedAndShiftedPairs(t *testing.T) {
	for _, g := range primeGroups() {
		sums := additionOf(g.Orders)
		for i, pair := range vosperPairs(sums) {
			if len(sums) > 5 && i%13 != 0 {
				continue
			}
			a, b := pair[0], pair[1]
			x := (5*a + 3*b + 1) % len(sums)
			want := impl.VosperCase(g, a, b)
			for _, other := range [][2]int{{b, a}, {movedBy(sums, a, x), b}, {a, movedBy(sums, b, x)}, {negativesOf(sums, a), negativesOf(sums, b)}} {
				if got := impl.VosperCase(g, other[0], other[1]); got != want {
					t.Fatalf("VosperCase(%v, %v) = %q, but %q for %v", g, other, got, want, pair)
				}
			}
		}
	}
}

// checkNoProgression expects the fixed results for a number that is no set, and those of the empty set, which has no element that another one follows.
func checkNoProgression(t *testing.T, g impl.Group, a int, longest int) {
	t.Helper()
	if is, list, got := impl.IsProgression(g, a), impl.DifferencesOf(g, a), impl.LongestProgression(g, a); is || len(list) != 0 || got != longest {
		t.Errorf("%v, %d: IsProgression = %t, DifferencesOf = %v, LongestProgression = %d", g, a, is, list, got)
	}
	for _, b := range []int{1, 0, -1, 2, 1 << 24, a} {
		for _, pair := range [][2]int{{a, b}, {b, a}} {
			if d, ok := impl.CommonDifference(g, pair[0], pair[1]); d != 0 || ok {
				t.Errorf("CommonDifference(%v, %v) = %d, %t", g, pair, d, ok)
			}
			if got := impl.VosperCase(g, pair[0], pair[1]); got != "" {
				t.Errorf("VosperCase(%v, %v) = %q", g, pair, got)
			}
		}
	}
}

func TestProgressionsOfEmptySetsAndOfNoSets(t *testing.T) {
	for _, g := range allGroups() {
		full := 1<<sizeOf(g.Orders) - 1
		checkNoProgression(t, g, 0, 0)
		for _, a := range []int{-1, -2, -full, -full - 1, full + 1, full + 2, 2*full + 1, 1 << 24, 1 << 32, 1 << 62, math.MaxInt, math.MinInt, math.MinInt + 1} {
			checkNoProgression(t, g, a, -1)
		}
		// The full set and the greatest element alone are the limits on the other side.
		for _, a := range []int{1, full, full - full>>1} {
			if longest := impl.LongestProgression(g, a); longest < 1 {
				t.Errorf("LongestProgression(%v, %d) = %d", g, a, longest)
			}
			if got := impl.VosperCase(g, a, full); impl.IsPrimeOrder(g) != (got == "whole") {
				t.Errorf("VosperCase(%v, %d, %d) = %q", g, a, full, got)
			}
		}
	}
}

func TestProgressionSetLimits(t *testing.T) {
	for _, g := range allGroups() {
		size := sizeOf(g.Orders)
		bad := []int{-1, -size, size, size + 1, 2*size + 1, 1 << 32, math.MaxInt, math.MinInt}
		for _, n := range []int{-1, 0, 1, 2, impl.MaxOrder, impl.MaxOrder + 1} {
			for _, x := range bad {
				for _, y := range append([]int{0, size - 1}, bad...) {
					if first, second := impl.ProgressionSet(g, x, y, n), impl.ProgressionSet(g, y, x, n); first != -1 || second != -1 {
						t.Fatalf("ProgressionSet(%v, %d, %d, %d) = %d, and %d in the other order", g, x, y, n, first, second)
					}
				}
			}
		}
		for _, pair := range [][2]int{{0, 0}, {0, size - 1}, {size - 1, 0}, {size - 1, size - 1}} {
			for _, n := range []int{-1, -2, -impl.MaxOrder, impl.MaxOrder + 1, impl.MaxOrder + 2, 1 << 32, math.MaxInt, math.MinInt} {
				if got := impl.ProgressionSet(g, pair[0], pair[1], n); got != -1 {
					t.Errorf("ProgressionSet(%v, %v, %d) = %d", g, pair, n, got)
				}
			}
			if none, one, all := impl.ProgressionSet(g, pair[0], pair[1], 0), impl.ProgressionSet(g, pair[0], pair[1], 1), impl.ProgressionSet(g, pair[0], pair[1], impl.MaxOrder); none != 0 || one != 1<<pair[0] || !impl.IsCoset(g, all) {
				t.Errorf("ProgressionSet(%v, %v) = %d, %d and %d for 0, 1 and %d", g, pair, none, one, all, impl.MaxOrder)
			}
		}
	}
}

func TestProgressionsInNoGroup(t *testing.T) {
	for _, g := range noGroups() {
		for _, a := range []int{-100, -1, 0, 1, 2, 3, 1<<24 - 1, 1 << 24, math.MaxInt, math.MinInt} {
			checkNoProgression(t, g, a, -1)
		}
		for _, x := range []int{-1, 0, 1, 23, 24, math.MaxInt, math.MinInt} {
			for _, n := range []int{-1, 0, 1, impl.MaxOrder, impl.MaxOrder + 1} {
				if first, second := impl.ProgressionSet(g, x, 0, n), impl.ProgressionSet(g, 0, x, n); first != -1 || second != -1 {
					t.Errorf("ProgressionSet(%v, %d, 0, %d) = %d, and %d in the other order", g, x, n, first, second)
				}
			}
		}
	}
}

// TestProgressionArgumentsAreKept calls every function with slices that have unused capacity, and changes the lists that it returns.
func TestProgressionArgumentsAreKept(t *testing.T) {
	checkGroupsAreKept(t, func(g impl.Group) {
		for _, a := range []int{-1, 0, 1, 41} {
			list := impl.DifferencesOf(g, a)
			kept := slices.Clone(list)
			overwrite(list)
			if again := impl.DifferencesOf(g, a); !slices.Equal(again, kept) {
				t.Errorf("DifferencesOf(%v, %d) = %v after the first result changed", g, a, again)
			}
			impl.IsProgression(g, a)
			impl.ProgressionSet(g, 0, 1, a)
			impl.LongestProgression(g, a)
			impl.VosperCase(g, a, 1)
			impl.CommonDifference(g, a, 1)
		}
		impl.IsPrimeOrder(g)
	})
	checkGroupsAreKept(t, func(impl.Group) {
		impl.VosperCase(group(7), 11, 23)
	})
}
