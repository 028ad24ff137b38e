package tests

import (
	"math"
	"math/cmplx"
	"slices"
	"testing"

	"loop.example/g03402/impl"
)

// exponentOf finds the least positive number of times that every element adds up to 0.
func exponentOf(sums [][]int) int {
	multiples := make([]int, len(sums))
	for times := 1; ; times++ {
		for x := range multiples {
			multiples[x] = sums[multiples[x]][x]
		}
		if !slices.ContainsFunc(multiples, func(x int) bool { return x != 0 }) {
			return times
		}
	}
}

// valuesOf returns the row of values of each character.
func valuesOf(orders []int) [][]int {
	exponent := exponentOf(additionOf(orders))
	table := make([][]int, sizeOf(orders))
	for k := range table {
		row := make([]int, len(table))
		for x := range row {
			for i, place := range tupleOf(orders, x) {
				row[x] += tupleOf(orders, k)[i] * place * exponent / orders[i]
			}
			row[x] %= exponent
		}
		table[k] = row
	}
	return table
}

// kernelOf takes the values of one character.
func kernelOf(row []int) int {
	var list []int
	for x, value := range row {
		if value == 0 {
			list = append(list, x)
		}
	}
	return numberOf(list)
}

func annihilatorOf(table [][]int, a int) int {
	var list []int
	for k, row := range table {
		if isPart(a, kernelOf(row)) {
			list = append(list, k)
		}
	}
	return numberOf(list)
}

// countsOfValues takes the values of one character.
func countsOfValues(row []int, exponent int, a int) []int {
	counts := make([]int, exponent)
	for _, x := range membersOf(a) {
		counts[row[x]]++
	}
	return counts
}

func rootOfUnity(power int, order int) complex128 {
	return cmplx.Exp(complex(0, 2*math.Pi*float64(power)/float64(order)))
}

// isZeroSum adds powers of a root of unity; so few of them have no sum that is this small and not 0.
func isZeroSum(counts []int) bool {
	var sum complex128
	for power, count := range counts {
		sum += complex(float64(count), 0) * rootOfUnity(power, len(counts))
	}
	return cmplx.Abs(sum) < 1e-9
}

// setsWithCoefficients returns sample sets, and unions of cosets, over which many characters have the sum 0.
func setsWithCoefficients(sums [][]int) []int {
	all := append(sampleSets(len(sums)), periodicSets(sums)...)
	slices.Sort(all)
	return slices.Compact(all)
}

func TestCharacterExamples(t *testing.T) {
	g := group(2, 6)
	// The places of 3 are 1 and 1, so that it has the values 3, for the first place, plus the second place.
	for x, want := range []int{0, 3, 1, 4, 2, 5, 3, 0, 4, 1, 5, 2} {
		if got := impl.CharacterValue(g, 3, x); got != want {
			t.Errorf("CharacterValue(3, %d) = %d, not %d", x, got, want)
		}
	}
	if got := impl.CharacterValue(g, 11, 7); got != 0 {
		t.Errorf("CharacterValue = %d", got)
	}
	if got := impl.KernelOf(g, 3); got != 1<<0|1<<7 {
		t.Errorf("KernelOf = %d", got)
	}
	// 4 has the places 0 and 2, 7 the places 1 and 3.
	if got := impl.KernelOf(g, 4); got != 1<<0|1<<1|1<<6|1<<7 {
		t.Errorf("KernelOf = %d", got)
	}
	if got := impl.AnnihilatorOf(g, 1<<7); got != 1<<0|1<<3|1<<4|1<<7|1<<8|1<<11 {
		t.Errorf("AnnihilatorOf = %d", got)
	}
	if got := impl.AnnihilatorOf(g, 1<<7|1<<1); got != 1<<0|1<<4|1<<8 {
		t.Errorf("AnnihilatorOf = %d", got)
	}
	if got := impl.CoefficientCounts(g, 1<<1|1<<6|1<<7|1<<10, 3); !slices.Equal(got, []int{1, 0, 0, 2, 0, 1}) {
		t.Errorf("CoefficientCounts = %v", got)
	}
	if got := impl.AddCounts([]int{5, -2, 1000}, []int{-5, 7, 1000}); !slices.Equal(got, []int{0, 5, 2000}) {
		t.Errorf("AddCounts = %v", got)
	}
	if got := impl.MultiplyCounts([]int{1, 2, 3}, []int{10, -1, 100}); !slices.Equal(got, []int{207, 319, 128}) {
		t.Errorf("MultiplyCounts = %v", got)
	}
}

// TestZeroCoefficientExamples has sets of powers of a root of unity of the order 12, with the sums of three and of two of them that are 0.
func TestZeroCoefficientExamples(t *testing.T) {
	g := group(12)
	for _, test := range []struct {
		list []int
		want bool
	}{
		{[]int{}, true},
		{[]int{0}, false},
		{[]int{0, 6}, true},
		{[]int{1, 7}, true},
		{[]int{0, 5}, false},
		{[]int{0, 4, 8}, true},
		{[]int{0, 4, 9}, false},
		{[]int{0, 2, 4}, false},
		{[]int{0, 3, 6, 9}, true},
		{[]int{0, 3, 6, 10}, false},
		// The union of 0, 6 and 1, 5, 9 has no period.
		{[]int{0, 1, 5, 6, 9}, true},
		{[]int{0, 1, 5, 6, 10}, false},
		{[]int{0, 1, 4, 6, 9}, false},
		{[]int{0, 1, 2, 3, 4, 5}, false},
		{[]int{0, 2, 4, 6, 8, 10}, true},
		{[]int{0, 1, 2, 3, 4, 5, 6, 7, 8, 9, 10}, false},
	} {
		if got := impl.IsZeroCoefficient(g, numberOf(test.list), 1); got != test.want {
			t.Errorf("IsZeroCoefficient of %v = %t", test.list, got)
		}
	}
}

func TestCharacterValues(t *testing.T) {
	for _, g := range allGroups() {
		for k, row := range valuesOf(g.Orders) {
			for x, want := range row {
				if got := impl.CharacterValue(g, k, x); got != want || got < 0 || got >= impl.ExponentOf(g) {
					t.Fatalf("CharacterValue(%v, %d, %d) = %d, not %d", g, k, x, got, want)
				}
			}
		}
	}
}

// TestCharactersAreProductsOfRoots multiplies roots of unity with the orders of the group.
func TestCharactersAreProductsOfRoots(t *testing.T) {
	for _, g := range allGroups() {
		size := sizeOf(g.Orders)
		for k := range size {
			for x := range size {
				want := complex128(1)
				for i, place := range tupleOf(g.Orders, x) {
					want *= rootOfUnity(place*tupleOf(g.Orders, k)[i], g.Orders[i])
				}
				value := impl.CharacterValue(g, k, x)
				if cmplx.Abs(rootOfUnity(value, impl.ExponentOf(g))-want) > 1e-9 {
					t.Fatalf("CharacterValue(%v, %d, %d) = %d, which is not %v", g, k, x, value, want)
				}
			}
		}
	}
}

func TestCharactersAreHomomorphisms(t *testing.T) {
	for _, g := range allGroups() {
		sums := additionOf(g.Orders)
		exponent := exponentOf(sums)
		for k := range sums {
			for x := range sums {
				value := impl.CharacterValue(g, k, x)
				if turned := impl.CharacterValue(g, x, k); turned != value {
					t.Fatalf("%v: the value of %d at %d is %d, of %d at %d %d", g, k, x, value, x, k, turned)
				}
				for y := range sums {
					sum := (value + impl.CharacterValue(g, k, y)) % exponent
					if got := impl.CharacterValue(g, k, sums[x][y]); got != sum {
						t.Fatalf("CharacterValue(%v, %d, %d + %d) = %d, not %d", g, k, x, y, got, sum)
					}
				}
			}
		}
	}
}

func TestCharactersAreDifferent(t *testing.T) {
	for _, g := range allGroups() {
		rows := map[string]int{}
		for k := range sizeOf(g.Orders) {
			row := ""
			for x := range sizeOf(g.Orders) {
				row += string(rune('a' + impl.CharacterValue(g, k, x)))
			}
			if other, ok := rows[row]; ok {
				t.Errorf("%v: the characters %d and %d have the same values", g, other, k)
			}
			rows[row] = k
		}
	}
}

func TestKernelsAreSubgroups(t *testing.T) {
	for _, g := range allGroups() {
		sums := additionOf(g.Orders)
		for k, row := range valuesOf(g.Orders) {
			got := impl.KernelOf(g, k)
			if want := kernelOf(row); got != want {
				t.Fatalf("KernelOf(%v, %d) = %d, not %d", g, k, got, want)
			}
			if !isClosed(sums, got) || !impl.IsSubgroup(g, got) {
				t.Fatalf("KernelOf(%v, %d) = %d is no subgroup", g, k, got)
			}
			// A character has each of its values once in each coset of the kernel.
			values := slices.Clone(row)
			slices.Sort(values)
			if different := len(slices.Compact(values)); different*len(membersOf(got)) != len(sums) || different != impl.OrderOfElement(g, k) {
				t.Fatalf("KernelOf(%v, %d) = %d for a character with %d values", g, k, got, different)
			}
		}
	}
}

func TestAnnihilatorsLeadBack(t *testing.T) {
	for _, g := range allGroups() {
		sums := additionOf(g.Orders)
		table := valuesOf(g.Orders)
		for _, h := range subgroupsOf(sums) {
			got := impl.AnnihilatorOf(g, h)
			if want := annihilatorOf(table, h); got != want {
				t.Fatalf("AnnihilatorOf(%v, %d) = %d, not %d", g, h, got, want)
			}
			if !isClosed(sums, got) || !impl.IsSubgroup(g, got) {
				t.Fatalf("AnnihilatorOf(%v, %d) = %d is no subgroup", g, h, got)
			}
			if len(membersOf(h))*len(membersOf(got)) != len(sums) {
				t.Fatalf("AnnihilatorOf(%v, %d) = %d has %d elements", g, h, got, len(membersOf(got)))
			}
			if again := impl.AnnihilatorOf(g, got); again != h {
				t.Fatalf("AnnihilatorOf(%v, %d) = %d, and of this %d", g, h, got, again)
			}
		}
	}
}

func TestAnnihilatorsTurnSubgroupsAround(t *testing.T) {
	for _, g := range allGroups() {
		sums := additionOf(g.Orders)
		subgroups := subgroupsOf(sums)
		for _, h := range subgroups {
			for _, i := range subgroups {
				first, second := impl.AnnihilatorOf(g, h), impl.AnnihilatorOf(g, i)
				if isPart(h, i) != isPart(second, first) {
					t.Fatalf("%v: the annihilators of %d and %d are %d and %d", g, h, i, first, second)
				}
				if got := impl.AnnihilatorOf(g, sumOf(sums, h, i)); got != first&second {
					t.Fatalf("%v: the annihilator of %d + %d is %d, not %d", g, h, i, got, first&second)
				}
				if got := impl.AnnihilatorOf(g, h&i); got != sumOf(sums, first, second) {
					t.Fatalf("%v: the annihilator of the common elements of %d and %d is %d", g, h, i, got)
				}
			}
		}
	}
}

// TestAnnihilatorsOfSets has sets that are no subgroups: each has the annihilator of the subgroup that it generates.
func TestAnnihilatorsOfSets(t *testing.T) {
	for _, g := range allGroups() {
		sums := additionOf(g.Orders)
		for _, a := range setsWithCoefficients(sums) {
			got := impl.AnnihilatorOf(g, a)
			for k := range sums {
				contained := true
				for _, x := range membersOf(a) {
					contained = contained && impl.KernelOf(g, k)>>x&1 == 1
				}
				if contained != (got>>k&1 == 1) {
					t.Fatalf("AnnihilatorOf(%v, %d) = %d, but the kernel of %d contains the set: %t", g, a, got, k, contained)
				}
			}
			if !isClosed(sums, got) {
				t.Fatalf("AnnihilatorOf(%v, %d) = %d is no subgroup", g, a, got)
			}
			generated := impl.GeneratedBy(g, a)
			if same, again := impl.AnnihilatorOf(g, generated), impl.AnnihilatorOf(g, got); same != got || again != generated {
				t.Fatalf("AnnihilatorOf(%v, %d) = %d, but %d for %d, and then %d", g, a, got, same, generated, again)
			}
		}
	}
}

func TestCoefficientCountsAddUp(t *testing.T) {
	for _, g := range allGroups() {
		sums := additionOf(g.Orders)
		exponent := exponentOf(sums)
		for k, row := range valuesOf(g.Orders) {
			for _, a := range setsWithCoefficients(sums) {
				got := impl.CoefficientCounts(g, a, k)
				if want := countsOfValues(row, exponent, a); !slices.Equal(got, want) {
					t.Fatalf("CoefficientCounts(%v, %d, %d) = %v, not %v", g, a, k, got, want)
				}
				total := 0
				for _, count := range got {
					total += count
				}
				if total != len(membersOf(a)) {
					t.Fatalf("CoefficientCounts(%v, %d, %d) = %v has the sum %d", g, a, k, got, total)
				}
			}
		}
	}
}

// TestCountsOfPartsAndSums adds the counts of a set and of the other elements, and multiplies those of two sets.
func TestCountsOfPartsAndSums(t *testing.T) {
	for _, g := range allGroups() {
		sums := additionOf(g.Orders)
		full := 1<<len(sums) - 1
		exponent := exponentOf(sums)
		for k, row := range valuesOf(g.Orders) {
			for _, a := range sampleSets(len(sums)) {
				counts := impl.CoefficientCounts(g, a, k)
				rest := impl.CoefficientCounts(g, full-a, k)
				if got, want := impl.AddCounts(counts, rest), impl.CoefficientCounts(g, full, k); !slices.Equal(got, want) {
					t.Fatalf("%v, %d: the counts of %d and the rest add up to %v, not %v", g, k, a, got, want)
				}
				b := full ^ a<<1&full
				want := make([]int, exponent)
				for x, count := range countsOf(sums, a, b) {
					want[row[x]] += count
				}
				if got := impl.MultiplyCounts(counts, impl.CoefficientCounts(g, b, k)); !slices.Equal(got, want) {
					t.Fatalf("%v, %d: the product of the counts of %d and %d is %v, not %v", g, k, a, b, got, want)
				}
			}
		}
	}
}

func TestZeroCoefficients(t *testing.T) {
	for _, g := range allGroups() {
		sums := additionOf(g.Orders)
		exponent := exponentOf(sums)
		sets := setsNear(len(sums), nil)
		sets = append(sets, periodicSets(sums)...)
		for k, row := range valuesOf(g.Orders) {
			for _, a := range sets {
				want := isZeroSum(countsOfValues(row, exponent, a))
				if got := impl.IsZeroCoefficient(g, a, k); got != want {
					t.Fatalf("IsZeroCoefficient(%v, %d, %d) = %t", g, a, k, got)
				}
			}
		}
	}
}

// TestZeroCoefficientsOfJoinedCosets joins a coset of two elements and one of three that have none in common. Where both have the sum 0, so has the union; where neither has, twice one value and three times another one do not cancel.
func TestZeroCoefficientsOfJoinedCosets(t *testing.T) {
	for _, order := range []int{6, 12, 18, 24} {
		g := group(order)
		for x := range order {
			for y := range order {
				a := 1<<x | 1<<((x+order/2)%order)
				b := 1<<y | 1<<((y+order/3)%order) | 1<<((y+2*order/3)%order)
				if a&b != 0 {
					continue
				}
				for k := range order {
					want := k%2 != 0 && k%3 != 0
					if got := impl.IsZeroCoefficient(g, a|b, k); got != want {
						t.Fatalf("IsZeroCoefficient(%v, %d, %d) = %t", g, a|b, k, got)
					}
				}
			}
		}
	}
}

// TestCoefficientsOfSubgroups has the cosets of a subgroup, too.
func TestCoefficientsOfSubgroups(t *testing.T) {
	for _, g := range allGroups() {
		sums := additionOf(g.Orders)
		for _, h := range subgroupsOf(sums) {
			annihilator := impl.AnnihilatorOf(g, h)
			for _, coset := range cosetsOf(sums, h) {
				for k := range sums {
					outside := annihilator>>k&1 == 0
					if got := impl.IsZeroCoefficient(g, coset, k); got != outside {
						t.Fatalf("IsZeroCoefficient(%v, %d, %d) = %t, but the annihilator of %d is %d", g, coset, k, got, h, annihilator)
					}
				}
			}
		}
	}
}

func TestCharacterZero(t *testing.T) {
	for _, g := range allGroups() {
		sums := additionOf(g.Orders)
		full := 1<<len(sums) - 1
		for x := range sums {
			if first, second := impl.CharacterValue(g, 0, x), impl.CharacterValue(g, x, 0); first != 0 || second != 0 {
				t.Errorf("%v: the value of 0 at %d is %d, of %d at 0 %d", g, x, first, x, second)
			}
		}
		if got := impl.KernelOf(g, 0); got != full {
			t.Errorf("KernelOf(%v, 0) = %d", g, got)
		}
		for _, a := range setsNear(len(sums), nil) {
			want := make([]int, exponentOf(sums))
			want[0] = len(membersOf(a))
			if got := impl.CoefficientCounts(g, a, 0); !slices.Equal(got, want) {
				t.Fatalf("CoefficientCounts(%v, %d, 0) = %v", g, a, got)
			}
			if got := impl.IsZeroCoefficient(g, a, 0); got != (a == 0) {
				t.Fatalf("IsZeroCoefficient(%v, %d, 0) = %t", g, a, got)
			}
			if got := impl.AnnihilatorOf(g, a); got&1 != 1 {
				t.Fatalf("AnnihilatorOf(%v, %d) = %d", g, a, got)
			}
		}
	}
}

func TestCoefficientsOfTheEmptyAndTheFullSet(t *testing.T) {
	for _, g := range allGroups() {
		sums := additionOf(g.Orders)
		full := 1<<len(sums) - 1
		for _, a := range []int{0, 1} {
			if got := impl.AnnihilatorOf(g, a); got != full {
				t.Errorf("AnnihilatorOf(%v, %d) = %d", g, a, got)
			}
		}
		if got := impl.AnnihilatorOf(g, full); got != 1 {
			t.Errorf("AnnihilatorOf(%v, %d) = %d", g, full, got)
		}
		for k := range sums {
			if got := impl.CoefficientCounts(g, 0, k); !slices.Equal(got, make([]int, exponentOf(sums))) {
				t.Errorf("CoefficientCounts(%v, 0, %d) = %v", g, k, got)
			}
			if empty, all := impl.IsZeroCoefficient(g, 0, k), impl.IsZeroCoefficient(g, full, k); !empty || all != (k != 0) {
				t.Errorf("%v, %d: IsZeroCoefficient of the empty set = %t, of the full set = %t", g, k, empty, all)
			}
			// A sum over all elements but one is 0 minus one value.
			for x := range sums {
				if k > 0 && impl.IsZeroCoefficient(g, full-1<<x, k) || impl.IsZeroCoefficient(g, 1<<x, k) {
					t.Errorf("%v, %d: the value at %d is 0", g, k, x)
				}
			}
		}
	}
}

func TestTrivialGroupCharacters(t *testing.T) {
	for _, g := range []impl.Group{{}, {Orders: []int{}}, {Orders: make([]int, 0, 5)}} {
		if value, kernel := impl.CharacterValue(g, 0, 0), impl.KernelOf(g, 0); value != 0 || kernel != 1 {
			t.Errorf("CharacterValue = %d, KernelOf = %d", value, kernel)
		}
		for a := range 2 {
			if got := impl.AnnihilatorOf(g, a); got != 1 {
				t.Errorf("AnnihilatorOf(1, %d) = %d", a, got)
			}
			if got := impl.CoefficientCounts(g, a, 0); !slices.Equal(got, []int{a}) {
				t.Errorf("CoefficientCounts(1, %d, 0) = %v", a, got)
			}
			if got := impl.IsZeroCoefficient(g, a, 0); got != (a == 0) {
				t.Errorf("IsZeroCoefficient(1, %d, 0) = %t", a, got)
			}
		}
		for _, n := range []int{-1, 1, 2, 3, math.MaxInt, math.MinInt} {
			checkNoCharacter(t, g, n)
			checkNoCoefficient(t, g, 0, n)
			if n != 1 {
				checkNoCoefficient(t, g, n, 0)
			}
		}
	}
}

// checkNoCharacter expects the fixed results of a number that is no element, also as the place at which a character has a value.
func checkNoCharacter(t *testing.T, g impl.Group, k int) {
	t.Helper()
	for _, x := range []int{-1, 0, 1, sizeOf(g.Orders) - 1, sizeOf(g.Orders), k} {
		if first, second := impl.CharacterValue(g, k, x), impl.CharacterValue(g, x, k); first != -1 || second != -1 {
			t.Errorf("%v: the value of %d at %d is %d, of %d at %d %d", g, k, x, first, x, k, second)
		}
	}
	if got := impl.KernelOf(g, k); got != -1 {
		t.Errorf("KernelOf(%v, %d) = %d", g, k, got)
	}
}

// checkNoCoefficient expects the fixed results where a is no set or k no element.
func checkNoCoefficient(t *testing.T, g impl.Group, a int, k int) {
	t.Helper()
	if counts, zero := impl.CoefficientCounts(g, a, k), impl.IsZeroCoefficient(g, a, k); len(counts) != 0 || zero {
		t.Errorf("%v, %d, %d: CoefficientCounts = %v, IsZeroCoefficient = %t", g, a, k, counts, zero)
	}
}

func TestCharactersOfNoElements(t *testing.T) {
	for _, g := range allGroups() {
		size := sizeOf(g.Orders)
		full := 1<<size - 1
		for _, k := range []int{-1, -2, -size, size, size + 1, 2 * size, 63, 64, 1 << 32, math.MaxInt, math.MinInt, math.MinInt + 1} {
			checkNoCharacter(t, g, k)
			for _, a := range []int{-1, 0, 1, full, full + 1, math.MaxInt, math.MinInt} {
				checkNoCoefficient(t, g, a, k)
			}
		}
		last := size - 1
		if value, kernel := impl.CharacterValue(g, last, last), impl.KernelOf(g, last); value < 0 || kernel < 1 {
			t.Errorf("%v: the character %d has the value %d and the kernel %d", g, last, value, kernel)
		}
		if got := impl.CoefficientCounts(g, full, last); len(got) != impl.ExponentOf(g) {
			t.Errorf("CoefficientCounts(%v, %d, %d) = %v", g, full, last, got)
		}
	}
}

func TestCharactersOfNoSets(t *testing.T) {
	for _, g := range allGroups() {
		size := sizeOf(g.Orders)
		full := 1<<size - 1
		for _, a := range []int{-1, -2, -full - 1, full + 1, full + 2, 2*full + 1, 1 << 24, 1<<24 + 1, 1 << 32, 1 << 62, math.MaxInt, math.MinInt, math.MinInt + 1} {
			if got := impl.AnnihilatorOf(g, a); got != -1 {
				t.Errorf("AnnihilatorOf(%v, %d) = %d", g, a, got)
			}
			for k := -1; k <= size; k++ {
				checkNoCoefficient(t, g, a, k)
			}
		}
	}
}

func TestCharactersOfNoGroup(t *testing.T) {
	for _, g := range noGroups() {
		numbers := []int{-1, 0, 1, 2, 3, 23, 24, 1<<24 - 1, 1 << 24, math.MaxInt, math.MinInt}
		for _, a := range numbers {
			checkNoCharacter(t, g, a)
			if got := impl.AnnihilatorOf(g, a); got != -1 {
				t.Errorf("AnnihilatorOf(%v, %d) = %d", g, a, got)
			}
			for _, k := range numbers {
				checkNoCoefficient(t, g, a, k)
			}
		}
	}
}

// mixedCounts returns a list with numbers of both signs up to the limits.
func mixedCounts(length int, state uint32) []int {
	list := make([]int, length)
	for i := range list {
		state = state*1664525 + 1013904223
		list[i] = int(state>>8)%2001 - 1000
	}
	return list
}

// productOf has one sum for each index of the product.
func productOf(p []int, q []int) []int {
	product := make([]int, len(p))
	for sum := range product {
		for i, first := range p {
			for j, second := range q {
				if i+j == sum || i+j == sum+len(p) {
					product[sum] += first * second
				}
			}
		}
	}
	return product
}

func TestCountsOfAllLengths(t *testing.T) {
	for length := 1; length <= 24; length++ {
		lists := [][]int{make([]int, length), slices.Repeat([]int{1000}, length), slices.Repeat([]int{-1000}, length)}
		for state := range uint32(6) {
			lists = append(lists, mixedCounts(length, state))
		}
		one := make([]int, length)
		one[length-1] = 1
		lists = append(lists, one)
		for _, p := range lists {
			for _, q := range lists {
				want := make([]int, length)
				for i := range want {
					want[i] = p[i] + q[i]
				}
				if got := impl.AddCounts(p, q); !slices.Equal(got, want) {
					t.Fatalf("AddCounts(%v, %v) = %v", p, q, got)
				}
				if got := impl.MultiplyCounts(p, q); !slices.Equal(got, productOf(p, q)) {
					t.Fatalf("MultiplyCounts(%v, %v) = %v", p, q, got)
				}
			}
		}
	}
}

// TestProductsOfSingleCounts has the indices alone: they add up modulo the length.
func TestProductsOfSingleCounts(t *testing.T) {
	for length := 1; length <= 24; length++ {
		for i := range length {
			for j := range length {
				p, q, want := make([]int, length), make([]int, length), make([]int, length)
				p[i], q[j] = 7, -11
				want[(i+j)%length] = -77
				if got := impl.MultiplyCounts(p, q); !slices.Equal(got, want) {
					t.Fatalf("MultiplyCounts(%v, %v) = %v", p, q, got)
				}
			}
		}
	}
}

func checkNoCounts(t *testing.T, p []int, q []int) {
	t.Helper()
	for _, got := range [][]int{impl.AddCounts(p, q), impl.AddCounts(q, p), impl.MultiplyCounts(p, q), impl.MultiplyCounts(q, p)} {
		if len(got) != 0 {
			t.Errorf("%v and %v: the sum or the product is %v", p, q, got)
		}
	}
}

func TestCountsOfOtherLengths(t *testing.T) {
	lengths := []int{0, 1, 2, 3, 12, 23, 24, 25, 26, 48, 100}
	for _, first := range lengths {
		for _, second := range lengths {
			if first != second || first == 0 || first > 24 {
				checkNoCounts(t, make([]int, first), make([]int, second))
			}
		}
	}
	for _, empty := range [][]int{nil, {}, make([]int, 0, 5)} {
		checkNoCounts(t, empty, nil)
		checkNoCounts(t, empty, []int{0})
	}
}

func TestCountsOutOfRange(t *testing.T) {
	for _, length := range []int{1, 2, 5, 23, 24} {
		for i := range length {
			zeros := make([]int, length)
			for _, n := range []int{-1000, 1000} {
				p := make([]int, length)
				p[i] = n
				if got := impl.AddCounts(p, zeros); !slices.Equal(got, p) {
					t.Errorf("AddCounts(%v, %v) = %v", p, zeros, got)
				}
				if got := impl.MultiplyCounts(zeros, p); !slices.Equal(got, zeros) {
					t.Errorf("MultiplyCounts(%v, %v) = %v", zeros, p, got)
				}
			}
			for _, n := range []int{-1001, 1001, -1 << 32, 1 << 32, math.MaxInt, math.MinInt, math.MinInt + 1} {
				p := make([]int, length)
				p[i] = n
				checkNoCounts(t, p, zeros)
				checkNoCounts(t, p, p)
				checkNoCounts(t, p, make([]int, length+1))
			}
		}
	}
}

// TestCharacterArgumentsAreKept calls every function with slices that have unused capacity.
func TestCharacterArgumentsAreKept(t *testing.T) {
	checkGroupsAreKept(t, func(g impl.Group) {
		for _, a := range []int{-1, 0, 1, 41} {
			impl.CharacterValue(g, a, a)
			impl.AnnihilatorOf(g, a)
			impl.KernelOf(g, a)
			impl.IsZeroCoefficient(g, a, 0)
			list := impl.CoefficientCounts(g, a, 0)
			overwrite(list)
		}
	})
	first := impl.CoefficientCounts(group(6), 11, 2)
	first[0] = 71
	if second := impl.CoefficientCounts(group(6), 11, 2); !slices.Equal(second, []int{2, 0, 1, 0, 0, 0}) {
		t.Errorf("CoefficientCounts = %v after the first result changed", second)
	}
}

func TestCountArgumentsAreKept(t *testing.T) {
	memory := []int{1, 2, 3, 4, 5, 6, 7, 8}
	kept := slices.Clone(memory)
	// The second pair overlaps, the third is one list, and the last one is not valid.
	for _, pair := range [][2][]int{{memory[:3], memory[4:7]}, {memory[:4], memory[2:6]}, {memory[:5], memory[:5]}, {memory[:1], memory[1:2]}, {memory[:2], memory[:3]}} {
		for _, list := range [][]int{impl.AddCounts(pair[0], pair[1]), impl.MultiplyCounts(pair[0], pair[1])} {
			overwrite(list)
		}
		if !slices.Equal(memory, kept) {
			t.Fatalf("%v: the arguments became %v", pair, memory)
		}
	}
}
