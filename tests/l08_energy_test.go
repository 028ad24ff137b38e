package tests

import (
	"math"
	"slices"
	"testing"

	"loop.example/g03402/impl"
)

// differencesOf counts the pairs of an element of a and one of b with each difference, which added to the second element is the first one.
func differencesOf(sums [][]int, a int, b int) []int {
	counts := make([]int, len(sums))
	for _, x := range membersOf(a) {
		for _, y := range membersOf(b) {
			counts[slices.Index(sums[y], x)]++
		}
	}
	return counts
}

func squaresOf(table []int) int {
	total := 0
	for _, n := range table {
		total += n * n
	}
	return total
}

func totalOf(table []int) int {
	total := 0
	for _, n := range table {
		total += n
	}
	return total
}

// quadruplesOf counts triples one by one.
func quadruplesOf(sums [][]int, a int) int {
	count := 0
	list := membersOf(a)
	for _, z := range list {
		negative := slices.Index(sums[z], 0)
		for _, x := range list {
			for _, y := range list {
				if a>>sums[sums[x][y]][negative]&1 == 1 {
					count++
				}
			}
		}
	}
	return count
}

// equalPairsOf counts the pairs of two pairs with one sum, each of an element of a and one of b.
func equalPairsOf(sums [][]int, a int, b int) int {
	count := 0
	for _, x := range membersOf(a) {
		for _, y := range membersOf(b) {
			for _, otherX := range membersOf(a) {
				for _, otherY := range membersOf(b) {
					if sums[x][y] == sums[otherX][otherY] {
						count++
					}
				}
			}
		}
	}
	return count
}

// popularOf returns the elements whose number in a table is t or more.
func popularOf(table []int, t int) int {
	var list []int
	for x, count := range table {
		if count >= t {
			list = append(list, x)
		}
	}
	return numberOf(list)
}

// tableOf has 1 at the elements of a set and 0 elsewhere.
func tableOf(size int, a int) []int {
	table := make([]int, size)
	for _, x := range membersOf(a) {
		table[x] = 1
	}
	return table
}

// mixedTable returns a table with numbers of both signs up to the limits.
func mixedTable(size int, state uint32) []int {
	table := make([]int, size)
	for x := range table {
		state = state*1664525 + 1013904223
		table[x] = int(state>>8)%20001 - 10000
	}
	return table
}

// convolutionOf searches for each sum the second element that leads to it from the first one.
func convolutionOf(sums [][]int, p []int, q []int) []int {
	products := make([]int, len(sums))
	for sum := range products {
		for x, first := range p {
			products[sum] += first * q[slices.Index(sums[x], sum)]
		}
	}
	return products
}

func TestEnergyExamples(t *testing.T) {
	g := group(2, 3)
	// The places are 0, 0 and 1, 0 and 0, 1 in the first set, 0, 1 and 1, 2 in the second.
	a, b := 1<<0|1<<1|1<<2, 1<<2|1<<5
	if got := impl.CorrelationOf(g, a, b); !slices.Equal(got, []int{1, 0, 1, 1, 1, 2}) {
		t.Errorf("CorrelationOf = %v", got)
	}
	if got := impl.CorrelationOf(g, b, a); !slices.Equal(got, []int{1, 0, 1, 2, 1, 1}) {
		t.Errorf("CorrelationOf = %v", got)
	}
	// The sums are 2, 3 and 4, and 5, 4 and 1.
	if got := impl.EnergyOf(g, a, b); got != 1+1+4+1+1 {
		t.Errorf("EnergyOf = %d", got)
	}
	// The sums of two of the set are 0 twice, 1 twice, 2 twice, 3 twice and 4 once.
	if got := impl.QuadruplesOf(g, a); got != 4+4+4+4+1 {
		t.Errorf("QuadruplesOf = %d", got)
	}
	for n, want := range []int{-1, 1<<1 | 1<<2 | 1<<3 | 1<<4 | 1<<5, 1 << 4, 0} {
		if got := impl.PopularSums(g, a, b, n); got != want {
			t.Errorf("PopularSums of %d = %d, not %d", n, got, want)
		}
	}
	if got := impl.TripleCount(g, a, b, 1<<0|1<<1|1<<4); got != 3 {
		t.Errorf("TripleCount = %d", got)
	}
	// 5 and 1, 3 and 5 have the sums 4, 0 and 2.
	if got := impl.ConvolveTables(g, []int{1, 0, 0, 0, 0, 2}, []int{0, 3, 0, -5, 0, 7}); !slices.Equal(got, []int{-10, 3, 14, -5, 6, 7}) {
		t.Errorf("ConvolveTables = %v", got)
	}
}

func TestCorrelations(t *testing.T) {
	for _, g := range allGroups() {
		sums := additionOf(g.Orders)
		for _, pair := range samplePairs(len(sums)) {
			a, b := pair[0], pair[1]
			got := impl.CorrelationOf(g, a, b)
			if want := differencesOf(sums, a, b); !slices.Equal(got, want) {
				t.Fatalf("CorrelationOf(%v, %d, %d) = %v, not %v", g, a, b, got, want)
			}
			if product := impl.CountSet(g, a) * impl.CountSet(g, b); totalOf(got) != product {
				t.Fatalf("CorrelationOf(%v, %d, %d) = %v adds up to %d, not %d", g, a, b, got, totalOf(got), product)
			}
			if table := impl.SumTable(g, a, impl.NegateSet(g, b)); !slices.Equal(got, table) {
				t.Fatalf("CorrelationOf(%v, %d, %d) = %v, but SumTable with the negative is %v", g, a, b, got, table)
			}
			other := impl.CorrelationOf(g, b, a)
			for x, count := range got {
				if negative := impl.NegateElement(g, x); other[negative] != count {
					t.Fatalf("%v: %d is %d times a difference of %d and %d, but its negative %d times in the other order", g, x, count, a, b, other[negative])
				}
			}
		}
	}
}

func TestEnergies(t *testing.T) {
	for _, g := range allGroups() {
		sums := additionOf(g.Orders)
		for _, pair := range samplePairs(len(sums)) {
			a, b := pair[0], pair[1]
			got := impl.EnergyOf(g, a, b)
			if want := squaresOf(countsOf(sums, a, b)); got != want {
				t.Fatalf("EnergyOf(%v, %d, %d) = %d, not %d", g, a, b, got, want)
			}
			if first, second := squaresOf(impl.SumTable(g, a, b)), squaresOf(impl.CorrelationOf(g, a, b)); got != first || got != second {
				t.Fatalf("EnergyOf(%v, %d, %d) = %d, but the squares of sums add up to %d, of differences to %d", g, a, b, got, first, second)
			}
			if other, negative := impl.EnergyOf(g, b, a), impl.EnergyOf(g, a, impl.NegateSet(g, b)); got != other || got != negative {
				t.Fatalf("EnergyOf(%v, %d, %d) = %d, but %d in the other order and %d with the negative", g, a, b, got, other, negative)
			}
		}
	}
}

func TestEnergiesCountEqualPairs(t *testing.T) {
	for _, g := range allGroups() {
		sums := additionOf(g.Orders)
		if len(sums) > 9 {
			continue
		}
		for _, pair := range samplePairs(len(sums)) {
			a, b := pair[0], pair[1]
			if got, want := impl.EnergyOf(g, a, b), equalPairsOf(sums, a, b); got != want {
				t.Fatalf("EnergyOf(%v, %d, %d) = %d, not %d", g, a, b, got, want)
			}
		}
	}
}

func TestQuadruples(t *testing.T) {
	for _, g := range allGroups() {
		sums := additionOf(g.Orders)
		for _, a := range sampleSets(len(sums)) {
			got := impl.QuadruplesOf(g, a)
			if want := quadruplesOf(sums, a); got != want {
				t.Fatalf("QuadruplesOf(%v, %d) = %d, not %d", g, a, got, want)
			}
			if energy := impl.EnergyOf(g, a, a); got != energy {
				t.Fatalf("QuadruplesOf(%v, %d) = %d, but EnergyOf is %d", g, a, got, energy)
			}
			if size := len(membersOf(a)); got < size*size || got > size*size*size {
				t.Fatalf("QuadruplesOf(%v, %d) = %d, but the set has %d elements", g, a, got, size)
			}
		}
	}
}

// TestQuadruplesOfCosets has the sets with the cube of their number of elements: if every sum of three is in the set again, it is a coset.
func TestQuadruplesOfCosets(t *testing.T) {
	for _, g := range allGroups() {
		sums := additionOf(g.Orders)
		cosets := map[int]bool{}
		for _, coset := range allCosetsOf(sums) {
			cosets[coset] = true
			size := len(membersOf(coset))
			if got := impl.QuadruplesOf(g, coset); got != size*size*size {
				t.Fatalf("QuadruplesOf(%v, %d) = %d", g, coset, got)
			}
		}
		for _, a := range sampleSets(len(sums)) {
			size := len(membersOf(a))
			if got := impl.QuadruplesOf(g, a); (got == size*size*size) != (a == 0 || cosets[a]) {
				t.Fatalf("QuadruplesOf(%v, %d) = %d", g, a, got)
			}
		}
	}
}

// TestQuadruplesOfMarks has sets in which no difference other than 0 comes twice: two pairs with one sum have the same elements.
func TestQuadruplesOfMarks(t *testing.T) {
	for _, test := range []struct{ order, a, want int }{
		{7, 1<<0 | 1<<1 | 1<<3, 9 + 6},
		{13, 1<<0 | 1<<1 | 1<<3 | 1<<9, 16 + 12},
		{21, 1<<3 | 1<<6 | 1<<7 | 1<<12 | 1<<14, 25 + 20},
		// Twice 0 is twice 12, so that these pairs have one sum, too.
		{24, 1<<0 | 1<<12, 8},
		{24, 1<<0 | 1<<11, 4 + 2},
	} {
		if got := impl.QuadruplesOf(group(test.order), test.a); got != test.want {
			t.Errorf("QuadruplesOf(%d, %d) = %d, not %d", test.order, test.a, got, test.want)
		}
	}
}

// TestQuadruplesOfMovedSets shifts a set and turns it around, which changes no equal sums.
func TestQuadruplesOfMovedSets(t *testing.T) {
	for _, g := range allGroups() {
		sums := additionOf(g.Orders)
		for _, a := range sampleSets(len(sums)) {
			want := impl.QuadruplesOf(g, a)
			if got := impl.QuadruplesOf(g, negativesOf(sums, a)); got != want {
				t.Fatalf("QuadruplesOf(%v, %d) = %d, but %d for the negative", g, a, want, got)
			}
			x := (5*a + 3) % len(sums)
			if got := impl.QuadruplesOf(g, movedBy(sums, a, x)); got != want {
				t.Fatalf("QuadruplesOf(%v, %d) = %d, but %d for the set shifted by %d", g, a, want, got, x)
			}
		}
	}
}

func TestPopularSums(t *testing.T) {
	for _, g := range allGroups() {
		sums := additionOf(g.Orders)
		for _, pair := range samplePairs(len(sums)) {
			a, b := pair[0], pair[1]
			table := countsOf(sums, a, b)
			before := impl.SumOfSets(g, a, b)
			if got := impl.PopularSums(g, a, b, 1); got != before {
				t.Fatalf("PopularSums(%v, %d, %d, 1) = %d, but the sum is %d", g, a, b, got, before)
			}
			for n := 1; n <= 24; n++ {
				got := impl.PopularSums(g, a, b, n)
				if want := popularOf(table, n); got != want {
					t.Fatalf("PopularSums(%v, %d, %d, %d) = %d, not %d", g, a, b, n, got, want)
				}
				if !isPart(got, before) {
					t.Fatalf("PopularSums(%v, %d, %d, %d) = %d is no part of %d, the one before", g, a, b, n, got, before)
				}
				before = got
			}
		}
	}
}

func TestTripleCounts(t *testing.T) {
	for _, g := range allGroups() {
		sums := additionOf(g.Orders)
		full := 1<<len(sums) - 1
		for i, pair := range samplePairs(len(sums)) {
			a, b := pair[0], pair[1]
			table := countsOf(sums, a, b)
			product := len(membersOf(a)) * len(membersOf(b))
			if empty, all := impl.TripleCount(g, a, b, 0), impl.TripleCount(g, a, b, full); empty != 0 || all != product {
				t.Fatalf("%v, %d and %d: %d sums in the empty set and %d in the full one, not %d", g, a, b, empty, all, product)
			}
			for x, want := range table {
				if got, count := impl.TripleCount(g, a, b, 1<<x), impl.CountSums(g, a, b, x); got != want || count != want {
					t.Fatalf("TripleCount(%v, %d, %d, %d) = %d and CountSums = %d, not %d", g, a, b, 1<<x, got, count, want)
				}
			}
			for _, c := range []int{a, b, (i*40503 + 7) & full, full - full>>1} {
				want := 0
				for _, x := range membersOf(c) {
					want += table[x]
				}
				if got, rest := impl.TripleCount(g, a, b, c), impl.TripleCount(g, a, b, full-c); got != want || rest != product-want {
					t.Fatalf("TripleCount(%v, %d, %d, %d) = %d, not %d, and %d for the rest", g, a, b, c, got, want, rest)
				}
			}
		}
	}
}

func TestTablesOfSets(t *testing.T) {
	for _, g := range allGroups() {
		sums := additionOf(g.Orders)
		for _, pair := range samplePairs(len(sums)) {
			a, b := pair[0], pair[1]
			got := impl.ConvolveTables(g, tableOf(len(sums), a), tableOf(len(sums), b))
			if want := impl.SumTable(g, a, b); !slices.Equal(got, want) {
				t.Fatalf("ConvolveTables(%v) of the tables of %d and %d = %v, not %v", g, a, b, got, want)
			}
		}
	}
}

func TestConvolutions(t *testing.T) {
	for _, g := range allGroups() {
		sums := additionOf(g.Orders)
		size := len(sums)
		tables := [][]int{make([]int, size), slices.Repeat([]int{10000}, size), slices.Repeat([]int{-10000}, size)}
		for state := range uint32(5) {
			tables = append(tables, mixedTable(size, state))
		}
		for _, p := range tables {
			for _, q := range tables {
				got := impl.ConvolveTables(g, p, q)
				if want := convolutionOf(sums, p, q); !slices.Equal(got, want) {
					t.Fatalf("ConvolveTables(%v, %v, %v) = %v, not %v", g, p, q, got, want)
				}
				if other := impl.ConvolveTables(g, q, p); !slices.Equal(got, other) {
					t.Fatalf("ConvolveTables(%v, %v, %v) = %v, but %v in the other order", g, p, q, got, other)
				}
				if totalOf(got) != totalOf(p)*totalOf(q) {
					t.Fatalf("ConvolveTables(%v, %v, %v) = %v adds up to %d", g, p, q, got, totalOf(got))
				}
			}
		}
	}
}

// TestConvolutionsOfSingleEntries has the elements alone: they are added.
func TestConvolutionsOfSingleEntries(t *testing.T) {
	for _, g := range allGroups() {
		sums := additionOf(g.Orders)
		for x := range sums {
			for y := range sums {
				p, q, want := make([]int, len(sums)), make([]int, len(sums)), make([]int, len(sums))
				p[x], q[y] = 7, -11
				want[sums[x][y]] = -77
				if got := impl.ConvolveTables(g, p, q); !slices.Equal(got, want) {
					t.Fatalf("ConvolveTables(%v, %v, %v) = %v", g, p, q, got)
				}
			}
		}
	}
}

func TestSetsOfOneElement(t *testing.T) {
	for _, g := range allGroups() {
		sums := additionOf(g.Orders)
		size := len(sums)
		for x := range sums {
			if energy, quadruples := impl.EnergyOf(g, 1<<x, 1<<x), impl.QuadruplesOf(g, 1<<x); energy != 1 || quadruples != 1 {
				t.Fatalf("%v, %d: EnergyOf = %d, QuadruplesOf = %d", g, 1<<x, energy, quadruples)
			}
			if got := impl.CorrelationOf(g, 1<<x, 1<<x); !slices.Equal(got, tableOf(size, 1)) {
				t.Fatalf("CorrelationOf(%v, %d, %d) = %v", g, 1<<x, 1<<x, got)
			}
			for _, b := range sampleSets(size) {
				checkOneElement(t, g, sums, x, b)
			}
		}
	}
}

// checkOneElement compares a set of one element and another one with the other one shifted: each sum and each difference has one pair.
func checkOneElement(t *testing.T, g impl.Group, sums [][]int, x int, b int) {
	t.Helper()
	size, members := len(sums), len(membersOf(b))
	moved, back := movedBy(sums, b, x), movedBy(sums, b, slices.Index(sums[x], 0))
	if first, second := impl.CorrelationOf(g, b, 1<<x), impl.CorrelationOf(g, 1<<x, b); !slices.Equal(first, tableOf(size, back)) || !slices.Equal(second, tableOf(size, negativesOf(sums, back))) {
		t.Fatalf("%v, %d and %d: CorrelationOf = %v, and %v in the other order", g, b, 1<<x, first, second)
	}
	if first, second := impl.EnergyOf(g, 1<<x, b), impl.EnergyOf(g, b, 1<<x); first != members || second != members {
		t.Fatalf("%v, %d and %d: EnergyOf = %d, and %d in the other order", g, 1<<x, b, first, second)
	}
	if one, two := impl.PopularSums(g, 1<<x, b, 1), impl.PopularSums(g, 1<<x, b, 2); one != moved || two != 0 {
		t.Fatalf("%v, %d and %d: PopularSums = %d and %d", g, 1<<x, b, one, two)
	}
	if all, none := impl.TripleCount(g, 1<<x, b, moved), impl.TripleCount(g, b, 1<<x, 1<<size-1-moved); all != members || none != 0 {
		t.Fatalf("%v, %d and %d: TripleCount = %d and %d", g, 1<<x, b, all, none)
	}
}

// TestTablesOfOneElement has tables with 1 at one element, which shift the other ones.
func TestTablesOfOneElement(t *testing.T) {
	for _, g := range allGroups() {
		sums := additionOf(g.Orders)
		for x, row := range sums {
			one, mixed, want := tableOf(len(sums), 1<<x), mixedTable(len(sums), uint32(x)), make([]int, len(sums))
			for y, n := range mixed {
				want[row[y]] = n
			}
			if first, second := impl.ConvolveTables(g, one, mixed), impl.ConvolveTables(g, mixed, one); !slices.Equal(first, want) || !slices.Equal(second, want) {
				t.Fatalf("ConvolveTables(%v) of %v and %v = %v, and %v in the other order", g, one, mixed, first, second)
			}
		}
	}
}

func TestTrivialGroupEnergies(t *testing.T) {
	for _, g := range []impl.Group{{}, {Orders: []int{}}, {Orders: make([]int, 0, 5)}} {
		for a := range 2 {
			if got := impl.QuadruplesOf(g, a); got != a {
				t.Errorf("QuadruplesOf(1, %d) = %d", a, got)
			}
			for b := range 2 {
				if table, energy := impl.CorrelationOf(g, a, b), impl.EnergyOf(g, a, b); !slices.Equal(table, []int{a * b}) || energy != a*b {
					t.Errorf("CorrelationOf(1, %d, %d) = %v, EnergyOf = %d", a, b, table, energy)
				}
				if one, two, last := impl.PopularSums(g, a, b, 1), impl.PopularSums(g, a, b, 2), impl.PopularSums(g, a, b, 24); one != a*b || two != 0 || last != 0 {
					t.Errorf("PopularSums(1, %d, %d) = %d, %d and %d", a, b, one, two, last)
				}
				for c := range 2 {
					if got := impl.TripleCount(g, a, b, c); got != a*b*c {
						t.Errorf("TripleCount(1, %d, %d, %d) = %d", a, b, c, got)
					}
				}
			}
		}
		for _, p := range []int{-10000, -1, 0, 1, 10000} {
			for _, q := range []int{-10000, -3, 0, 3, 10000} {
				if got := impl.ConvolveTables(g, []int{p}, []int{q}); !slices.Equal(got, []int{p * q}) {
					t.Errorf("ConvolveTables(1, %d, %d) = %v", p, q, got)
				}
			}
		}
	}
}

func TestEnergiesWithTheEmptySet(t *testing.T) {
	for _, g := range allGroups() {
		size := sizeOf(g.Orders)
		if got := impl.QuadruplesOf(g, 0); got != 0 {
			t.Errorf("QuadruplesOf(%v, 0) = %d", g, got)
		}
		for _, a := range sampleSets(size) {
			for _, pair := range [][2]int{{a, 0}, {0, a}} {
				if table, energy := impl.CorrelationOf(g, pair[0], pair[1]), impl.EnergyOf(g, pair[0], pair[1]); !slices.Equal(table, make([]int, size)) || energy != 0 {
					t.Errorf("CorrelationOf(%v, %v) = %v, EnergyOf = %d", g, pair, table, energy)
				}
				for _, n := range []int{1, 2, 24} {
					if got := impl.PopularSums(g, pair[0], pair[1], n); got != 0 {
						t.Errorf("PopularSums(%v, %v, %d) = %d", g, pair, n, got)
					}
				}
				if got := impl.TripleCount(g, pair[0], pair[1], 1<<size-1); got != 0 {
					t.Errorf("TripleCount(%v, %v) = %d", g, pair, got)
				}
			}
		}
	}
}

func TestEnergiesOfTheFullSet(t *testing.T) {
	for _, g := range allGroups() {
		size := sizeOf(g.Orders)
		full := 1<<size - 1
		if got := impl.QuadruplesOf(g, full); got != size*size*size {
			t.Errorf("QuadruplesOf(%v, %d) = %d", g, full, got)
		}
		for _, a := range sampleSets(size) {
			members := len(membersOf(a))
			want := slices.Repeat([]int{members}, size)
			if first, second := impl.CorrelationOf(g, a, full), impl.CorrelationOf(g, full, a); !slices.Equal(first, want) || !slices.Equal(second, want) {
				t.Errorf("%v: CorrelationOf of %d and the full set = %v, and %v in the other order", g, a, first, second)
			}
			if got := impl.EnergyOf(g, a, full); got != members*members*size {
				t.Errorf("EnergyOf(%v, %d, %d) = %d", g, a, full, got)
			}
			if members > 0 && impl.PopularSums(g, a, full, members) != full || members < 24 && impl.PopularSums(g, a, full, members+1) != 0 {
				t.Errorf("PopularSums(%v, %d, %d) of %d and one more", g, a, full, members)
			}
			if got := impl.TripleCount(g, full, full, a); got != size*members {
				t.Errorf("TripleCount(%v, %d, %d, %d) = %d", g, full, full, a, got)
			}
		}
	}
}

func TestPopularSumsLimits(t *testing.T) {
	for _, g := range allGroups() {
		size := sizeOf(g.Orders)
		full := 1<<size - 1
		for _, pair := range [][2]int{{0, 0}, {1, 1}, {1, full}, {full, full}} {
			for _, n := range []int{0, -1, -2, -24, 25, 26, 100, 1 << 32, math.MaxInt, math.MinInt, math.MinInt + 1} {
				if got := impl.PopularSums(g, pair[0], pair[1], n); got != -1 {
					t.Errorf("PopularSums(%v, %v, %d) = %d", g, pair, n, got)
				}
			}
		}
		for n := 1; n <= 24; n++ {
			want := 0
			if n <= size {
				want = full
			}
			if got := impl.PopularSums(g, full, full, n); got != want {
				t.Errorf("PopularSums(%v, %d, %d, %d) = %d, not %d", g, full, full, n, got, want)
			}
		}
	}
}

// checkNoEnergies expects the fixed results where one of two sets is none.
func checkNoEnergies(t *testing.T, g impl.Group, a int, b int) {
	t.Helper()
	if table, energy := impl.CorrelationOf(g, a, b), impl.EnergyOf(g, a, b); len(table) != 0 || energy != -1 {
		t.Errorf("%v, %d, %d: CorrelationOf = %v, EnergyOf = %d", g, a, b, table, energy)
	}
	for _, n := range []int{-1, 0, 1, 2, 24, 25, math.MaxInt, math.MinInt} {
		if got := impl.PopularSums(g, a, b, n); got != -1 {
			t.Errorf("PopularSums(%v, %d, %d, %d) = %d", g, a, b, n, got)
		}
	}
	for _, c := range []int{-1, 0, 1, 2, 1<<sizeOf(g.Orders) - 1, math.MaxInt, math.MinInt} {
		for _, got := range []int{impl.TripleCount(g, a, b, c), impl.TripleCount(g, a, c, b), impl.TripleCount(g, c, a, b)} {
			if got != -1 {
				t.Errorf("TripleCount(%v) of %d, %d and %d = %d", g, a, b, c, got)
			}
		}
	}
}

func TestEnergiesOfNoSets(t *testing.T) {
	for _, g := range allGroups() {
		full := 1<<sizeOf(g.Orders) - 1
		bad := []int{-1, -2, -full - 1, full + 1, full + 2, 2*full + 1, 1 << 24, 1 << 32, 1 << 62, math.MaxInt, math.MinInt, math.MinInt + 1}
		for _, a := range bad {
			if got := impl.QuadruplesOf(g, a); got != -1 {
				t.Errorf("QuadruplesOf(%v, %d) = %d", g, a, got)
			}
			for _, b := range []int{0, 1, full >> 1, full} {
				checkNoEnergies(t, g, a, b)
				checkNoEnergies(t, g, b, a)
			}
			for _, b := range bad {
				checkNoEnergies(t, g, a, b)
			}
		}
	}
}

func TestEnergiesOfNoGroup(t *testing.T) {
	sets := []int{-1, 0, 1, 2, 3, 1<<24 - 1, 1 << 24, math.MaxInt, math.MinInt}
	for _, g := range noGroups() {
		for _, a := range sets {
			if got := impl.QuadruplesOf(g, a); got != -1 {
				t.Errorf("QuadruplesOf(%v, %d) = %d", g, a, got)
			}
			for _, b := range sets {
				if table, energy, popular, triples := impl.CorrelationOf(g, a, b), impl.EnergyOf(g, a, b), impl.PopularSums(g, a, b, 1), impl.TripleCount(g, a, b, 1); len(table) != 0 || energy != -1 || popular != -1 || triples != -1 {
					t.Errorf("%v, %d, %d: CorrelationOf = %v, EnergyOf = %d, PopularSums = %d, TripleCount = %d", g, a, b, table, energy, popular, triples)
				}
			}
		}
		for _, length := range []int{0, 1, 2, 3, 4, 6, 9, 24, 25, 30} {
			checkNoConvolution(t, g, make([]int, length), make([]int, length))
		}
	}
}

func checkNoConvolution(t *testing.T, g impl.Group, p []int, q []int) {
	t.Helper()
	for _, got := range [][]int{impl.ConvolveTables(g, p, q), impl.ConvolveTables(g, q, p)} {
		if len(got) != 0 {
			t.Errorf("ConvolveTables(%v) of %v and %v = %v", g, p, q, got)
		}
	}
}

func TestTablesOfOtherLengths(t *testing.T) {
	for _, g := range allGroups() {
		size := sizeOf(g.Orders)
		lengths := []int{0, 1, size - 1, size, size + 1, 2 * size, 24, 25, 100}
		for _, first := range lengths {
			for _, second := range lengths {
				if first != size || second != size {
					checkNoConvolution(t, g, make([]int, first), make([]int, second))
				}
			}
		}
		for _, empty := range [][]int{nil, {}, make([]int, 0, 30)} {
			checkNoConvolution(t, g, empty, nil)
			checkNoConvolution(t, g, empty, make([]int, size))
		}
	}
}

func TestTablesOutOfRange(t *testing.T) {
	for _, g := range allGroups() {
		size := sizeOf(g.Orders)
		zeros, one := make([]int, size), tableOf(size, 1)
		for x := range size {
			for _, n := range []int{-10000, 10000} {
				p := make([]int, size)
				p[x] = n
				// The table of the set of 0 changes nothing.
				if got := impl.ConvolveTables(g, p, one); !slices.Equal(got, p) {
					t.Errorf("ConvolveTables(%v, %v, %v) = %v", g, p, one, got)
				}
				if got := impl.ConvolveTables(g, zeros, p); !slices.Equal(got, zeros) {
					t.Errorf("ConvolveTables(%v, %v, %v) = %v", g, zeros, p, got)
				}
			}
			for _, n := range []int{-10001, 10001, -1 << 32, 1 << 32, math.MaxInt, math.MinInt, math.MinInt + 1} {
				p := make([]int, size)
				p[x] = n
				checkNoConvolution(t, g, p, zeros)
				checkNoConvolution(t, g, p, one)
				checkNoConvolution(t, g, p, p)
				checkNoConvolution(t, g, p, make([]int, size+1))
			}
		}
	}
}

// TestEnergyArgumentsAreKept calls every function with slices that have unused capacity.
func TestEnergyArgumentsAreKept(t *testing.T) {
	checkGroupsAreKept(t, func(g impl.Group) {
		for _, a := range []int{-1, 0, 1, 41} {
			impl.EnergyOf(g, a, 1)
			impl.QuadruplesOf(g, a)
			impl.PopularSums(g, a, 1, 1)
			impl.TripleCount(g, a, 1, 1)
			table := impl.CorrelationOf(g, a, 1)
			overwrite(table)
		}
	})
	first := impl.CorrelationOf(group(6), 41, 1)
	first[0] = 71
	if second := impl.CorrelationOf(group(6), 41, 1); !slices.Equal(second, []int{1, 0, 0, 1, 0, 1}) {
		t.Errorf("CorrelationOf = %v after the first result changed", second)
	}
}

func TestTableArgumentsAreKept(t *testing.T) {
	memory := []int{1, 2, 3, 4, 5, 6, 7, 8}
	kept := slices.Clone(memory)
	g := group(3)
	// The second pair overlaps, the third is one list, and the last one is not valid.
	for _, pair := range [][2][]int{{memory[:3], memory[4:7]}, {memory[:3], memory[2:5]}, {memory[1:4], memory[1:4]}, {memory[:3], memory[:2]}} {
		products := impl.ConvolveTables(g, pair[0], pair[1])
		overwrite(products)
		if !slices.Equal(memory, kept) {
			t.Fatalf("%v: the arguments became %v", pair, memory)
		}
	}
}
