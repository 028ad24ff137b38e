package tests

import (
	"math"
	"slices"
	"testing"

	"loop.example/g03402/impl"
)

// movedBy shifts each element of a set on its own.
func movedBy(sums [][]int, a int, x int) int {
	moved := 0
	for _, y := range membersOf(a) {
		moved += 1 << sums[y][x]
	}
	return moved
}

func stabilizerOf(sums [][]int, a int) int {
	var list []int
	for x := range sums {
		if movedBy(sums, a, x) == a {
			list = append(list, x)
		}
	}
	return numberOf(list)
}

// unionsOfCosets returns all unions of the cosets of a subgroup that has few, and of others those of sample sets of cosets.
func unionsOfCosets(sums [][]int, h int) []int {
	cosets := cosetsOf(sums, h)
	var all []int
	for _, chosen := range sampleSets(len(cosets)) {
		union := 0
		for _, i := range membersOf(chosen) {
			union += cosets[i]
		}
		all = append(all, union)
	}
	return all
}

// periodicSets returns unions of cosets of all subgroups that have more elements than 0, without repetition.
func periodicSets(sums [][]int) []int {
	var all []int
	for _, h := range subgroupsOf(sums) {
		if h != 1 {
			all = append(all, unionsOfCosets(sums, h)...)
		}
	}
	slices.Sort(all)
	return slices.Compact(all)
}

// setsWithPeriods returns sample sets, periodic ones, and such as differ from these in one element.
func setsWithPeriods(sums [][]int) []int {
	all := setsNear(len(sums), periodicSets(sums))
	slices.Sort(all)
	return slices.Compact(all)
}

func TestPeriodExamples(t *testing.T) {
	g := group(2, 6)
	// The places are 1, 1 and 1, 4, and 0, 2 and 0, 5: adding 3 to the second ones keeps the set, and nothing else does.
	a := 1<<3 | 1<<9 | 1<<4 | 1<<10
	if got := impl.StabilizerOf(g, a); got != 1<<0|1<<6 {
		t.Errorf("StabilizerOf = %d", got)
	}
	if got := impl.PeriodsOf(g, a); !slices.Equal(got, []int{6}) {
		t.Errorf("PeriodsOf = %v", got)
	}
	// All second places that are even, with the first place 1.
	b := 1<<1 | 1<<5 | 1<<9
	if got := impl.StabilizerOf(g, b); got != 1<<0|1<<4|1<<8 {
		t.Errorf("StabilizerOf = %d", got)
	}
	if got := impl.PeriodsOf(g, b); !slices.Equal(got, []int{4, 8}) {
		t.Errorf("PeriodsOf = %v", got)
	}
	if !impl.IsPeriodic(g, a) || !impl.IsPeriodic(g, b) || impl.IsPeriodic(g, a|b) || impl.IsPeriodic(g, 1<<1|1<<5) {
		t.Error("IsPeriodic")
	}
	h := 1<<0 | 1<<4 | 1<<8
	c := b | 1<<2 | 1<<3 | 1<<7
	if got, ok := impl.QuotientSet(g, h, c); !ok || !slices.Equal(got, []int{0, 3, 1, 2}) {
		t.Errorf("QuotientSet = %v, %t", got, ok)
	}
	if got := impl.FillSet(g, h, c); got != 1<<12-1-h {
		t.Errorf("FillSet = %d", got)
	}
	if got := impl.CorePart(g, h, c); got != b {
		t.Errorf("CorePart = %d", got)
	}
}

func TestStabilizersFillTheirSets(t *testing.T) {
	for _, g := range allGroups() {
		sums := additionOf(g.Orders)
		for _, a := range setsWithPeriods(sums) {
			got := impl.StabilizerOf(g, a)
			if want := stabilizerOf(sums, a); got != want {
				t.Fatalf("StabilizerOf(%v, %d) = %d, not %d", g, a, got, want)
			}
			if !isClosed(sums, got) || !impl.IsSubgroup(g, got) {
				t.Fatalf("StabilizerOf(%v, %d) = %d is no subgroup", g, a, got)
			}
			if fill, core := impl.FillSet(g, got, a), impl.CorePart(g, got, a); fill != a || core != a || sumOf(sums, a, got) != a {
				t.Fatalf("%v: %d fills the set %d to %d and leaves %d", g, got, a, fill, core)
			}
			if len(membersOf(a))%len(membersOf(got)) != 0 {
				t.Fatalf("StabilizerOf(%v, %d) = %d has a size that does not divide that of the set", g, a, got)
			}
		}
	}
}

func TestPeriodsKeepTheSet(t *testing.T) {
	for _, g := range allGroups() {
		sums := additionOf(g.Orders)
		for _, a := range setsWithPeriods(sums) {
			stabilizer := stabilizerOf(sums, a)
			periodic := impl.IsPeriodic(g, a)
			if periodic != (stabilizer != 1) {
				t.Fatalf("IsPeriodic(%v, %d) = %t, but the stabilizer is %d", g, a, periodic, stabilizer)
			}
			periods := impl.PeriodsOf(g, a)
			if !slices.Equal(periods, membersOf(stabilizer)[1:]) || (len(periods) > 0) != periodic {
				t.Fatalf("PeriodsOf(%v, %d) = %v, but the stabilizer is %d", g, a, periods, stabilizer)
			}
			for i, x := range periods {
				if x <= 0 || i > 0 && periods[i-1] >= x || impl.ShiftSet(g, a, x) != a {
					t.Fatalf("PeriodsOf(%v, %d) = %v: %d", g, a, periods, x)
				}
			}
			for x := range sums {
				if kept := impl.ShiftSet(g, a, x) == a; kept != (x == 0 || slices.Contains(periods, x)) {
					t.Fatalf("PeriodsOf(%v, %d) = %v, but %d keeps the set: %t", g, a, periods, x, kept)
				}
			}
		}
	}
}

// TestStabilizersAreTheGreatest compares a stabilizer with all subgroups: a set is a union of the cosets of those that are within it, and of no other.
func TestStabilizersAreTheGreatest(t *testing.T) {
	for _, g := range allGroups() {
		sums := additionOf(g.Orders)
		subgroups := subgroupsOf(sums)
		for _, a := range append(sampleSets(len(sums)), periodicSets(sums)...) {
			stabilizer := impl.StabilizerOf(g, a)
			for _, h := range subgroups {
				within := isPart(h, stabilizer)
				if fills := impl.FillSet(g, h, a) == a; fills != within {
					t.Fatalf("StabilizerOf(%v, %d) = %d, but %d fills the set: %t", g, a, stabilizer, h, fills)
				}
				if leaves := impl.CorePart(g, h, a) == a; leaves != within {
					t.Fatalf("StabilizerOf(%v, %d) = %d, but %d leaves the set: %t", g, a, stabilizer, h, leaves)
				}
			}
		}
	}
}

// TestStabilizersAreThoseOfShifts has sets whose stabilizers are known from others.
func TestStabilizersAreThoseOfShifts(t *testing.T) {
	for _, g := range allGroups() {
		sums := additionOf(g.Orders)
		full := 1<<len(sums) - 1
		for _, a := range append(sampleSets(len(sums)), periodicSets(sums)...) {
			want := impl.StabilizerOf(g, a)
			if rest, negative := impl.StabilizerOf(g, full-a), impl.StabilizerOf(g, impl.NegateSet(g, a)); rest != want || negative != want {
				t.Fatalf("StabilizerOf(%v, %d) = %d, that of the other elements %d, of the negatives %d", g, a, want, rest, negative)
			}
			for _, x := range []int{1 % len(sums), len(sums) / 2, len(sums) - 1} {
				if got := impl.StabilizerOf(g, movedBy(sums, a, x)); got != want {
					t.Fatalf("StabilizerOf(%v, %d) = %d, but %d after a shift by %d", g, a, want, got, x)
				}
			}
		}
		for _, h := range subgroupsOf(sums) {
			for _, coset := range cosetsOf(sums, h) {
				if got := impl.StabilizerOf(g, coset); got != h {
					t.Fatalf("StabilizerOf(%v, %d) = %d of a coset of %d", g, coset, got, h)
				}
			}
		}
	}
}

func TestFilledSetsAreLeastUnions(t *testing.T) {
	for _, g := range allGroups() {
		sums := additionOf(g.Orders)
		for _, h := range subgroupsOf(sums) {
			cosets, unions := cosetsOf(sums, h), unionsOfCosets(sums, h)
			for _, a := range append(sampleSets(len(sums)), unions...) {
				got, want := impl.FillSet(g, h, a), 0
				for _, coset := range cosets {
					if coset&a != 0 {
						want += coset
					}
				}
				if got != want || got != impl.SumOfSets(g, a, h) || !isPart(a, got) {
					t.Fatalf("FillSet(%v, %d, %d) = %d, not %d", g, h, a, got, want)
				}
				for _, union := range unions {
					if isPart(a, union) && !isPart(got, union) {
						t.Fatalf("FillSet(%v, %d, %d) = %d is not within %d", g, h, a, got, union)
					}
				}
				if again := impl.FillSet(g, h, got); again != got || !isPart(h, impl.StabilizerOf(g, got)) {
					t.Fatalf("FillSet(%v, %d, %d) = %d, and then %d", g, h, a, got, again)
				}
			}
		}
	}
}

func TestCorePartsAreGreatestUnions(t *testing.T) {
	for _, g := range allGroups() {
		sums := additionOf(g.Orders)
		full := 1<<len(sums) - 1
		for _, h := range subgroupsOf(sums) {
			cosets, unions := cosetsOf(sums, h), unionsOfCosets(sums, h)
			for _, a := range append(sampleSets(len(sums)), unions...) {
				got, want := impl.CorePart(g, h, a), 0
				for _, coset := range cosets {
					if coset&a == coset {
						want += coset
					}
				}
				if got != want || !isPart(got, a) {
					t.Fatalf("CorePart(%v, %d, %d) = %d, not %d", g, h, a, got, want)
				}
				for _, union := range unions {
					if isPart(union, a) && !isPart(union, got) {
						t.Fatalf("CorePart(%v, %d, %d) = %d without %d", g, h, a, got, union)
					}
				}
				if again := impl.CorePart(g, h, got); again != got || !isPart(h, impl.StabilizerOf(g, got)) {
					t.Fatalf("CorePart(%v, %d, %d) = %d, and then %d", g, h, a, got, again)
				}
				if outside := impl.FillSet(g, h, full-a); outside != full-got {
					t.Fatalf("CorePart(%v, %d, %d) = %d, but the other elements fill %d", g, h, a, got, outside)
				}
			}
		}
	}
}

func TestQuotientsCountTheCosets(t *testing.T) {
	for _, g := range allGroups() {
		sums := additionOf(g.Orders)
		for _, h := range subgroupsOf(sums) {
			cosets := cosetsOf(sums, h)
			for _, a := range append(sampleSets(len(sums)), unionsOfCosets(sums, h)...) {
				got, ok := impl.QuotientSet(g, h, a)
				if !ok || len(got) != len(cosets) {
					t.Fatalf("QuotientSet(%v, %d, %d) = %v, %t", g, h, a, got, ok)
				}
				total, met, whole := 0, 0, 0
				for i, count := range got {
					if want := len(membersOf(cosets[i] & a)); count != want {
						t.Fatalf("QuotientSet(%v, %d, %d) = %v: %d is not %d", g, h, a, got, count, want)
					}
					total += count
					if count > 0 {
						met |= cosets[i]
					}
					if count == len(membersOf(h)) {
						whole |= cosets[i]
					}
				}
				if total != len(membersOf(a)) {
					t.Fatalf("QuotientSet(%v, %d, %d) = %v has the sum %d", g, h, a, got, total)
				}
				if fill, core := impl.FillSet(g, h, a), impl.CorePart(g, h, a); fill != met || core != whole {
					t.Fatalf("QuotientSet(%v, %d, %d) = %v, but FillSet = %d and CorePart = %d", g, h, a, got, fill, core)
				}
			}
		}
	}
}

func TestPeriodsOfTheEmptySet(t *testing.T) {
	for _, g := range allGroups() {
		size := sizeOf(g.Orders)
		full := 1<<size - 1
		if got := impl.StabilizerOf(g, 0); got != full {
			t.Errorf("StabilizerOf(%v, 0) = %d", g, got)
		}
		if got := impl.IsPeriodic(g, 0); got != (size > 1) {
			t.Errorf("IsPeriodic(%v, 0) = %t", g, got)
		}
		if got := impl.PeriodsOf(g, 0); !slices.Equal(got, membersOf(full)[1:]) {
			t.Errorf("PeriodsOf(%v, 0) = %v", g, got)
		}
		sums := additionOf(g.Orders)
		for _, h := range subgroupsOf(sums) {
			if got, ok := impl.QuotientSet(g, h, 0); !ok || !slices.Equal(got, make([]int, len(cosetsOf(sums, h)))) {
				t.Errorf("QuotientSet(%v, %d, 0) = %v, %t", g, h, got, ok)
			}
			if fill, core := impl.FillSet(g, h, 0), impl.CorePart(g, h, 0); fill != 0 || core != 0 {
				t.Errorf("%v, %d: the empty set is filled to %d and has the core %d", g, h, fill, core)
			}
		}
	}
}

func TestPeriodsOfTheFullSet(t *testing.T) {
	for _, g := range allGroups() {
		sums := additionOf(g.Orders)
		full := 1<<len(sums) - 1
		if got := impl.StabilizerOf(g, full); got != full || impl.IsPeriodic(g, full) != (len(sums) > 1) {
			t.Errorf("StabilizerOf(%v, %d) = %d, IsPeriodic = %t", g, full, got, impl.IsPeriodic(g, full))
		}
		if got := impl.PeriodsOf(g, full); !slices.Equal(got, membersOf(full)[1:]) {
			t.Errorf("PeriodsOf(%v, %d) = %v", g, full, got)
		}
		for _, h := range subgroupsOf(sums) {
			if got, ok := impl.QuotientSet(g, h, full); !ok || !slices.Equal(got, slices.Repeat([]int{len(membersOf(h))}, len(cosetsOf(sums, h)))) {
				t.Errorf("QuotientSet(%v, %d, %d) = %v, %t", g, h, full, got, ok)
			}
			if fill, core := impl.FillSet(g, h, full), impl.CorePart(g, h, full); fill != full || core != full {
				t.Errorf("%v, %d: the full set is filled to %d and has the core %d", g, h, fill, core)
			}
		}
	}
}

// TestLeastAndGreatestSubgroup has the cosets of one element each, and the one coset of all elements.
func TestLeastAndGreatestSubgroup(t *testing.T) {
	for _, g := range allGroups() {
		size := sizeOf(g.Orders)
		full := 1<<size - 1
		for _, a := range sampleSets(size) {
			bits := make([]int, size)
			for x := range bits {
				bits[x] = a >> x & 1
			}
			if got, ok := impl.QuotientSet(g, 1, a); !ok || !slices.Equal(got, bits) {
				t.Errorf("QuotientSet(%v, 1, %d) = %v, %t", g, a, got, ok)
			}
			if fill, core := impl.FillSet(g, 1, a), impl.CorePart(g, 1, a); fill != a || core != a {
				t.Errorf("%v: 0 fills the set %d to %d and leaves %d", g, a, fill, core)
			}
			if got, ok := impl.QuotientSet(g, full, a); !ok || !slices.Equal(got, []int{len(membersOf(a))}) {
				t.Errorf("QuotientSet(%v, %d, %d) = %v, %t", g, full, a, got, ok)
			}
			wantFill, wantCore := full, 0
			if a == 0 {
				wantFill = 0
			}
			if a == full {
				wantCore = full
			}
			if fill, core := impl.FillSet(g, full, a), impl.CorePart(g, full, a); fill != wantFill || core != wantCore {
				t.Errorf("%v: the group fills the set %d to %d and leaves %d", g, a, fill, core)
			}
		}
	}
}

func TestSetsOfOneElementHaveNoPeriods(t *testing.T) {
	for _, g := range allGroups() {
		size := sizeOf(g.Orders)
		for x := range size {
			if impl.StabilizerOf(g, 1<<x) != 1 || impl.IsPeriodic(g, 1<<x) || len(impl.PeriodsOf(g, 1<<x)) != 0 {
				t.Errorf("%v: the set of %d has the periods %v", g, x, impl.PeriodsOf(g, 1<<x))
			}
			if size < 3 {
				continue
			}
			if a := 1<<size - 1 - 1<<x; impl.StabilizerOf(g, a) != 1 || impl.IsPeriodic(g, a) || len(impl.PeriodsOf(g, a)) != 0 {
				t.Errorf("%v: the set of all but %d has the periods %v", g, x, impl.PeriodsOf(g, a))
			}
		}
	}
}

func TestTrivialGroupPeriods(t *testing.T) {
	for _, g := range []impl.Group{{}, {Orders: []int{}}, {Orders: make([]int, 0, 5)}} {
		for a := range 2 {
			if impl.StabilizerOf(g, a) != 1 || impl.IsPeriodic(g, a) || len(impl.PeriodsOf(g, a)) != 0 || impl.FillSet(g, 1, a) != a || impl.CorePart(g, 1, a) != a {
				t.Errorf("the set %d of the trivial group", a)
			}
			if got, ok := impl.QuotientSet(g, 1, a); !ok || !slices.Equal(got, []int{a}) {
				t.Errorf("QuotientSet(1, %d) = %v, %t", a, got, ok)
			}
			for _, h := range []int{-1, 0, 2, 3, math.MaxInt, math.MinInt} {
				checkNoQuotient(t, g, h, a)
			}
		}
		for _, a := range []int{-1, 2, 3, math.MaxInt, math.MinInt} {
			checkNoPeriods(t, g, a)
			checkNoQuotient(t, g, 1, a)
		}
	}
}

// checkNoPeriods expects the fixed results of a number that is no set.
func checkNoPeriods(t *testing.T, g impl.Group, a int) {
	t.Helper()
	if stabilizer, periodic, periods := impl.StabilizerOf(g, a), impl.IsPeriodic(g, a), impl.PeriodsOf(g, a); stabilizer != -1 || periodic || len(periods) != 0 {
		t.Errorf("%v, %d: StabilizerOf = %d, IsPeriodic = %t, PeriodsOf = %v", g, a, stabilizer, periodic, periods)
	}
}

// checkNoQuotient expects the fixed results where h is no subgroup or a no set.
func checkNoQuotient(t *testing.T, g impl.Group, h int, a int) {
	t.Helper()
	if got, ok := impl.QuotientSet(g, h, a); len(got) != 0 || ok {
		t.Errorf("QuotientSet(%v, %d, %d) = %v, %t", g, h, a, got, ok)
	}
	if fill, core := impl.FillSet(g, h, a), impl.CorePart(g, h, a); fill != -1 || core != -1 {
		t.Errorf("%v, %d, %d: FillSet = %d, CorePart = %d", g, h, a, fill, core)
	}
}

func TestPeriodsOfNoSets(t *testing.T) {
	for _, g := range allGroups() {
		full := 1<<sizeOf(g.Orders) - 1
		subgroups := subgroupsOf(additionOf(g.Orders))
		for _, a := range []int{-1, -2, -full, -full - 1, full + 1, full + 2, 2*full + 1, 1 << 24, 1<<24 + 1, 1 << 32, 1<<32 + 1, 1 << 62, math.MaxInt, math.MinInt, math.MinInt + 1} {
			checkNoPeriods(t, g, a)
			for _, h := range subgroups {
				checkNoQuotient(t, g, h, a)
			}
			for _, b := range []int{-1, 0, 1, full >> 1, full, full + 1, a} {
				checkNoQuotient(t, g, a, b)
			}
		}
	}
}

// TestQuotientsByNoSubgroups has the empty set, subgroups less one element or with one more, and cosets without 0.
func TestQuotientsByNoSubgroups(t *testing.T) {
	for _, g := range allGroups() {
		sums := additionOf(g.Orders)
		full := 1<<len(sums) - 1
		none := []int{0}
		for _, h := range subgroupsOf(sums) {
			for x := range sums {
				if a := h ^ 1<<x; !isClosed(sums, a) {
					none = append(none, a)
				}
			}
			none = append(none, cosetsOf(sums, h)[1:]...)
		}
		for _, h := range none {
			for _, a := range []int{0, 1, h, full >> 1, full, -1, full + 1, math.MaxInt, math.MinInt} {
				checkNoQuotient(t, g, h, a)
			}
		}
	}
}

func TestPeriodsOfNoGroup(t *testing.T) {
	for _, g := range noGroups() {
		numbers := []int{-1, 0, 1, 2, 3, 1<<24 - 1, 1 << 24, math.MaxInt, math.MinInt}
		for _, a := range numbers {
			checkNoPeriods(t, g, a)
			for _, h := range numbers {
				checkNoQuotient(t, g, h, a)
			}
		}
	}
}

// TestPeriodArgumentsAreKept calls every function with slices that have unused capacity.
func TestPeriodArgumentsAreKept(t *testing.T) {
	checkGroupsAreKept(t, func(g impl.Group) {
		for _, a := range []int{-1, 0, 1, 41} {
			impl.StabilizerOf(g, a)
			impl.IsPeriodic(g, a)
			impl.FillSet(g, 1, a)
			impl.CorePart(g, 1, a)
			quotient, _ := impl.QuotientSet(g, 1, a)
			for _, list := range [][]int{quotient, impl.PeriodsOf(g, a)} {
				overwrite(list)
			}
		}
	})
	firstPeriods := impl.PeriodsOf(group(6), 21)
	firstPeriods[0] = 71
	if second := impl.PeriodsOf(group(6), 21); !slices.Equal(second, []int{2, 4}) {
		t.Errorf("PeriodsOf = %v after the first result changed", second)
	}
	firstQuotient, _ := impl.QuotientSet(group(6), 9, 11)
	firstQuotient[0] = 71
	if second, ok := impl.QuotientSet(group(6), 9, 11); !ok || !slices.Equal(second, []int{2, 1, 0}) {
		t.Errorf("QuotientSet = %v, %t after the first result changed", second, ok)
	}
}
