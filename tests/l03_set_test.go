package tests

import (
	"math"
	"slices"
	"strconv"
	"strings"
	"testing"

	"loop.example/g03402/impl"
)

// sampleSets returns all sets of a small group, and of a larger one sets of few, of most and of mixed elements.
func sampleSets(size int) []int {
	full := 1<<size - 1
	var all []int
	if size <= 7 {
		for a := range full + 1 {
			all = append(all, a)
		}
		return all
	}
	all = append(all, 0, full)
	state := uint32(size)
	for x := range size {
		all = append(all, 1<<x, full-1<<x, 1<<x-1, full-(1<<x-1), 1<<x|1<<(size-1-x))
		for range 3 {
			state = state*1664525 + 1013904223
			all = append(all, int(state>>4)&full)
		}
	}
	return all
}

// membersOf lists the elements of a set by halving its number.
func membersOf(a int) []int {
	var list []int
	for x := 0; a > 0; x++ {
		if a%2 == 1 {
			list = append(list, x)
		}
		a /= 2
	}
	return list
}

// numberOf adds the powers of 2 of the different elements of a list.
func numberOf(list []int) int {
	in := map[int]bool{}
	a := 0
	for _, x := range list {
		if !in[x] {
			in[x] = true
			a += 1 << x
		}
	}
	return a
}

func setText(list []int) string {
	if len(list) == 0 {
		return "none"
	}
	text := strconv.Itoa(list[0])
	for _, x := range list[1:] {
		text += "," + strconv.Itoa(x)
	}
	return text
}

// additionOf returns the table of the sums of a group, place by place.
func additionOf(orders []int) [][]int {
	size := sizeOf(orders)
	tuples := make([][]int, size)
	for x := range tuples {
		tuples[x] = tupleOf(orders, x)
	}
	table := make([][]int, size)
	for x := range table {
		for y := range size {
			sum := slices.Clone(tuples[x])
			for i := range sum {
				sum[i] = (sum[i] + tuples[y][i]) % orders[i]
			}
			table[x] = append(table[x], slices.IndexFunc(tuples, func(z []int) bool { return slices.Equal(z, sum) }))
		}
	}
	return table
}

func TestSetExamples(t *testing.T) {
	g := group(2, 3)
	if got := impl.FullSet(g); got != 63 {
		t.Errorf("FullSet = %d", got)
	}
	if got := impl.CountSet(g, 41); got != 3 {
		t.Errorf("CountSet = %d", got)
	}
	if got := impl.ListOf(g, 41); !slices.Equal(got, []int{0, 3, 5}) {
		t.Errorf("ListOf = %v", got)
	}
	if a, ok := impl.SetOf(g, []int{5, 0, 3}); a != 41 || !ok {
		t.Errorf("SetOf = %d, %t", a, ok)
	}
	// The places 0, 0 and 1, 1 and 1, 2 plus 1, 1 are 1, 1 and 0, 2 and 0, 0.
	if got := impl.ShiftSet(g, 41, 3); got != 1<<3|1<<4|1<<0 {
		t.Errorf("ShiftSet = %d", got)
	}
	if got := impl.NegateSet(g, 1<<2|1<<3); got != 1<<4|1<<5 {
		t.Errorf("NegateSet = %d", got)
	}
	if got := impl.DilateSet(g, 41, 2); got != 1<<0|1<<4|1<<2 {
		t.Errorf("DilateSet = %d", got)
	}
	if got := impl.FormatSet(g, 41); got != "0,3,5" {
		t.Errorf("FormatSet = %q", got)
	}
	if a, ok := impl.ParseSet(g, "0,3,5"); a != 41 || !ok {
		t.Errorf("ParseSet = %d, %t", a, ok)
	}
}

func TestSetLimits(t *testing.T) {
	for _, g := range allGroups() {
		size := sizeOf(g.Orders)
		full := 1<<size - 1
		if got := impl.FullSet(g); got != full {
			t.Errorf("FullSet(%v) = %d, not %d", g, got, full)
		}
		if !impl.IsSet(g, 0) || !impl.IsSet(g, 1) || !impl.IsSet(g, full) || impl.CountSet(g, full) != size {
			t.Errorf("%v: the sets 0, 1 and %d", g, full)
		}
		if got := impl.ListOf(g, full); len(got) != size || got[size-1] != size-1 {
			t.Errorf("ListOf(%v, %d) = %v", g, full, got)
		}
		for _, a := range []int{-1, -full, -full - 1, full + 1, full + 2, 2*full + 1, 1 << 24, 1 << 32, 1 << 62, math.MaxInt, math.MinInt} {
			checkNoSet(t, g, a)
		}
	}
}

func checkNoSet(t *testing.T, g impl.Group, a int) {
	t.Helper()
	if impl.IsSet(g, a) || impl.CountSet(g, a) != -1 || len(impl.ListOf(g, a)) != 0 || impl.NegateSet(g, a) != -1 || impl.FormatSet(g, a) != "" {
		t.Errorf("%v, %d: IsSet = %t, CountSet = %d, ListOf = %v, NegateSet = %d, FormatSet = %q", g, a, impl.IsSet(g, a), impl.CountSet(g, a), impl.ListOf(g, a), impl.NegateSet(g, a), impl.FormatSet(g, a))
	}
	for _, n := range []int{-1, 0, 1, 24, math.MaxInt, math.MinInt} {
		if got := impl.ShiftSet(g, a, n); got != -1 {
			t.Errorf("ShiftSet(%v, %d, %d) = %d", g, a, n, got)
		}
	}
	for _, n := range []int{-101, -100, -1, 0, 1, 100, 101, math.MaxInt, math.MinInt} {
		if got := impl.DilateSet(g, a, n); got != -1 {
			t.Errorf("DilateSet(%v, %d, %d) = %d", g, a, n, got)
		}
	}
}

func TestSetsOfNoGroup(t *testing.T) {
	for _, g := range noGroups() {
		if got := impl.FullSet(g); got != 0 {
			t.Errorf("FullSet(%v) = %d", g, got)
		}
		for _, a := range []int{-1, 0, 1, 2, 3, 1<<24 - 1, 1 << 24, math.MaxInt, math.MinInt} {
			checkNoSet(t, g, a)
		}
		for _, list := range [][]int{nil, {}, {0}, {0, 1}, {0, 0}, {-1}, {24}} {
			if a, ok := impl.SetOf(g, list); a != 0 || ok {
				t.Errorf("SetOf(%v, %v) = %d, %t", g, list, a, ok)
			}
		}
		for _, s := range []string{"", "none", "0", "0,1", "1", "23", "24", "-1", ","} {
			if a, ok := impl.ParseSet(g, s); a != 0 || ok {
				t.Errorf("ParseSet(%v, %q) = %d, %t", g, s, a, ok)
			}
		}
	}
}

func TestEmptySet(t *testing.T) {
	for _, g := range allGroups() {
		if !impl.IsSet(g, 0) || impl.CountSet(g, 0) != 0 || len(impl.ListOf(g, 0)) != 0 || impl.NegateSet(g, 0) != 0 || impl.FormatSet(g, 0) != "none" {
			t.Errorf("%v: IsSet = %t, CountSet = %d, ListOf = %v, NegateSet = %d, FormatSet = %q", g, impl.IsSet(g, 0), impl.CountSet(g, 0), impl.ListOf(g, 0), impl.NegateSet(g, 0), impl.FormatSet(g, 0))
		}
		for _, list := range [][]int{nil, {}, make([]int, 0, 9)} {
			if a, ok := impl.SetOf(g, list); a != 0 || !ok {
				t.Errorf("SetOf(%v, %v) = %d, %t", g, list, a, ok)
			}
		}
		if a, ok := impl.ParseSet(g, "none"); a != 0 || !ok {
			t.Errorf("ParseSet(%v, none) = %d, %t", g, a, ok)
		}
		for x := range sizeOf(g.Orders) {
			if got := impl.ShiftSet(g, 0, x); got != 0 {
				t.Errorf("ShiftSet(%v, 0, %d) = %d", g, x, got)
			}
		}
		for n := -100; n <= 100; n++ {
			if got := impl.DilateSet(g, 0, n); got != 0 {
				t.Errorf("DilateSet(%v, 0, %d) = %d", g, n, got)
			}
		}
	}
}

func TestListsOfSets(t *testing.T) {
	for _, g := range allGroups() {
		for _, a := range sampleSets(sizeOf(g.Orders)) {
			want := membersOf(a)
			if !impl.IsSet(g, a) || impl.CountSet(g, a) != len(want) {
				t.Errorf("%v, %d: IsSet = %t, CountSet = %d", g, a, impl.IsSet(g, a), impl.CountSet(g, a))
			}
			list := impl.ListOf(g, a)
			if !slices.Equal(list, want) {
				t.Fatalf("ListOf(%v, %d) = %v, not %v", g, a, list, want)
			}
			if back, ok := impl.SetOf(g, list); back != a || !ok {
				t.Errorf("SetOf(%v, %v) = %d, %t, not %d", g, list, back, ok, a)
			}
		}
	}
}

func TestSetOfListsInAnyOrder(t *testing.T) {
	for _, g := range allGroups() {
		size := sizeOf(g.Orders)
		for _, a := range sampleSets(size) {
			list := membersOf(a)
			slices.Reverse(list)
			checkList(t, g, list, a)
			for turn := range len(list) {
				checkList(t, g, slices.Concat(list[turn:], list[:turn]), a)
			}
			for i := range list {
				checkList(t, g, append(slices.Clone(list), list[i]), -1)
				checkList(t, g, append([]int{list[i]}, list...), -1)
			}
			for _, x := range []int{-1, size, size + 1, -size, 63, 64, 65, math.MaxInt, math.MinInt} {
				checkList(t, g, append(slices.Clone(list), x), -1)
				checkList(t, g, append([]int{x}, list...), -1)
			}
		}
		checkList(t, g, make([]int, 1000), -1)
	}
}

// checkList expects that SetOf returns the set want, or fails if that is -1.
func checkList(t *testing.T, g impl.Group, list []int, want int) {
	t.Helper()
	if a, ok := impl.SetOf(g, list); a != max(want, 0) || ok != (want >= 0) {
		t.Errorf("SetOf(%v, %v) = %d, %t, not %d", g, list, a, ok, want)
	}
}

func TestShifts(t *testing.T) {
	for _, g := range allGroups() {
		size := sizeOf(g.Orders)
		sums := additionOf(g.Orders)
		for _, a := range sampleSets(size) {
			for x := range size {
				var moved []int
				for _, y := range membersOf(a) {
					moved = append(moved, sums[x][y])
				}
				got := impl.ShiftSet(g, a, x)
				if got != numberOf(moved) {
					t.Fatalf("ShiftSet(%v, %d, %d) = %d, not %d", g, a, x, got, numberOf(moved))
				}
				if impl.CountSet(g, got) != len(membersOf(a)) {
					t.Errorf("ShiftSet(%v, %d, %d) has another number of elements", g, a, x)
				}
				if back := impl.ShiftSet(g, got, impl.NegateElement(g, x)); back != a {
					t.Errorf("%v: the set %d, shifted by %d and back, is %d", g, a, x, back)
				}
			}
			for _, x := range []int{-1, -size, size, size + 1, math.MaxInt, math.MinInt} {
				if got := impl.ShiftSet(g, a, x); got != -1 {
					t.Errorf("ShiftSet(%v, %d, %d) = %d", g, a, x, got)
				}
			}
		}
	}
}

func TestNegativesAndDilates(t *testing.T) {
	for _, g := range allGroups() {
		size := sizeOf(g.Orders)
		sums := additionOf(g.Orders)
		for _, a := range sampleSets(size) {
			members := membersOf(a)
			negative := impl.NegateSet(g, a)
			if impl.CountSet(g, negative) != len(members) || impl.NegateSet(g, negative) != a || impl.DilateSet(g, a, -1) != negative {
				t.Fatalf("NegateSet(%v, %d) = %d", g, a, negative)
			}
			for _, x := range members {
				if !slices.Contains(membersOf(negative), slices.Index(sums[x], 0)) {
					t.Fatalf("NegateSet(%v, %d) = %d without the negative of %d", g, a, negative, x)
				}
			}
			multiples := make([]int, len(members))
			for n := range 101 {
				want := numberOf(multiples)
				if got := impl.DilateSet(g, a, n); got != want {
					t.Fatalf("DilateSet(%v, %d, %d) = %d, not %d", g, a, n, got, want)
				}
				if got := impl.DilateSet(g, a, -n); got != impl.NegateSet(g, want) {
					t.Fatalf("DilateSet(%v, %d, %d) = %d", g, a, -n, got)
				}
				for i, x := range members {
					multiples[i] = sums[multiples[i]][x]
				}
			}
			for _, n := range []int{-102, -101, 101, 102, math.MaxInt, math.MinInt} {
				if got := impl.DilateSet(g, a, n); got != -1 {
					t.Errorf("DilateSet(%v, %d, %d) = %d", g, a, n, got)
				}
			}
		}
	}
}

func TestSetTextsAreReadBack(t *testing.T) {
	for _, g := range allGroups() {
		for _, a := range sampleSets(sizeOf(g.Orders)) {
			text := impl.FormatSet(g, a)
			if text != setText(membersOf(a)) {
				t.Errorf("FormatSet(%v, %d) = %q", g, a, text)
			}
			if back, ok := impl.ParseSet(g, text); back != a || !ok {
				t.Errorf("ParseSet(%v, %q) = %d, %t, not %d", g, text, back, ok, a)
			}
		}
	}
}

// checkSetText compares ParseSet with a reading that knows the text of each element.
func checkSetText(t *testing.T, g impl.Group, s string) {
	t.Helper()
	size := sizeOf(g.Orders)
	want, good, last := 0, true, -1
	for text := range strings.SplitSeq(s, ",") {
		x := last + 1
		for x < size && strconv.Itoa(x) != text {
			x++
		}
		good = good && x < size
		want |= 1 << x
		last = x
	}
	if s == "none" {
		good, want = true, 0
	}
	if !good {
		want = 0
	}
	if a, ok := impl.ParseSet(g, s); a != want || ok != good {
		t.Errorf("ParseSet(%v, %q) = %d, %t, not %d, %t", g, s, a, ok, want, good)
	}
}

// TestParseSetAcceptsOnlyFormats tries all strings of at most five of these bytes.
func TestParseSetAcceptsOnlyFormats(t *testing.T) {
	const letters = "012349,-+"
	all := []string{""}
	for next := 0; next < len(all); next++ {
		for i := range len(letters) {
			if len(all[next]) < 5 {
				all = append(all, all[next]+letters[i:i+1])
			}
		}
	}
	for _, g := range []impl.Group{group(), group(2), group(5), group(2, 2), group(10), group(11), group(3, 4), group(24), group(2, 3, 4)} {
		for _, s := range all {
			checkSetText(t, g, s)
		}
	}
}

func TestParseSetOfChangedTexts(t *testing.T) {
	for _, g := range []impl.Group{group(), group(2), group(4), group(2, 3), group(12), group(24), group(2, 2, 6)} {
		for _, a := range sampleSets(sizeOf(g.Orders)) {
			s := setText(membersOf(a))
			for i := range len(s) + 1 {
				checkSetText(t, g, s[:i])
				checkSetText(t, g, s[i:])
				for _, c := range []string{"0", "1", "2", "9", ",", "-", "+", " ", "x", "n", "\x00", "\n", "\xff", "\u0661"} {
					checkSetText(t, g, s[:i]+c+s[i:])
					checkSetText(t, g, s[:i]+c+s[min(i+1, len(s)):])
				}
			}
		}
	}
}

func TestParseSetRejects(t *testing.T) {
	for _, g := range allGroups() {
		last := strconv.Itoa(sizeOf(g.Orders) - 1)
		behind := strconv.Itoa(sizeOf(g.Orders))
		for _, s := range []string{
			"", ",", ",,", "0,", ",0", "0,,1", "0,1,", " 0", "0 ", "0, 1", "00", "01", "0,01", "+0", "-0", "-1", "0,-1", "0;1", "0x1", "0.", "1,0", "2,1", "0,0", "1,1", "0,1,1", "0,1,0",
			"None", "NONE", "none ", " none", "none,", ",none", "none,0", "0,none", "nonenone", "non", "no", "{}", "empty",
			behind, "0," + behind, last + "," + last, last + ",0,", last + "," + behind, "-" + last + ",0", "0" + last, last + "\x00", last + "\n", last + " ", "+" + last,
			"63", "64", "65", "4294967296", "18446744073709551616", "999999999", "1000000000", "9223372036854775807", "-9223372036854775808",
			"\xff", "\u0660", "\uff10", "0\u201a1", "0\u060c1", strings.Repeat("0,", 30) + "1", strings.Repeat(",", 1000), strings.Repeat("0", 1000), strings.Repeat("0,", 1000),
		} {
			if a, ok := impl.ParseSet(g, s); a != 0 || ok {
				t.Errorf("ParseSet(%v, %q) = %d, %t", g, s, a, ok)
			}
		}
		members := membersOf(1<<sizeOf(g.Orders) - 1)
		for _, s := range []string{setText(append(members, sizeOf(g.Orders))), setText(append([]int{-1}, members...)), setText(append(members, 0))} {
			if a, ok := impl.ParseSet(g, s); a != 0 || ok {
				t.Errorf("ParseSet(%v, %q) = %d, %t", g, s, a, ok)
			}
		}
	}
}

// TestSetArgumentsAreKept calls every function with slices that have unused capacity.
func TestSetArgumentsAreKept(t *testing.T) {
	checkGroupsAreKept(t, func(g impl.Group) {
		lists := []int{5, 0, 3, 81, 82, 83}
		impl.SetOf(g, lists[:3])
		impl.SetOf(g, lists[1:2])
		for _, list := range [][]int{impl.ListOf(g, 0), impl.ListOf(g, 1), impl.ListOf(g, 41)} {
			overwrite(list)
		}
		impl.IsSet(g, 1)
		impl.FullSet(g)
		impl.CountSet(g, 1)
		impl.ShiftSet(g, 1, 0)
		impl.NegateSet(g, 1)
		impl.DilateSet(g, 1, -7)
		impl.FormatSet(g, 1)
		impl.ParseSet(g, "0,1")
		if !slices.Equal(lists, []int{5, 0, 3, 81, 82, 83}) {
			t.Errorf("%v: the lists became %v", g, lists)
		}
	})
	first := impl.ListOf(group(6), 41)
	first[0] = 71
	if second := impl.ListOf(group(6), 41); !slices.Equal(second, []int{0, 3, 5}) {
		t.Errorf("ListOf = %v after the first result changed", second)
	}
}
