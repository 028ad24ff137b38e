package tests

import (
	"math"
	"slices"
	"strconv"
	"strings"
	"testing"

	"loop.example/g03402/impl"
)

// allGroups returns the groups of all orders within the limits, in every sequence.
func allGroups() []impl.Group {
	all := []impl.Group{{}}
	for next := 0; next < len(all); next++ {
		orders := all[next].Orders
		for order := 2; len(orders) < 3 && order*sizeOf(orders) <= 24; order++ {
			all = append(all, impl.Group{Orders: append(slices.Clone(orders), order)})
		}
	}
	return all
}

func sizeOf(orders []int) int {
	size := 1
	for _, order := range orders {
		size *= order
	}
	return size
}

// noGroups returns groups that break one rule or more; some products wrap around to a small number.
func noGroups() []impl.Group {
	var all []impl.Group
	for _, orders := range [][]int{
		{0}, {1}, {-1}, {-2}, {25}, {math.MaxInt}, {math.MinInt},
		{1, 1}, {1, 2}, {2, 1}, {0, 0}, {2, 0}, {0, 25}, {-2, -3}, {-2, 3}, {5, 5}, {2, 13}, {13, 2}, {24, 2}, {24, 24}, {1, 24}, {25, 1},
		{1 << 32, 1 << 32}, {1 << 62, 4}, {3, 6148914691236517206}, {math.MinInt, 2}, {math.MinInt, -1}, {math.MaxInt, math.MaxInt},
		{1, 1, 1}, {2, 2, 1}, {1, 2, 2}, {2, 1, 2}, {2, 2, 7}, {3, 3, 3}, {2, 3, 5}, {24, 24, 24}, {-2, -2, 2}, {2, 2, 0}, {0, 0, 0}, {1 << 21, 1 << 21, 1 << 22}, {2, 2, 1 << 62},
		{2, 2, 2, 2}, {1, 1, 1, 1}, {2, 2, 2, 1}, {2, 3, 4, 1}, {2, 2, 2, 0}, {0, 0, 0, 0}, {2, 2, 2, 2, 2}, make([]int, 70),
	} {
		all = append(all, impl.Group{Orders: orders})
	}
	return all
}

// tupleOf finds the places of an element by counting up to it.
func tupleOf(orders []int, x int) []int {
	places := make([]int, len(orders))
	for range x {
		for i := range places {
			places[i]++
			if places[i] < orders[i] {
				break
			}
			places[i] = 0
		}
	}
	return places
}

func textOf(orders []int) string {
	if len(orders) == 0 {
		return "1"
	}
	text := strconv.Itoa(orders[0])
	for _, order := range orders[1:] {
		text += "x" + strconv.Itoa(order)
	}
	return text
}

func group(orders ...int) impl.Group {
	return impl.Group{Orders: orders}
}

func TestIsGroup(t *testing.T) {
	if impl.MaxOrder != 24 {
		t.Error("MaxOrder", impl.MaxOrder)
	}
	for _, g := range allGroups() {
		if !impl.IsGroup(g) || impl.OrderOf(g) != sizeOf(g.Orders) {
			t.Errorf("%v: IsGroup = %t, OrderOf = %d", g, impl.IsGroup(g), impl.OrderOf(g))
		}
	}
	for _, g := range noGroups() {
		if impl.IsGroup(g) || impl.OrderOf(g) != 0 {
			t.Errorf("%v: IsGroup = %t, OrderOf = %d", g, impl.IsGroup(g), impl.OrderOf(g))
		}
	}
}

func TestIsGroupLimits(t *testing.T) {
	for first := -3; first <= 30; first++ {
		good := first >= 2 && first <= 24
		if impl.IsGroup(group(first)) != good {
			t.Errorf("IsGroup of %d is not %t", first, good)
		}
		for second := -3; second <= 30; second++ {
			both := good && second >= 2 && first*second <= 24
			if impl.IsGroup(group(first, second)) != both {
				t.Errorf("IsGroup of %d and %d is not %t", first, second, both)
			}
			for third := -3; third <= 30; third++ {
				three := both && third >= 2 && first*second*third <= 24
				if impl.IsGroup(group(first, second, third)) != three {
					t.Errorf("IsGroup of %d, %d and %d is not %t", first, second, third, three)
				}
				if impl.IsGroup(group(first, second, third, 1)) || impl.IsGroup(group(first, second, third, 2)) {
					t.Errorf("IsGroup of four orders from %d, %d and %d", first, second, third)
				}
			}
		}
	}
}

func TestTrivialGroup(t *testing.T) {
	for _, g := range []impl.Group{{}, {Orders: []int{}}, {Orders: make([]int, 0, 5)}} {
		if !impl.IsGroup(g) || impl.OrderOf(g) != 1 || impl.ExponentOf(g) != 1 || impl.FormatGroup(g) != "1" {
			t.Errorf("%t, %d, %d, %q", impl.IsGroup(g), impl.OrderOf(g), impl.ExponentOf(g), impl.FormatGroup(g))
		}
		if len(impl.PlacesOf(g, 0)) != 0 || impl.AddElements(g, 0, 0) != 0 || impl.NegateElement(g, 0) != 0 || impl.MultipleOf(g, 0, 100) != 0 || impl.MultipleOf(g, 0, -100) != 0 || impl.OrderOfElement(g, 0) != 1 {
			t.Error("the element 0 of the trivial group")
		}
		if impl.AddElements(g, 0, 1) != -1 || impl.AddElements(g, 1, 0) != -1 || impl.NegateElement(g, 1) != -1 || impl.MultipleOf(g, 1, 0) != -1 || impl.MultipleOf(g, 0, 101) != -1 || impl.OrderOfElement(g, 1) != 0 {
			t.Error("1 is no element of the trivial group")
		}
		for _, places := range [][]int{nil, {}} {
			if x, ok := impl.ElementOf(g, places); x != 0 || !ok {
				t.Errorf("ElementOf = %d, %t", x, ok)
			}
		}
		if x, ok := impl.ElementOf(g, []int{0}); x != 0 || ok {
			t.Errorf("ElementOf of one place = %d, %t", x, ok)
		}
		if !impl.EqualGroups(g, impl.Group{}) || impl.EqualGroups(g, group(1)) || impl.EqualGroups(group(2), g) {
			t.Error("EqualGroups of the trivial group")
		}
	}
	if g, ok := impl.ParseGroup("1"); len(g.Orders) != 0 || !ok {
		t.Errorf("ParseGroup = %v, %t", g, ok)
	}
}

func TestGroupExamples(t *testing.T) {
	g := group(2, 3, 4)
	if got := impl.PlacesOf(g, 23); !slices.Equal(got, []int{1, 2, 3}) {
		t.Errorf("PlacesOf = %v", got)
	}
	if x, ok := impl.ElementOf(g, []int{1, 0, 2}); x != 1+6*2 || !ok {
		t.Errorf("ElementOf = %d, %t", x, ok)
	}
	// The places 1, 1, 3 and 1, 2, 2 have the sum 0, 0, 1.
	if got := impl.AddElements(g, 1+2*1+6*3, 1+2*2+6*2); got != 6 {
		t.Errorf("AddElements = %d", got)
	}
	if got := impl.NegateElement(g, 1+2*1+6*3); got != 1+2*2+6*1 {
		t.Errorf("NegateElement = %d", got)
	}
	if got := impl.MultipleOf(g, 1+2*1+6*3, -5); got != 1+2*1+6*1 {
		t.Errorf("MultipleOf = %d", got)
	}
	if got := impl.OrderOfElement(g, 1+2*1+6*2); got != 6 {
		t.Errorf("OrderOfElement = %d", got)
	}
	for _, c := range []struct {
		g    impl.Group
		want int
	}{{g, 12}, {group(2, 2, 2), 2}, {group(24), 24}, {group(4, 6), 12}, {group(6, 4), 12}, {group(2, 12), 12}, {group(3, 5), 15}, {group(2), 2}} {
		if got := impl.ExponentOf(c.g); got != c.want {
			t.Errorf("ExponentOf(%v) = %d, not %d", c.g, got, c.want)
		}
	}
}

func TestPlacesAndElements(t *testing.T) {
	for _, g := range allGroups() {
		for x := range sizeOf(g.Orders) {
			want := tupleOf(g.Orders, x)
			places := impl.PlacesOf(g, x)
			if !slices.Equal(places, want) {
				t.Fatalf("PlacesOf(%v, %d) = %v, not %v", g, x, places, want)
			}
			if back, ok := impl.ElementOf(g, places); back != x || !ok {
				t.Errorf("ElementOf(%v, %v) = %d, %t, not %d", g, places, back, ok, x)
			}
			for i := range places {
				for _, bad := range []int{-1, g.Orders[i], g.Orders[i] + 1, places[i] - g.Orders[i], math.MaxInt, math.MinInt} {
					changed := slices.Clone(places)
					changed[i] = bad
					if got, ok := impl.ElementOf(g, changed); got != 0 || ok {
						t.Errorf("ElementOf(%v, %v) = %d, %t", g, changed, got, ok)
					}
				}
				if got, ok := impl.ElementOf(g, places[:i]); got != 0 || ok {
					t.Errorf("ElementOf(%v, %v) = %d, %t", g, places[:i], got, ok)
				}
			}
			for _, long := range [][]int{append(slices.Clone(places), 0), append(slices.Clone(places), 0, 0, 0, 0)} {
				if got, ok := impl.ElementOf(g, long); got != 0 || ok {
					t.Errorf("ElementOf(%v, %v) = %d, %t", g, long, got, ok)
				}
			}
		}
	}
}

func TestElementsAreACommutativeGroup(t *testing.T) {
	for _, g := range allGroups() {
		size := sizeOf(g.Orders)
		sums := make([][]int, size)
		for x := range sums {
			for y := range size {
				sums[x] = append(sums[x], impl.AddElements(g, x, y))
				if sum := sums[x][y]; sum < 0 || sum >= size {
					t.Fatalf("%v: %d + %d = %d", g, x, y, sum)
				}
			}
		}
		for x := range size {
			negative := impl.NegateElement(g, x)
			if sums[x][0] != x || negative < 0 || negative >= size || sums[x][negative] != 0 {
				t.Fatalf("%v: %d + 0 = %d, and the negative is %d", g, x, sums[x][0], negative)
			}
			for y := range size {
				if sums[x][y] != sums[y][x] {
					t.Fatalf("%v: %d + %d is not commutative", g, x, y)
				}
				for z := range size {
					if sums[sums[x][y]][z] != sums[x][sums[y][z]] {
						t.Fatalf("%v: %d + %d + %d is not associative", g, x, y, z)
					}
				}
			}
		}
	}
}

func TestAddElementsPlaceByPlace(t *testing.T) {
	for _, g := range allGroups() {
		for x := range sizeOf(g.Orders) {
			for y := range sizeOf(g.Orders) {
				want := tupleOf(g.Orders, x)
				for i, place := range tupleOf(g.Orders, y) {
					want[i] = (want[i] + place) % g.Orders[i]
				}
				if got := impl.PlacesOf(g, impl.AddElements(g, x, y)); !slices.Equal(got, want) {
					t.Fatalf("%v: the sum of %d and %d has the places %v, not %v", g, x, y, got, want)
				}
			}
		}
	}
}

func TestMultiplesAndOrders(t *testing.T) {
	for _, g := range allGroups() {
		exponent := 1
		for x := range sizeOf(g.Orders) {
			sum, period := 0, 0
			for n := range 101 {
				if n > 0 && sum == 0 && period == 0 {
					period = n
				}
				if got := impl.MultipleOf(g, x, n); got != sum {
					t.Fatalf("MultipleOf(%v, %d, %d) = %d, not %d", g, x, n, got, sum)
				}
				if got := impl.MultipleOf(g, x, -n); got != impl.NegateElement(g, sum) {
					t.Fatalf("MultipleOf(%v, %d, %d) = %d, not %d", g, x, -n, got, impl.NegateElement(g, sum))
				}
				sum = impl.AddElements(g, sum, x)
			}
			if got := impl.OrderOfElement(g, x); got != period {
				t.Errorf("OrderOfElement(%v, %d) = %d, not %d", g, x, got, period)
			}
			exponent = max(exponent, period)
			for _, n := range []int{-101, 101, 200, -200, math.MaxInt, math.MinInt} {
				if got := impl.MultipleOf(g, x, n); got != -1 {
					t.Errorf("MultipleOf(%v, %d, %d) = %d", g, x, n, got)
				}
			}
		}
		// Some element of a commutative group has the exponent as its order.
		if got := impl.ExponentOf(g); got != exponent {
			t.Errorf("ExponentOf(%v) = %d, not %d", g, got, exponent)
		}
	}
}

func checkNoElement(t *testing.T, g impl.Group, x int) {
	t.Helper()
	if got := impl.PlacesOf(g, x); len(got) != 0 {
		t.Errorf("PlacesOf(%v, %d) = %v", g, x, got)
	}
	for _, y := range []int{0, x} {
		if a, b := impl.AddElements(g, x, y), impl.AddElements(g, y, x); a != -1 || b != -1 {
			t.Errorf("%v: the sums of %d and %d are %d and %d", g, x, y, a, b)
		}
	}
	if got := impl.NegateElement(g, x); got != -1 {
		t.Errorf("NegateElement(%v, %d) = %d", g, x, got)
	}
	for _, n := range []int{-101, -100, 0, 1, 100, 101} {
		if got := impl.MultipleOf(g, x, n); got != -1 {
			t.Errorf("MultipleOf(%v, %d, %d) = %d", g, x, n, got)
		}
	}
	if got := impl.OrderOfElement(g, x); got != 0 {
		t.Errorf("OrderOfElement(%v, %d) = %d", g, x, got)
	}
}

func TestNoElements(t *testing.T) {
	for _, g := range allGroups() {
		size := sizeOf(g.Orders)
		for _, x := range []int{-1, -size, size, size + 1, 2 * size, math.MaxInt, math.MinInt} {
			checkNoElement(t, g, x)
		}
	}
}

func TestNoGroups(t *testing.T) {
	for _, g := range noGroups() {
		for _, x := range []int{-1, 0, 1, 23, 24, math.MaxInt, math.MinInt} {
			checkNoElement(t, g, x)
		}
		for _, places := range [][]int{nil, {0}, {0, 0}, {0, 0, 0}, {0, 0, 0, 0}, {1, 1}, make([]int, len(g.Orders))} {
			if x, ok := impl.ElementOf(g, places); x != 0 || ok {
				t.Errorf("ElementOf(%v, %v) = %d, %t", g, places, x, ok)
			}
		}
		if impl.ExponentOf(g) != 0 || impl.FormatGroup(g) != "" {
			t.Errorf("%v: ExponentOf = %d, FormatGroup = %q", g, impl.ExponentOf(g), impl.FormatGroup(g))
		}
		text := textOf(g.Orders)
		// The text 1 stands for no orders, not for the order 1.
		if h, ok := impl.ParseGroup(text); len(h.Orders) != 0 || ok != (text == "1") {
			t.Errorf("ParseGroup(%q) = %v, %t", text, h, ok)
		}
	}
}

func TestGroupTextsAreReadBack(t *testing.T) {
	for _, g := range allGroups() {
		text := impl.FormatGroup(g)
		if text != textOf(g.Orders) {
			t.Errorf("FormatGroup(%v) = %q", g, text)
		}
		back, ok := impl.ParseGroup(text)
		if !ok || !slices.Equal(back.Orders, g.Orders) {
			t.Errorf("ParseGroup(%q) = %v, %t", text, back, ok)
		}
	}
}

// TestParseGroupAcceptsOnlyFormats tries all strings of at most five of these bytes; no text of a group is longer.
func TestParseGroupAcceptsOnlyFormats(t *testing.T) {
	const letters = "0123456x-"
	texts := map[string]impl.Group{}
	for _, g := range allGroups() {
		texts[textOf(g.Orders)] = g
	}
	all := []string{""}
	for next := 0; next < len(all); next++ {
		s := all[next]
		want, good := texts[s]
		if got, ok := impl.ParseGroup(s); ok != good || !slices.Equal(got.Orders, want.Orders) {
			t.Errorf("ParseGroup(%q) = %v, %t", s, got, ok)
		}
		for i := range len(letters) {
			if len(s) < 5 {
				all = append(all, s+letters[i:i+1])
			}
		}
	}
}

func TestParseGroupRejects(t *testing.T) {
	bad := []string{
		"", "0", "1x1", "1x2", "2x1", "01", "02", "2x02", "+2", "-2", "2x-2", " 2", "2 ", "2\n", "2\x00", "\x002", "2x", "x2", "x", "xx", "2xx3", "2x3x", "x2x3", "2x2x2x", "2x2x2x1", "2x2x2x2", "2x2x2xa",
		"25", "2x13", "24x24", "2X3", "2*3", "2,3", "2 x 3", "2\u00d73", "2x3\xff", "\xff", "\uff12", "\u0662", "a", "none", "0x2", "0x18", "1e1", "2.0", "1_2",
		"4294967296x4294967296", "18446744073709551618", "1000000002", "9223372036854775809",
		strings.Repeat("2x", 1000) + "2", strings.Repeat("x", 1000), strings.Repeat("0", 1000) + "2", strings.Repeat("1x", 3) + "1",
	}
	for _, g := range allGroups() {
		text := textOf(g.Orders)
		bad = append(bad, text+"x", "x"+text, text+" ", " "+text, text+"\x00", "0"+text, text+"x1", "1x"+text, "-"+text, text+"x25")
	}
	for _, s := range bad {
		if g, ok := impl.ParseGroup(s); len(g.Orders) != 0 || ok {
			t.Errorf("ParseGroup(%q) = %v, %t", s, g, ok)
		}
	}
}

func TestEqualGroups(t *testing.T) {
	all := append(allGroups(), noGroups()...)
	for i, g := range all {
		for j, h := range all {
			if got := impl.EqualGroups(g, h); got != (i == j) {
				t.Errorf("EqualGroups(%v, %v) = %t", g, h, got)
			}
		}
		copied := impl.Group{Orders: append(make([]int, 0, 100), g.Orders...)}
		if !impl.EqualGroups(g, copied) {
			t.Errorf("EqualGroups of %v and its copy is false", g)
		}
	}
}

// checkGroupsAreKept calls functions with groups that have unused capacity, and expects the same memory afterwards.
func checkGroupsAreKept(t *testing.T, call func(g impl.Group)) {
	t.Helper()
	for _, orders := range [][]int{{}, {24}, {2, 3}, {2, 3, 4}, {5, 5}, {2, 2, 2, 2}} {
		memory := []int{91, 92, 93, 94, 95, 96, 97, 98}
		copy(memory, orders)
		kept := slices.Clone(memory)
		call(impl.Group{Orders: memory[:len(orders)]})
		if !slices.Equal(memory, kept) {
			t.Errorf("%v: the argument became %v", orders, memory)
		}
	}
}

// overwrite changes a result and its unused capacity.
func overwrite(list []int) {
	for i := range list {
		list[i] = 71
	}
	_ = append(list, 72, 73, 74)
}

// TestGroupArgumentsAreKept calls every function with slices that have unused capacity.
func TestGroupArgumentsAreKept(t *testing.T) {
	checkGroupsAreKept(t, func(g impl.Group) {
		placeMemory := []int{0, 1, 2, 81, 82, 83}
		places := placeMemory[:min(len(g.Orders), 3)]
		impl.ElementOf(g, places)
		for _, list := range [][]int{impl.PlacesOf(g, 0), impl.PlacesOf(g, 5)} {
			overwrite(list)
		}
		impl.IsGroup(g)
		impl.OrderOf(g)
		impl.AddElements(g, 1, 2)
		impl.NegateElement(g, 1)
		impl.MultipleOf(g, 1, -7)
		impl.OrderOfElement(g, 1)
		impl.ExponentOf(g)
		impl.FormatGroup(g)
		impl.EqualGroups(g, g)
		if !slices.Equal(placeMemory, []int{0, 1, 2, 81, 82, 83}) {
			t.Errorf("%v: the places became %v", g, placeMemory)
		}
	})
	first, _ := impl.ParseGroup("2x3x4")
	first.Orders[0] = 71
	if second, ok := impl.ParseGroup("2x3x4"); !ok || !slices.Equal(second.Orders, []int{2, 3, 4}) {
		t.Errorf("ParseGroup = %v, %t after the first result changed", second, ok)
	}
}
