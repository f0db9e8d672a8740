package tests

import (
	"slices"
	"testing"

	"loop.example/g01230/impl"
)

// keepsList calls a function with a list that has spare capacity, and sees that nothing of it is
// changed.
func keepsList(t *testing.T, name string, list []impl.Vector, call func(given []impl.Vector)) {
	t.Helper()
	given, whole := withSpare(list)
	before := slices.Clone(whole)
	call(given)
	if !slices.Equal(whole, before) {
		t.Errorf("%s changed %v to %v", name, before, whole)
	}
}

// reports sees what a function says of a list, and that it keeps the list.
func reports(t *testing.T, name string, function func(h impl.Hopf, list []impl.Vector) (bool, int64), x hopfSpace, want bool) {
	t.Helper()
	keepsList(t, name, x.list, func(given []impl.Vector) {
		if got, code := function(x.h, given); got != want || code != impl.ErrNone {
			t.Errorf("%s(%v, %v) = %v, %d", name, x.h, x.list, got, code)
		}
	})
}

// inclusion leads a basis to the vectors of a list.
func inclusion(list []impl.Vector) impl.Linear {
	var f impl.Linear
	copy(f[:], list)
	return f
}

// checkSub returns whether a list spans a sub Hopf algebra. Its table is told by the map into h.
func checkSub(t *testing.T, h impl.Hopf, list []impl.Vector) bool {
	t.Helper()
	space := spaceIn(h, list)
	want := plainIsSub(h, space)
	reports(t, "IsSubHopf", impl.IsSubHopf, hopfSpace{h, list}, want)
	keepsList(t, "SubHopf", list, func(given []impl.Vector) {
		sub, code := impl.SubHopf(h, given)
		switch {
		case !want && (sub != impl.Hopf{} || code != impl.ErrState):
			t.Errorf("SubHopf(%v, %v) = %v, %d", h, list, sub, code)
		case want && (code != impl.ErrNone || sub.Size != int64(len(space)) || !impl.IsHopf(sub)):
			t.Errorf("SubHopf(%v, %v) = %v, %d", h, list, sub, code)
		case want && !plainIsMap(sub, h, inclusion(space)):
			t.Errorf("SubHopf(%v, %v) = %v does not lie in it", h, list, sub)
		}
	})
	return want
}

// generatedIn calls GeneratedSub, which has to return a sub Hopf algebra that has a list.
func generatedIn(t *testing.T, h impl.Hopf, list []impl.Vector) []impl.Vector {
	t.Helper()
	var got []impl.Vector
	var code int64
	keepsList(t, "GeneratedSub", list, func(given []impl.Vector) { got, code = impl.GeneratedSub(h, given) })
	if code != impl.ErrNone || !isReduced(got) || !plainHasAll(h.Prime, got, list) || !plainIsSub(h, got) {
		t.Fatalf("GeneratedSub(%v, %v) = %v, %d", h, list, got, code)
	}
	return got
}

func TestEverySpaceIsThereOnce(t *testing.T) {
	for _, x := range [][3]int64{{2, 1, 2}, {31, 1, 2}, {31, 2, 34}, {2, 3, 16}, {2, 4, 67}, {3, 4, 212}, {5, 3, 64}, {2, 5, 374}} {
		seen := map[[8]impl.Vector]bool{}
		for _, space := range everySpace(x[0], x[1]) {
			if !isReduced(space) {
				t.Errorf("%v is not reduced", space)
			}
			seen[inclusion(space)] = true
		}
		if int64(len(seen)) != x[2] || countSpaces(x[0], x[1]) != float64(x[2]) {
			t.Errorf("there are %d spaces for %v, and %v are counted", len(seen), x, countSpaces(x[0], x[1]))
		}
	}
}

func TestLegs(t *testing.T) {
	var s numbers
	sizes := map[int]int{}
	for _, h := range everyHopfForIntegrals() {
		p, n := h.Prime, h.Size
		for _, v := range []impl.Vector{{}, h.Unit, basis(0), basis(n - 1), basis(n / 2), s.vector(p, n), s.vector(2, n)} {
			got, code := impl.LegsOf(h, v)
			if want := spaceIn(h, plainLegs(h, v)); !slices.Equal(got, want) || code != impl.ErrNone {
				t.Errorf("LegsOf(%v, %v) = %v, %d, not %v", h, v, got, code, want)
			}
			// By the Counit, v is a sum of its legs.
			if !plainHas(p, got, v) {
				t.Errorf("LegsOf(%v, %v) = %v", h, v, got)
			}
			sizes[len(got)]++
		}
	}
	for size := range 9 {
		if sizes[size] < 5 {
			t.Errorf("the numbers of legs are %v", sizes)
		}
	}
}

func TestLegsThatAreKnown(t *testing.T) {
	sweedler, c8, d3, one := sweedlerHopf(5), groupHopf(cyclic(31, 8)), groupHopf(dihedral(2, 3)), groupHopf(cyclic(2, 1))
	tests := []struct {
		h    impl.Hopf
		v    impl.Vector
		want []impl.Vector
	}{
		{one, impl.Vector{}, nil},
		{one, impl.Vector{1}, []impl.Vector{{1}}},
		{sweedler, impl.Vector{}, nil},
		{sweedler, basis(1), []impl.Vector{basis(1)}},
		{sweedler, impl.Vector{3, 4}, []impl.Vector{basis(0), basis(1)}},
		// The right legs of x are 1 and x, the left ones g and x.
		{sweedler, basis(2), []impl.Vector{basis(0), basis(1), basis(2)}},
		{sweedler, basis(3), []impl.Vector{basis(0), basis(1), basis(3)}},
		{sweedler, impl.Vector{0, 0, 1, 2}, []impl.Vector{basis(0), basis(1), basis(2), basis(3)}},
		{c8, impl.Vector{0, 7, 0, 0, 0, 0, 0, 30}, []impl.Vector{basis(1), basis(7)}},
		{plainDualHopf(d3), basis(0), wholeSpace(d3)},
		{plainDualHopf(d3), impl.Vector{1, 1, 1}, []impl.Vector{{1, 1, 1}, {0, 0, 0, 1, 1, 1}}},
		{lineHopf(7, 0), impl.Vector{0, 0, 3}, []impl.Vector{basis(0), basis(1), basis(2)}},
		{lineHopf(2, 1), basis(1), []impl.Vector{basis(0), basis(1)}},
	}
	for _, x := range tests {
		got, code := impl.LegsOf(x.h, x.v)
		if !slices.Equal(got, x.want) || code != impl.ErrNone {
			t.Errorf("LegsOf(%v, %v) = %v, %d", x.h, x.v, got, code)
		}
	}
}

// The legs of all vectors of a space are in it just if it is a subcoalgebra of chapter 2.
func TestLegsTellSubcoalgebras(t *testing.T) {
	seen := map[bool]int{}
	for _, x := range someSpaces() {
		want := true
		for _, v := range x.list {
			legs, _ := impl.LegsOf(x.h, v)
			want = want && plainHasAll(x.h.Prime, x.list, legs)
		}
		seen[want]++
		if got, code := impl.IsSubcoalgebra(coalgebraIn(x.h), x.list); got != want || code != impl.ErrNone {
			t.Errorf("IsSubcoalgebra(%v, %v) = %v, %d", x.h, x.list, got, code)
		}
	}
	if seen[true] < 100 || seen[false] < 100 {
		t.Errorf("spaces: %v", seen)
	}
}

func TestSubHopfAlgebrasAmongAllSpaces(t *testing.T) {
	hopfs, sizes := hopfsWithFewSpaces(1200), map[int]int{}
	if len(hopfs) < 40 {
		t.Fatalf("only %d Hopf algebras", len(hopfs))
	}
	for _, h := range hopfs {
		var subs [][]impl.Vector
		for _, space := range everySpace(h.Prime, h.Size) {
			if checkSub(t, h, space) {
				subs = append(subs, space)
				sizes[len(space)]++
			}
		}
		checkLeast(t, h, subs)
	}
	if sizes[0] != 0 || sizes[1] != len(hopfs) || sizes[2] < 10 || sizes[4] < 10 {
		t.Errorf("sizes of sub Hopf algebras: %v", sizes)
	}
}

// checkLeast sees that the sub Hopf algebra with a list lies in all others that have it, all of which
// are given.
func checkLeast(t *testing.T, h impl.Hopf, subs [][]impl.Vector) {
	t.Helper()
	var s numbers
	for i, v := range append(wholeSpace(h), impl.Vector{}, s.vector(h.Prime, h.Size), s.vector(h.Prime, h.Size), s.vector(2, h.Size)) {
		list := []impl.Vector{v}
		if i%2 == 1 {
			list = append(list, s.vector(2, h.Size))
		}
		got := generatedIn(t, h, list)
		for _, sub := range subs {
			if plainHasAll(h.Prime, sub, list) && !plainHasAll(h.Prime, sub, got) {
				t.Errorf("GeneratedSub(%v, %v) = %v, but there is %v", h, list, got, sub)
			}
		}
	}
}

func TestSubHopfAlgebrasAmongSomeSpaces(t *testing.T) {
	seen := map[bool]int{}
	for _, x := range someSpaces() {
		seen[checkSub(t, x.h, x.list)]++
		got := generatedIn(t, x.h, x.list)
		if want := plainGenerated(x.h, x.list); !slices.Equal(got, want) {
			t.Errorf("GeneratedSub(%v, %v) = %v, not %v", x.h, x.list, got, want)
		}
		if again := generatedIn(t, x.h, got); !slices.Equal(again, got) {
			t.Errorf("GeneratedSub(%v, %v) = %v", x.h, got, again)
		}
	}
	if seen[true] < 200 || seen[false] < 1000 {
		t.Errorf("spaces: %v", seen)
	}
}

// Promise 7: generated sub Hopf algebras have sizes that divide. Their tables are Hopf algebras.
func TestSizesOfGeneratedSubsDivide(t *testing.T) {
	var s numbers
	sizes := map[[2]int64]int{}
	for _, x := range everyNamedHopf() {
		h, n := x.h, x.h.Size
		legs, _ := impl.LegsOf(h, basis(n-1))
		lists := [][]impl.Vector{
			nil, {{}}, {h.Unit}, {basis(1 % n)}, {basis(n / 2)}, {basis(n - 1)}, {basis(n / 2), basis(n - 1)},
			{s.vector(h.Prime, n)}, {s.vector(2, n)}, legs, {leftOf(t, h), {}}, wholeSpace(h),
		}
		for _, list := range lists {
			got := generatedIn(t, h, list)
			size := int64(len(got))
			sizes[[2]int64{n, size}]++
			if size == 0 || n%size != 0 {
				t.Errorf("%s for %d: GeneratedSub of %v has the size %d", x.name, h.Prime, list, size)
			}
			if ok, code := impl.IsSubHopf(h, got); !ok || code != impl.ErrNone {
				t.Errorf("%s for %d: IsSubHopf(%v) = %v, %d", x.name, h.Prime, got, ok, code)
			}
			sub, code := impl.SubHopf(h, got)
			if code != impl.ErrNone || sub.Size != size || !impl.IsHopf(sub) || !plainIsMap(sub, h, inclusion(got)) {
				t.Errorf("%s for %d: SubHopf(%v) = %v, %d", x.name, h.Prime, got, sub, code)
			}
		}
	}
	for _, size := range [][2]int64{{1, 1}, {2, 1}, {4, 2}, {6, 2}, {6, 3}, {7, 1}, {7, 7}, {8, 1}, {8, 2}, {8, 4}, {8, 8}} {
		if sizes[size] < 3 {
			t.Errorf("no sizes %v among %v", size, sizes)
		}
	}
}

// The least and the greatest sub Hopf algebra, of each Hopf algebra.
func TestMultiplesOfTheUnitAndWholeHopfAlgebras(t *testing.T) {
	for _, h := range everyHopfForIntegrals() {
		one := spaceIn(h, []impl.Vector{h.Unit})
		trivial := impl.Hopf{
			Prime: h.Prime, Size: 1, Mul: impl.Table{{{1}}}, Com: impl.Table{{{1}}}, Antipode: impl.Linear{{1}},
			Unit: impl.Vector{1}, Counit: impl.Vector{1},
		}
		// The reduced list has a multiple of the Unit, if that does not begin with 1.
		x := int64(h.Unit[firstOf(h.Unit)])
		back := plainPower(h.Prime, x, h.Prime-2)
		trivial.Mul[0][0][0], trivial.Counit[0] = byte(back), byte(back)
		trivial.Unit[0], trivial.Com[0][0][0] = byte(x), byte(x)
		for _, list := range [][]impl.Vector{nil, {}, {{}}, {h.Unit}, {{}, timesNumber(h.Prime, h.Prime-1, h.Unit)}} {
			if got := generatedIn(t, h, list); !slices.Equal(got, one) {
				t.Errorf("GeneratedSub(%v, %v) = %v", h, list, got)
			}
		}
		if sub, code := impl.SubHopf(h, one); sub != trivial || code != impl.ErrNone {
			t.Errorf("SubHopf(%v, %v) = %v, %d, not %v", h, one, sub, code, trivial)
		}
		if sub, code := impl.SubHopf(h, wholeSpace(h)); sub != h || code != impl.ErrNone {
			t.Errorf("SubHopf(%v, ..) = %v, %d", h, sub, code)
		}
		if got := generatedIn(t, h, wholeSpace(h)); !slices.Equal(got, wholeSpace(h)) {
			t.Errorf("GeneratedSub(%v, ..) = %v", h, got)
		}
		for _, list := range [][]impl.Vector{nil, {}, {{}}, {{}, {}, {}}} {
			if checkSub(t, h, list) {
				t.Errorf("the space of zeros of %v is a sub Hopf algebra", h)
			}
		}
	}
}

// Sub Hopf algebras of group algebras are those of subgroups, and no set of numbers that is none
// spans one.
func TestSubHopfAlgebrasOfGroupAlgebras(t *testing.T) {
	for at, table := range groupTables() {
		n := int64(len(table))
		h := groupHopf(algebraOfTable(primes()[at%11], table))
		for i := range n {
			for j := range n {
				want := vectorsAt(subgroupOf(table, i, j))
				if got := generatedIn(t, h, []impl.Vector{basis(i), basis(j)}); !slices.Equal(got, want) {
					t.Errorf("GeneratedSub(%v, %d and %d) = %v", h, i, j, got)
				}
				// A sum of both has both as legs.
				if got := generatedIn(t, h, []impl.Vector{sumOf(h.Prime, basis(i), 1, basis(j))}); i != j && !slices.Equal(got, want) {
					t.Errorf("GeneratedSub(%v, the sum of %d and %d) = %v", h, i, j, got)
				}
			}
		}
		for set := range 1 << n {
			var members []int64
			for i := range n {
				if set>>i%2 == 1 {
					members = append(members, i)
				}
			}
			want := slices.Equal(members, subgroupOf(table, members...))
			if got, code := impl.IsSubHopf(h, vectorsAt(members)); got != want || code != impl.ErrNone {
				t.Errorf("IsSubHopf(%v, %v) = %v, %d", h, members, got, code)
			}
		}
	}
}

// Sub Hopf algebras of functions are those of functions on groups of cosets.
func TestSubHopfAlgebrasOfFunctions(t *testing.T) {
	seen := map[bool]int{}
	for at, table := range groupTables() {
		n := int64(len(table))
		h := plainDualHopf(groupHopf(algebraOfTable(primes()[at%11], table)))
		for i := range n {
			for j := range n {
				members := subgroupOf(table, i, j)
				want := isNormalSubgroup(table, members)
				seen[want]++
				list := sumsOverCosets(table, members)
				if got := checkSub(t, h, list); got != want {
					t.Errorf("IsSubHopf(%v, %v) = %v", h, list, got)
				}
				if size := len(generatedIn(t, h, list)) * len(members); want != (size == int(n)) {
					t.Errorf("GeneratedSub(%v, %v) has the size %d", h, list, size/len(members))
				}
			}
		}
	}
	if seen[true] < 100 || seen[false] < 20 {
		t.Errorf("subgroups: %v", seen)
	}
}

func TestGeneratedSubsThatAreKnown(t *testing.T) {
	sweedler, c8, on6, double := sweedlerHopf(5), groupHopf(cyclic(2, 8)), plainDualHopf(groupHopf(cyclic(31, 6))), doubleHopf(31)
	skew := skewHopf(skewKind{13, 4, 5, 2, 0})
	tests := []struct {
		name string
		h    impl.Hopf
		list []impl.Vector
		want []impl.Vector
	}{
		{"g", sweedler, []impl.Vector{basis(1)}, []impl.Vector{basis(0), basis(1)}},
		{"g as a part of a sum", sweedler, []impl.Vector{{2, 3}}, []impl.Vector{basis(0), basis(1)}},
		{"x", sweedler, []impl.Vector{basis(2)}, wholeSpace(sweedler)},
		{"g x", sweedler, []impl.Vector{basis(3)}, wholeSpace(sweedler)},
		{"the square of the generator", c8, []impl.Vector{basis(2)}, vectorsAt([]int64{0, 2, 4, 6})},
		{"a power the order of which is 8", c8, []impl.Vector{basis(3)}, wholeSpace(c8)},
		{"4 and 2", c8, []impl.Vector{basis(4), basis(6)}, vectorsAt([]int64{0, 2, 4, 6})},
		{"functions of remainders by 2", on6, []impl.Vector{{1, 0, 1, 0, 1}}, []impl.Vector{{1, 0, 1, 0, 1}, {0, 1, 0, 1, 0, 1}}},
		{"functions of remainders by 3", on6, []impl.Vector{{1, 0, 0, 1}}, []impl.Vector{{1, 0, 0, 1}, {0, 1, 0, 0, 1}, {0, 0, 1, 0, 0, 1}}},
		{"a character", on6, []impl.Vector{{1, 30, 1, 30, 1, 30}}, []impl.Vector{{1, 0, 1, 0, 1}, {0, 1, 0, 1, 0, 1}}},
		{"both", on6, []impl.Vector{{1, 0, 1, 0, 1}, {1, 0, 0, 1}}, wholeSpace(on6)},
		{"a primitive vector", lineHopf(7, 0), []impl.Vector{{0, 6}}, wholeSpace(lineHopf(7, 0))},
		{"x of the double one", double, []impl.Vector{basis(2)}, vectorsAt([]int64{0, 1, 2, 3})},
		{"y", double, []impl.Vector{basis(4)}, vectorsAt([]int64{0, 1, 4, 5})},
		{"x and twice y", double, []impl.Vector{{0, 0, 1, 0, 2}}, []impl.Vector{basis(0), basis(1), {0, 0, 1, 0, 2}, {0, 0, 0, 1, 0, 2}}},
		{"x y", double, []impl.Vector{basis(6)}, wholeSpace(double)},
		{"x and y", double, []impl.Vector{basis(2), basis(4)}, wholeSpace(double)},
		// The coproduct of x has the square of g, and not g.
		{"x with the square of g", skew, []impl.Vector{basis(4)}, []impl.Vector{basis(0), basis(2), basis(4), basis(6)}},
	}
	for _, x := range tests {
		if got := generatedIn(t, x.h, x.list); !slices.Equal(got, x.want) {
			t.Errorf("%s: GeneratedSub = %v", x.name, got)
		}
	}
}

// Primitive and group-like vectors generate their powers.
func TestGeneratedByPrimitivesAndGroupLikes(t *testing.T) {
	seen := map[string]int{}
	for _, h := range integralHopfs() {
		c := coalgebraIn(h)
		primitives, _ := impl.PrimitiveSpace(c, h.Unit, h.Unit)
		for _, v := range primitives {
			got := generatedIn(t, h, []impl.Vector{v})
			seen["primitive"]++
			if want := powersIn(h, v); !slices.Equal(got, want) || int64(len(got))%h.Prime != 0 {
				t.Errorf("GeneratedSub(%v, %v) = %v, not %v", h, v, got, want)
			}
		}
		groups, _ := impl.GroupLikes(c)
		for _, v := range groups {
			got := generatedIn(t, h, []impl.Vector{v})
			seen["group-like"]++
			if want := powersIn(h, v); !slices.Equal(got, want) {
				t.Errorf("GeneratedSub(%v, %v) = %v, not %v", h, v, got, want)
			}
		}
		if all := generatedIn(t, h, groups); len(groups) > 0 && len(all) != len(groups) {
			t.Errorf("the %d group-like vectors of %v generate %v", len(groups), h, all)
		}
	}
	if seen["primitive"] < 20 || seen["group-like"] < 100 {
		t.Errorf("samples: %v", seen)
	}
}

func TestTablesOfSubsThatAreKnown(t *testing.T) {
	sweedler, double, c6, d4 := sweedlerHopf(31), doubleHopf(31), groupHopf(cyclic(5, 6)), groupHopf(dihedral(3, 4))
	moved := shearedHopf(groupHopf(cyclic(5, 2)), 1, 0)
	tests := []struct {
		name string
		h    impl.Hopf
		list []impl.Vector
		want impl.Hopf
	}{
		{"1 and g", sweedler, []impl.Vector{basis(0), basis(1)}, groupHopf(cyclic(31, 2))},
		{"1 and g told in other ways", sweedler, []impl.Vector{{}, {3, 4}, {0, 7}, {5}, {5, 5}}, groupHopf(cyclic(31, 2))},
		{"g and x", double, vectorsAt([]int64{0, 1, 2, 3}), sweedlerHopf(31)},
		{"g and y", double, vectorsAt([]int64{5, 4, 1, 0, 4}), sweedlerHopf(31)},
		{"g and x + y", double, []impl.Vector{{1}, {0, 1}, {0, 0, 1, 0, 1}, {0, 0, 0, 1, 0, 1}}, sweedlerHopf(31)},
		{"the third powers", c6, vectorsAt([]int64{0, 3}), groupHopf(cyclic(5, 2))},
		{"the squares", c6, vectorsAt([]int64{0, 2, 4}), groupHopf(cyclic(5, 3))},
		{"rotations", d4, vectorsAt([]int64{0, 1, 2, 3}), groupHopf(cyclic(3, 4))},
		{"the basis 1, 1 + g is reduced to 1, g", moved, []impl.Vector{{1}, {1, 1}}, moved},
	}
	for _, x := range tests {
		if !checkSub(t, x.h, x.list) {
			t.Errorf("%s: no sub Hopf algebra", x.name)
		}
		if sub, code := impl.SubHopf(x.h, x.list); sub != x.want || code != impl.ErrNone {
			t.Errorf("%s: SubHopf = %v, %d", x.name, sub, code)
		}
	}
}

// Of the conditions, each of these spaces misses at least the one that is named.
func TestSpacesThatAreNoSubHopfAlgebras(t *testing.T) {
	sweedler, d3, c4 := sweedlerHopf(5), groupHopf(dihedral(31, 3)), groupHopf(cyclic(2, 4))
	on3 := plainDualHopf(groupHopf(cyclic(7, 3)))
	tests := []struct {
		name string
		h    impl.Hopf
		list []impl.Vector
	}{
		{"no Unit", c4, []impl.Vector{basis(2)}},
		{"no Unit, but all products", c4, []impl.Vector{{1, 1, 1, 1}}},
		{"no products", d3, vectorsAt([]int64{0, 3, 4})},
		{"no products, of a subcoalgebra with antipodes", c4, vectorsAt([]int64{0, 1, 3})},
		{"no antipodes", d3, vectorsAt([]int64{0, 1})},
		{"no coproducts, of a subalgebra", sweedler, []impl.Vector{basis(0), basis(2)}},
		{"no left legs", sweedler, []impl.Vector{basis(0), basis(2), {0, 0, 0, 1}}},
		{"no right legs", sweedler, []impl.Vector{basis(1), basis(2)}},
		{"no coproducts, of sums of powers", c4, []impl.Vector{{1}, {0, 1, 0, 1}, {0, 0, 1}}},
		{"no coproducts, of functions", on3, []impl.Vector{{1, 1, 1}, {1}}},
		{"all but one", d3, wholeSpace(d3)[1:]},
	}
	for _, x := range tests {
		if checkSub(t, x.h, x.list) {
			t.Errorf("%s: a sub Hopf algebra", x.name)
		}
	}
}

func TestLongListsOfSubs(t *testing.T) {
	c8, sweedler := groupHopf(cyclic(31, 8)), sweedlerHopf(5)
	var long, other []impl.Vector
	for i := range int64(1000) {
		long = append(long, impl.Vector{byte(i % 31), 0, byte(i % 7), 0, byte(i % 5), 0, byte(i % 3)})
		other = append(other, impl.Vector{byte(i % 5), byte(i % 3)})
	}
	if !checkSub(t, c8, long) || !checkSub(t, sweedler, other) || checkSub(t, c8, long[:3]) {
		t.Error("long lists are taken for other spaces")
	}
	if got := generatedIn(t, c8, long); !slices.Equal(got, vectorsAt([]int64{0, 2, 4, 6})) {
		t.Errorf("GeneratedSub = %v", got)
	}
	if got := generatedIn(t, c8, append(long, basis(7))); !slices.Equal(got, wholeSpace(c8)) {
		t.Errorf("GeneratedSub = %v", got)
	}
	if got := generatedIn(t, sweedler, other); !slices.Equal(got, []impl.Vector{basis(0), basis(1)}) {
		t.Errorf("GeneratedSub = %v", got)
	}
}
