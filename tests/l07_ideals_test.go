package tests

import (
	"slices"
	"testing"

	"loop.example/g01230/impl"
)

// isQuotient sees that q is the quotient by a Hopf ideal, all of which is told by the map onto it.
func isQuotient(t *testing.T, h impl.Hopf, space []impl.Vector, q impl.Hopf, code int64) {
	t.Helper()
	f := projection(h.Prime, h.Size, space)
	if code != impl.ErrNone || q.Size != h.Size-int64(len(space)) || !impl.IsHopf(q) || !plainIsMap(h, q, f) {
		t.Errorf("QuotientHopf(%v, %v) = %v, %d", h, space, q, code)
	}
}

// checkIdeal returns whether a list spans a Hopf ideal.
func checkIdeal(t *testing.T, h impl.Hopf, list []impl.Vector) bool {
	t.Helper()
	space := spaceIn(h, list)
	want := plainIsIdeal(h, space)
	reports(t, "IsHopfIdeal", impl.IsHopfIdeal, hopfSpace{h, list}, want)
	keepsList(t, "QuotientHopf", list, func(given []impl.Vector) {
		q, code := impl.QuotientHopf(h, given)
		if want {
			isQuotient(t, h, space, q, code)
		} else if q != (impl.Hopf{}) || code != impl.ErrState {
			t.Errorf("QuotientHopf(%v, %v) = %v, %d", h, list, q, code)
		}
	})
	return want
}

func TestAugmentationIdeals(t *testing.T) {
	for _, h := range everyHopfForIntegrals() {
		got, code := impl.AugmentationIdeal(h)
		want := plainAugmented(h, wholeSpace(h))
		if !slices.Equal(got, want) || code != impl.ErrNone || int64(len(got)) != h.Size-1 {
			t.Errorf("AugmentationIdeal(%v) = %v, %d", h, got, code)
		}
		for i := range got {
			got[i] = impl.Vector{99}
		}
		if again, _ := impl.AugmentationIdeal(h); !slices.Equal(again, want) {
			t.Errorf("AugmentationIdeal(%v) = %v the second time", h, again)
		}
		if ok, code := impl.IsHopfIdeal(h, want); !ok || code != impl.ErrNone {
			t.Errorf("IsHopfIdeal(%v, %v) = %v, %d", h, want, ok, code)
		}
		q, code := impl.QuotientHopf(h, want)
		isQuotient(t, h, want, q, code)
		if q.Size != 1 {
			t.Errorf("the quotient of %v by %v is %v", h, want, q)
		}
	}
}

func TestAugmentationIdealsAmongAllVectors(t *testing.T) {
	small := triable(integralHopfs())
	if len(small) < 40 {
		t.Fatalf("only %d Hopf algebras", len(small))
	}
	for _, h := range small {
		list, _ := impl.AugmentationIdeal(h)
		span := spanOf(h.Prime, list)
		for _, v := range everyVector(h.Prime, h.Size) {
			if span[v] != (plainCounit(coalgebraIn(h), v) == 0) {
				t.Errorf("AugmentationIdeal(%v) = %v, and %v", h, list, v)
			}
		}
	}
}

func TestAugmentationIdealsThatAreKnown(t *testing.T) {
	tests := []struct {
		h    impl.Hopf
		want []impl.Vector
	}{
		{groupHopf(cyclic(2, 1)), nil},
		{groupHopf(cyclic(31, 1)), nil},
		{groupHopf(cyclic(31, 3)), []impl.Vector{{1, 0, 30}, {0, 1, 30}}},
		{groupHopf(cyclic(2, 2)), []impl.Vector{{1, 1}}},
		{plainDualHopf(groupHopf(cyclic(5, 3))), []impl.Vector{{0, 1}, {0, 0, 1}}},
		{sweedlerHopf(5), []impl.Vector{{1, 4}, {0, 0, 1}, {0, 0, 0, 1}}},
		{lineHopf(3, 1), []impl.Vector{{0, 1}, {0, 0, 1}}},
	}
	for _, x := range tests {
		if got, code := impl.AugmentationIdeal(x.h); !slices.Equal(got, x.want) || code != impl.ErrNone {
			t.Errorf("AugmentationIdeal(%v) = %v, %d", x.h, got, code)
		}
	}
}

// A space is a Hopf ideal just if the vectors of the dual that are 0 on it are a sub Hopf algebra.
func TestHopfIdealsAmongAllSpaces(t *testing.T) {
	sizes := map[int64]int{}
	for _, h := range hopfsWithFewSpaces(1200) {
		dual := plainDualHopf(h)
		for _, space := range everySpace(h.Prime, h.Size) {
			got := checkIdeal(t, h, space)
			if got {
				sizes[h.Size-int64(len(space))]++
			}
			if sub, code := impl.IsSubHopf(dual, complementOf(h, space)); sub != got || code != impl.ErrNone {
				t.Errorf("IsHopfIdeal(%v, %v) = %v, and for the dual %v, %d", h, space, got, sub, code)
			}
		}
	}
	if sizes[0] != 0 || sizes[1] < 40 || sizes[2] < 10 || sizes[4] < 10 {
		t.Errorf("sizes of quotients: %v", sizes)
	}
}

// There are as many Hopf ideals as quotients of a group, subgroups, or sub Hopf algebras of the dual.
func TestNumbersOfHopfIdeals(t *testing.T) {
	c2 := groupHopf(cyclic(3, 2))
	tests := []struct {
		name string
		h    impl.Hopf
		want int
	}{
		{"size 1", groupHopf(cyclic(31, 1)), 1},
		{"cyclic4", groupHopf(cyclic(2, 4)), 3},
		{"cyclic4 for 5", groupHopf(cyclic(5, 4)), 3},
		{"klein", plainTensor(c2, c2), 5},
		{"on-klein", plainDualHopf(plainTensor(c2, c2)), 5},
		{"sweedler", sweedlerHopf(5), 3},
		{"line", lineHopf(3, 0), 2},
		{"split", lineHopf(3, 1), 2},
		{"on-cyclic5", plainDualHopf(groupHopf(cyclic(2, 5))), 2},
		{"cyclic5", groupHopf(cyclic(2, 5)), 2},
		// Those of zeros, x, y, and both, with x x = x and y y = 0; the square of x + y is x.
		{"split and line", plainTensor(lineHopf(2, 1), lineHopf(2, 0)), 4},
	}
	for _, x := range tests {
		count := 0
		for _, space := range everySpace(x.h.Prime, x.h.Size) {
			if ok, _ := impl.IsHopfIdeal(x.h, space); ok {
				count++
			}
		}
		if count != x.want {
			t.Errorf("%s has %d Hopf ideals, not %d", x.name, count, x.want)
		}
	}
}

// Promise 7: quotients by Hopf ideals are Hopf algebras. (What they are is seen by checkIdeal.)
func TestQuotientsByHopfIdealsAreHopfAlgebras(t *testing.T) {
	seen, sizes := map[bool]int{}, map[int64]int{}
	for _, x := range someSpaces() {
		got := checkIdeal(t, x.h, x.list)
		seen[got]++
		if !got {
			continue
		}
		q, _ := impl.QuotientHopf(x.h, x.list)
		if fails := checkHopfAxioms(t, q); fails != 0 || x.h.Size%q.Size != 0 {
			t.Errorf("QuotientHopf(%v, %v) = %v, and axiom %d", x.h, x.list, q, fails)
		}
		sizes[q.Size]++
	}
	if seen[true] < 200 || seen[false] < 1000 {
		t.Errorf("spaces: %v", seen)
	}
	for _, size := range []int64{1, 2, 3, 4, 5, 6, 7, 8} {
		if sizes[size] < 2 {
			t.Errorf("sizes of quotients: %v", sizes)
		}
	}
}

// Promise 7, for all names with all primes: by zeros, by the augmentation ideal, and by ideals of the
// zeros of sub Hopf algebras of the dual.
func TestQuotientsOfAllNames(t *testing.T) {
	sizes := map[[2]int64]int{}
	for _, x := range everyNamedHopf() {
		h, n, dual := x.h, x.h.Size, plainDualHopf(x.h)
		same, code := impl.QuotientHopf(h, nil)
		if same != h || code != impl.ErrNone {
			t.Errorf("%s for %d: QuotientHopf by zeros = %v, %d", x.name, h.Prime, same, code)
		}
		for _, v := range []impl.Vector{h.Unit, basis(n / 2), basis(n - 1), leftOf(t, dual), sumOf(h.Prime, basis(0), 1, basis(n/2))} {
			for _, list := range [][]impl.Vector{{v}, {h.Counit}} {
				space := complementOf(dual, generatedIn(t, dual, list))
				q, code := impl.QuotientHopf(h, space)
				isQuotient(t, h, space, q, code)
				sizes[[2]int64{n, q.Size}]++
			}
		}
	}
	for _, size := range [][2]int64{{1, 1}, {2, 2}, {4, 2}, {6, 2}, {6, 3}, {7, 1}, {7, 7}, {8, 1}, {8, 2}, {8, 4}, {8, 8}} {
		if sizes[size] < 3 {
			t.Errorf("no sizes %v among %v", size, sizes)
		}
	}
}

// The quotient of the dual by the zeros of a sub Hopf algebra is the dual of that.
func TestQuotientsOfDualsAreDualsOfSubs(t *testing.T) {
	count := 0
	for _, x := range someSpaces() {
		sub, code := impl.SubHopf(x.h, x.list)
		if code != impl.ErrNone {
			continue
		}
		count++
		dual, zeros := plainDualHopf(x.h), complementOf(x.h, x.list)
		q, code := impl.QuotientHopf(dual, zeros)
		// Each f(j) that is left has its values for the basis of the sub Hopf algebra.
		var f impl.Linear
		at := 0
		for place := range x.h.Size {
			if slices.ContainsFunc(zeros, func(v impl.Vector) bool { return int64(firstOf(v)) == place }) {
				continue
			}
			for i, w := range x.list {
				f[at][i] = w[place]
			}
			at++
		}
		if code != impl.ErrNone || q.Size != sub.Size || rank(t, q.Prime, q.Size, f[:q.Size]) != int(q.Size) || !plainIsMap(q, plainDualHopf(sub), f) {
			t.Errorf("QuotientHopf(%v, %v) = %v, %d, and SubHopf is %v", dual, zeros, q, code, sub)
		}
	}
	if count < 200 {
		t.Errorf("only %d sub Hopf algebras", count)
	}
}

// Hopf ideals of functions are the functions that are 0 on a subgroup.
func TestHopfIdealsOfFunctions(t *testing.T) {
	for at, table := range groupTables() {
		n, p := int64(len(table)), primes()[at%11]
		h := plainDualHopf(groupHopf(algebraOfTable(p, table)))
		for set := range 1 << n {
			var members, others []int64
			for i := range n {
				if set>>i%2 == 1 {
					members = append(members, i)
				} else {
					others = append(others, i)
				}
			}
			want := slices.Equal(members, subgroupOf(table, members...))
			q, code := impl.QuotientHopf(h, vectorsAt(others))
			if !want {
				if q != (impl.Hopf{}) || code != impl.ErrState {
					t.Errorf("QuotientHopf(%v, all but %v) = %v, %d", h, members, q, code)
				}
				continue
			}
			// It has the functions on the subgroup, in the order of its numbers.
			part := tableBy(int64(len(members)), func(i, j int64) int64 {
				return int64(slices.Index(members, table[members[i]][members[j]]))
			})
			if q != plainDualHopf(groupHopf(algebraOfTable(p, part))) || code != impl.ErrNone {
				t.Errorf("QuotientHopf(%v, all but %v) = %v, %d", h, members, q, code)
			}
		}
	}
}

func TestQuotientsByHopfIdealsThatAreKnown(t *testing.T) {
	sweedler, c4, double, on4 := sweedlerHopf(5), groupHopf(cyclic(31, 4)), doubleHopf(31), plainDualHopf(groupHopf(cyclic(2, 4)))
	d3, one := groupHopf(dihedral(31, 3)), groupHopf(cyclic(2, 1))
	tests := []struct {
		name string
		h    impl.Hopf
		list []impl.Vector
		want impl.Hopf
	}{
		{"nil", sweedler, nil, sweedler},
		{"empty", sweedler, []impl.Vector{}, sweedler},
		{"zeros", double, []impl.Vector{{}, {}}, double},
		{"zeros of 1", one, []impl.Vector{{}}, one},
		{"without x", sweedler, []impl.Vector{basis(2), basis(3)}, groupHopf(cyclic(5, 2))},
		{"without x, told in another way", sweedler, []impl.Vector{{0, 0, 4, 3}, {}, {0, 0, 1, 1}, {0, 0, 2}}, groupHopf(cyclic(5, 2))},
		{"without y", double, vectorsAt([]int64{4, 5, 6, 7}), sweedlerHopf(31)},
		{"without x of the double one", double, vectorsAt([]int64{2, 3, 6, 7}), sweedlerHopf(31)},
		{"without both", double, vectorsAt([]int64{2, 3, 4, 5, 6, 7}), groupHopf(cyclic(31, 2))},
		{"with x = y", double, []impl.Vector{{0, 0, 1, 0, 30}, {0, 0, 0, 1, 0, 30}, basis(6), basis(7)}, sweedlerHopf(31)},
		{"the square is 1", c4, []impl.Vector{{1, 0, 30}, {0, 1, 0, 30}}, groupHopf(cyclic(31, 2))},
		{"rotations are 1", d3, []impl.Vector{{1, 30}, {0, 1, 30}, {0, 0, 0, 1, 30}, {0, 0, 0, 0, 1, 30}}, groupHopf(cyclic(31, 2))},
		{"functions on 0 and 2", on4, vectorsAt([]int64{1, 3}), plainDualHopf(groupHopf(cyclic(2, 2)))},
	}
	for _, x := range tests {
		if !checkIdeal(t, x.h, x.list) {
			t.Errorf("%s: no Hopf ideal", x.name)
		}
		if q, code := impl.QuotientHopf(x.h, x.list); q != x.want || code != impl.ErrNone {
			t.Errorf("%s: QuotientHopf = %v, %d", x.name, q, code)
		}
	}
}

// Signs, and the entries behind the first places, matter where the reduced list has several numbers.
func TestQuotientsWithOtherBases(t *testing.T) {
	h := shearedHopf(shearedHopf(sweedlerHopf(5), 0, 2), 3, 1)
	for _, v := range []impl.Vector{basis(0), basis(1), basis(2), basis(3), {1, 2, 3, 4}} {
		dual := plainDualHopf(h)
		ideal := complementOf(dual, generatedIn(t, dual, []impl.Vector{v}))
		if !checkIdeal(t, h, ideal) {
			t.Errorf("%v is no Hopf ideal of %v", ideal, h)
		}
	}
}

// Each of these spaces misses the condition that is named.
func TestSpacesThatAreNoHopfIdeals(t *testing.T) {
	sweedler, d3, c4, c2 := sweedlerHopf(5), groupHopf(dihedral(31, 3)), groupHopf(cyclic(2, 4)), groupHopf(cyclic(3, 2))
	mirror := plainAugmented(d3, vectorsAt([]int64{0, 3}))
	tests := []struct {
		name string
		h    impl.Hopf
		list []impl.Vector
	}{
		{"all vectors", sweedler, wholeSpace(sweedler)},
		{"all vectors of 1", groupHopf(cyclic(2, 1)), []impl.Vector{{1}}},
		{"all vectors of 8", doubleHopf(31), wholeSpace(doubleHopf(31))},
		{"the Unit", sweedler, []impl.Vector{{1}}},
		{"an ideal with another Counit", c2, []impl.Vector{{1, 1}}},
		{"an ideal that is no coideal", c4, []impl.Vector{{1, 1, 1, 1}}},
		{"another one", sweedler, []impl.Vector{basis(2), basis(3), {1, 1}}},
		{"the integral of functions", plainDualHopf(c4), []impl.Vector{basis(0)}},
		{"x y", doubleHopf(3), vectorsAt([]int64{6, 7})},
		{"a coideal that is no ideal", sweedler, []impl.Vector{basis(2)}},
		{"a line of group-like vectors", c4, []impl.Vector{{1, 1}}},
		{"a left ideal and coideal", d3, leftMultiples(d3, mirror)},
		{"a right ideal and coideal", d3, rightMultiples(d3, mirror)},
		{"a left ideal of the integral of g", sweedler, leftMultiples(sweedler, []impl.Vector{{1, 4}})},
		{"a right ideal of the integral of g", sweedler, rightMultiples(sweedler, []impl.Vector{{1, 4}})},
		{"a part of the augmentation ideal", d3, plainAugmented(d3, wholeSpace(d3))[1:]},
	}
	for _, x := range tests {
		if checkIdeal(t, x.h, x.list) {
			t.Errorf("%s: a Hopf ideal", x.name)
		}
	}
}

// One-sided ideals that are coideals come from sub Hopf algebras that are not normal.
func TestOneSidedIdealsAreAmongTheSamples(t *testing.T) {
	seen := map[[2]bool]int{}
	for _, x := range someSpaces() {
		left, right := leftMultiples(x.h, x.list), rightMultiples(x.h, x.list)
		seen[[2]bool{slices.Equal(left, x.list), slices.Equal(right, x.list)}]++
	}
	for _, kind := range [][2]bool{{true, true}, {true, false}, {false, true}, {false, false}} {
		if seen[kind] < 20 {
			t.Errorf("ideals from the left and from the right: %v", seen)
		}
	}
}

func TestLongListsOfIdeals(t *testing.T) {
	sweedler, on8 := sweedlerHopf(5), plainDualHopf(groupHopf(cyclic(31, 8)))
	var long, other []impl.Vector
	for i := range int64(1000) {
		long = append(long, impl.Vector{0, 0, byte(i % 5), byte(i % 3)})
		other = append(other, impl.Vector{0, byte(i % 31), 0, byte(i % 7), 0, byte(i % 5), 0, byte(i % 3)})
	}
	if !checkIdeal(t, sweedler, long) || !checkIdeal(t, on8, other) || checkIdeal(t, on8, other[:3]) || checkIdeal(t, on8, append(other, basis(2))) {
		t.Error("long lists are taken for other spaces")
	}
	if q, code := impl.QuotientHopf(on8, other); q != plainDualHopf(groupHopf(cyclic(31, 4))) || code != impl.ErrNone {
		t.Errorf("QuotientHopf = %v, %d", q, code)
	}
}
