package tests

import (
	"slices"
	"testing"

	"loop.example/g01230/impl"
)

// adjointIn calls AdjointAction, which has to return what the definition tells.
func adjointIn(t *testing.T, h impl.Hopf, v, w impl.Vector, right bool) impl.Vector {
	t.Helper()
	got, code := impl.AdjointAction(h, v, w, right)
	if got != plainAdjoint(h, v, w, right) || code != impl.ErrNone {
		t.Errorf("AdjointAction(%v, %v, %v, %v) = %v, %d", h, v, w, right, got, code)
	}
	return got
}

func TestAdjointActions(t *testing.T) {
	var s numbers
	different := 0
	for _, h := range integralHopfs() {
		p, n := h.Prime, h.Size
		vectors := []impl.Vector{{}, basis(0), basis(n - 1), basis(n / 2), s.vector(p, n), s.vector(p, n)}
		for _, v := range vectors {
			for _, w := range vectors {
				left, right := adjointIn(t, h, v, w, false), adjointIn(t, h, v, w, true)
				if left != right {
					different++
				}
			}
		}
		a, b, v := vectors[4], vectors[5], s.vector(p, n)
		// From the left, products act one after the other, and from the right the other way round.
		if got := adjointIn(t, h, plainProduct(algebraIn(h), a, b), v, false); got != adjointIn(t, h, a, adjointIn(t, h, b, v, false), false) {
			t.Errorf("%v: a product leads %v to %v", h, v, got)
		}
		if got := adjointIn(t, h, plainProduct(algebraIn(h), a, b), v, true); got != adjointIn(t, h, b, adjointIn(t, h, a, v, true), true) {
			t.Errorf("%v: a product leads %v from the right to %v", h, v, got)
		}
		if adjointIn(t, h, h.Unit, v, false) != v || adjointIn(t, h, h.Unit, v, true) != v {
			t.Errorf("%v: the Unit does not lead %v to itself", h, v)
		}
	}
	if different < 200 {
		t.Errorf("only %d actions are different from the left and from the right", different)
	}
}

// The Unit is led to the Counit times the Unit.
func TestAdjointActionsOnTheUnit(t *testing.T) {
	var s numbers
	for _, h := range everyHopfForIntegrals() {
		for _, v := range []impl.Vector{{}, h.Unit, basis(0), basis(h.Size - 1), s.vector(h.Prime, h.Size)} {
			want := timesNumber(h.Prime, plainCounit(coalgebraIn(h), v), h.Unit)
			for _, right := range []bool{false, true} {
				if got, code := impl.AdjointAction(h, v, h.Unit, right); got != want || code != impl.ErrNone {
					t.Errorf("AdjointAction(%v, %v, the Unit, %v) = %v, %d", h, v, right, got, code)
				}
			}
		}
	}
}

// What commutes with all vectors is led to multiples of itself, and nothing else is.
func TestAdjointActionsTellTheCentre(t *testing.T) {
	for _, h := range hopfsWithFewSpaces(250) {
		centre, _ := impl.CentreOf(algebraIn(h))
		for _, v := range everyVector(h.Prime, h.Size) {
			for _, right := range []bool{false, true} {
				fixed := true
				for i := range h.Size {
					image, _ := impl.AdjointAction(h, basis(i), v, right)
					fixed = fixed && image == timesNumber(h.Prime, int64(h.Counit[i]), v)
				}
				if fixed != plainHas(h.Prime, centre, v) {
					t.Errorf("AdjointAction(%v, .., %v, %v): the centre is %v", h, v, right, centre)
				}
			}
		}
	}
}

func TestAdjointActionsThatAreKnown(t *testing.T) {
	sweedler, d3, line := sweedlerHopf(5), groupHopf(dihedral(31, 3)), lineHopf(3, 1)
	tests := []struct {
		name  string
		h     impl.Hopf
		v, w  impl.Vector
		right bool
		want  impl.Vector
	}{
		// Of x the left action is g b S(x) + x b, and the right one g b x - g x b.
		{"x on g", sweedler, basis(2), basis(1), false, impl.Vector{0, 0, 0, 3}},
		{"x on g from the right", sweedler, basis(2), basis(1), true, impl.Vector{0, 0, 2}},
		{"x on x", sweedler, basis(2), basis(2), false, impl.Vector{}},
		{"twice g on x", sweedler, impl.Vector{0, 2}, basis(2), false, impl.Vector{0, 0, 3}},
		{"g on x from the right", sweedler, basis(1), basis(2), true, impl.Vector{0, 0, 4}},
		{"1 + g on x", sweedler, impl.Vector{1, 1}, basis(2), false, impl.Vector{}},
		{"a rotation on a mirror", d3, basis(1), basis(3), false, basis(5)},
		{"a rotation on a mirror from the right", d3, basis(1), basis(3), true, basis(4)},
		{"a mirror on a rotation", d3, basis(3), basis(1), true, basis(2)},
		{"a sum on a sum", d3, impl.Vector{0, 30, 0, 1}, impl.Vector{0, 2, 0, 3}, false, impl.Vector{0, 29, 2, 3, 0, 28}},
		{"x on x of a line", line, basis(1), basis(1), false, impl.Vector{}},
		{"zeros", d3, impl.Vector{}, basis(5), false, impl.Vector{}},
		{"on zeros", d3, basis(5), impl.Vector{}, true, impl.Vector{}},
		{"size 1", groupHopf(cyclic(31, 1)), impl.Vector{30}, impl.Vector{30}, true, impl.Vector{1}},
	}
	for _, x := range tests {
		if got := adjointIn(t, x.h, x.v, x.w, x.right); got != x.want {
			t.Errorf("%s: AdjointAction = %v", x.name, got)
		}
	}
}

// checkNormal returns whether a list spans a normal sub Hopf algebra.
func checkNormal(t *testing.T, h impl.Hopf, list []impl.Vector) bool {
	t.Helper()
	space := spaceIn(h, list)
	want := plainIsNormal(h, space)
	reports(t, "IsNormalSub", impl.IsNormalSub, hopfSpace{h, list}, want)
	keepsList(t, "IdealOfSub", list, func(given []impl.Vector) {
		got, code := impl.IdealOfSub(h, given)
		if want {
			checkIdealOfSub(t, h, space, got, code)
		} else if len(got) != 0 || code != impl.ErrState {
			t.Errorf("IdealOfSub(%v, %v) = %v, %d", h, list, got, code)
		}
	})
	return want
}

// checkIdealOfSub sees that an ideal is that of a normal sub Hopf algebra, and a Hopf ideal whose
// quotient has the size that is left.
func checkIdealOfSub(t *testing.T, h impl.Hopf, space, ideal []impl.Vector, code int64) {
	t.Helper()
	want := leftMultiples(h, plainAugmented(h, space))
	if !slices.Equal(ideal, want) || code != impl.ErrNone || !slices.Equal(want, rightMultiples(h, plainAugmented(h, space))) {
		t.Errorf("IdealOfSub(%v, %v) = %v, %d, not %v", h, space, ideal, code, want)
	}
	if ok, code := impl.IsHopfIdeal(h, ideal); !ok || code != impl.ErrNone {
		t.Errorf("IsHopfIdeal(%v, %v) = %v, %d", h, ideal, ok, code)
	}
	q, code := impl.QuotientHopf(h, ideal)
	isQuotient(t, h, ideal, q, code)
	if q.Size*int64(len(space)) != h.Size {
		t.Errorf("the quotient of %v by the ideal of %v has the size %d", h, space, q.Size)
	}
}

func TestNormalSubsAmongAllSpaces(t *testing.T) {
	seen := map[[2]bool]int{}
	for _, h := range hopfsWithFewSpaces(1200) {
		for _, space := range everySpace(h.Prime, h.Size) {
			seen[[2]bool{plainIsSub(h, space), checkNormal(t, h, space)}]++
		}
	}
	if seen[[2]bool{true, true}] < 100 || seen[[2]bool{true, false}] < 5 || seen[[2]bool{false, true}] != 0 {
		t.Errorf("sub Hopf algebras, and normal ones: %v", seen)
	}
}

func TestNormalSubsAmongSomeSpaces(t *testing.T) {
	seen := map[[2]bool]int{}
	for _, x := range someSpaces() {
		seen[[2]bool{plainIsSub(x.h, x.list), checkNormal(t, x.h, x.list)}]++
	}
	if seen[[2]bool{true, true}] < 200 || seen[[2]bool{true, false}] < 20 || seen[[2]bool{false, true}] != 0 {
		t.Errorf("sub Hopf algebras, and normal ones: %v", seen)
	}
}

// The multiples of the Unit have the ideal of zeros, and h its augmentation ideal. All sub Hopf
// algebras of commutative Hopf algebras are normal.
func TestNormalSubsOfAllNames(t *testing.T) {
	var s numbers
	seen := map[bool]int{}
	for _, x := range everyNamedHopf() {
		h, n := x.h, x.h.Size
		commutative, _ := impl.IsCommutative(algebraIn(h))
		if ideal, code := impl.IdealOfSub(h, []impl.Vector{h.Unit}); len(ideal) != 0 || code != impl.ErrNone {
			t.Errorf("%s for %d: IdealOfSub the Unit = %v, %d", x.name, h.Prime, ideal, code)
		}
		augmentation, _ := impl.AugmentationIdeal(h)
		if ideal, code := impl.IdealOfSub(h, wholeSpace(h)); !slices.Equal(ideal, augmentation) || code != impl.ErrNone {
			t.Errorf("%s for %d: IdealOfSub all = %v, %d", x.name, h.Prime, ideal, code)
		}
		for _, v := range []impl.Vector{basis(1 % n), basis(n / 2), basis(n - 1), s.vector(2, n)} {
			got := checkNormal(t, h, generatedIn(t, h, []impl.Vector{v}))
			seen[got]++
			if commutative && !got {
				t.Errorf("%s for %d: what %v generates is not normal", x.name, h.Prime, v)
			}
		}
	}
	if seen[true] < 500 || seen[false] < 20 {
		t.Errorf("sub Hopf algebras that are normal: %v", seen)
	}
}

// Normal sub Hopf algebras of group algebras are those of normal subgroups, and the quotients by their
// ideals those of groups of cosets.
func TestNormalSubsOfGroupAlgebras(t *testing.T) {
	seen := map[bool]int{}
	for at, table := range groupTables() {
		n, p := int64(len(table)), primes()[at%11]
		h := groupHopf(algebraOfTable(p, table))
		for i := range n {
			for j := range n {
				members := subgroupOf(table, i, j)
				want := isNormalSubgroup(table, members)
				seen[want]++
				if got, code := impl.IsNormalSub(h, vectorsAt(members)); got != want || code != impl.ErrNone {
					t.Errorf("IsNormalSub(%v, %v) = %v, %d", h, members, got, code)
				}
				ideal, code := impl.IdealOfSub(h, vectorsAt(members))
				if !want {
					isNoIdeal(t, ideal, code, impl.ErrState)
					continue
				}
				checkIdealOfSub(t, h, spaceIn(h, vectorsAt(members)), ideal, code)
				if q, code := impl.QuotientHopf(h, ideal); q != groupHopf(cosetsIn(p, table, members)) || code != impl.ErrNone {
					t.Errorf("QuotientHopf(%v, %v) = %v, %d", h, ideal, q, code)
				}
			}
		}
	}
	if seen[true] < 500 || seen[false] < 50 {
		t.Errorf("subgroups that are normal: %v", seen)
	}
}

func isNoIdeal(t *testing.T, ideal []impl.Vector, code, want int64) {
	t.Helper()
	if len(ideal) != 0 || code != want {
		t.Errorf("IdealOfSub = %v, %d, not code %d", ideal, code, want)
	}
}

// cosetsIn is the algebra of the cosets of a normal subgroup in the order of their greatest members,
// as these are no first places of differences.
func cosetsIn(p int64, table [][]int64, members []int64) impl.Algebra {
	greatest := func(i int64) int64 {
		last := int64(0)
		for _, number := range members {
			last = max(last, table[i][number])
		}
		return last
	}
	var cosets []int64
	for i := range int64(len(table)) {
		if greatest(i) == i {
			cosets = append(cosets, i)
		}
	}
	a := groupAlgebra(p, int64(len(cosets)), func(i, j int64) int64 {
		return int64(slices.Index(cosets, greatest(table[cosets[i]][cosets[j]])))
	})
	a.Unit = basis(int64(slices.Index(cosets, greatest(0))))
	return a
}

func TestNormalSubsThatAreKnown(t *testing.T) {
	sweedler, double, d4 := sweedlerHopf(5), doubleHopf(31), groupHopf(dihedral(2, 4))
	skew := skewHopf(skewKind{3, 4, 2, 1, 0})
	both := plainTensor(sweedlerHopf(31), groupHopf(cyclic(31, 2)))
	tests := []struct {
		name string
		h    impl.Hopf
		list []impl.Vector
		want bool
		size int
	}{
		{"1 and g", sweedler, []impl.Vector{basis(0), basis(1)}, false, 0},
		{"all", sweedler, wholeSpace(sweedler), true, 3},
		{"the Unit", sweedler, []impl.Vector{{3}}, true, 0},
		{"no sub Hopf algebra", sweedler, []impl.Vector{basis(0), basis(2)}, false, 0},
		{"nothing", sweedler, nil, false, 0},
		{"empty", sweedler, []impl.Vector{}, false, 0},
		{"an ideal", sweedler, []impl.Vector{basis(2), basis(3)}, false, 0},
		{"1 and g of the double one", double, []impl.Vector{basis(0), basis(1)}, false, 0},
		{"Sweedler's in the double one", double, vectorsAt([]int64{0, 1, 2, 3}), false, 0},
		{"1 and the square of g, which commutes with x", skew, vectorsAt([]int64{0, 2}), true, 4},
		{"powers of g", skew, vectorsAt([]int64{0, 1, 2, 3}), false, 0},
		{"Sweedler's as a factor", both, vectorsAt([]int64{0, 2, 4, 6}), true, 6},
		{"the other factor", both, vectorsAt([]int64{0, 1}), true, 4},
		{"the centre of a group", d4, vectorsAt([]int64{0, 2}), true, 4},
		{"rotations", d4, vectorsAt([]int64{0, 1, 2, 3}), true, 6},
		{"a mirror", d4, vectorsAt([]int64{0, 4}), false, 0},
		{"a mirror and the centre", d4, vectorsAt([]int64{0, 2, 4, 6}), true, 6},
		{"of functions", plainDualHopf(d4), []impl.Vector{{1, 0, 1, 0, 1, 0, 1}, {0, 1, 0, 1, 0, 1, 0, 1}}, true, 4},
		{"size 1", groupHopf(cyclic(2, 1)), []impl.Vector{{1}, {1}, {}}, true, 0},
		{"no vectors for the size 1", groupHopf(cyclic(2, 1)), []impl.Vector{{}}, false, 0},
	}
	for _, x := range tests {
		if got := checkNormal(t, x.h, x.list); got != x.want {
			t.Errorf("%s: IsNormalSub = %v", x.name, got)
		}
		if ideal, _ := impl.IdealOfSub(x.h, x.list); len(ideal) != x.size {
			t.Errorf("%s: IdealOfSub = %v", x.name, ideal)
		}
	}
}

func TestIdealsOfSubsThatAreKnown(t *testing.T) {
	c4, both := groupHopf(cyclic(31, 4)), plainTensor(sweedlerHopf(31), groupHopf(cyclic(31, 2)))
	on4 := plainDualHopf(groupHopf(cyclic(2, 4)))
	tests := []struct {
		name string
		h    impl.Hopf
		list []impl.Vector
		want []impl.Vector
	}{
		{"the square", c4, []impl.Vector{basis(0), {5, 0, 7}}, []impl.Vector{{1, 0, 30}, {0, 1, 0, 30}}},
		{"all", c4, wholeSpace(c4), []impl.Vector{{1, 0, 0, 30}, {0, 1, 0, 30}, {0, 0, 1, 30}}},
		{"the Unit of functions", on4, []impl.Vector{{1, 1, 1, 1}}, nil},
		{"functions of remainders by 2", on4, []impl.Vector{{1, 1, 1, 1}, {1, 0, 1}}, []impl.Vector{basis(1), basis(3)}},
		{"a factor", both, vectorsAt([]int64{0, 1}), []impl.Vector{{1, 30}, {0, 0, 1, 30}, {0, 0, 0, 0, 1, 30}, {0, 0, 0, 0, 0, 0, 1, 30}}},
		{"Sweedler's", both, vectorsAt([]int64{6, 4, 2, 0}), []impl.Vector{{1, 0, 30}, {0, 1, 0, 30}, basis(4), basis(5), basis(6), basis(7)}},
	}
	for _, x := range tests {
		got, code := impl.IdealOfSub(x.h, x.list)
		if !slices.Equal(got, x.want) || code != impl.ErrNone {
			t.Errorf("%s: IdealOfSub = %v, %d", x.name, got, code)
		}
	}
}
