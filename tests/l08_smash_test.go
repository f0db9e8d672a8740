package tests

import (
	"slices"
	"testing"

	"loop.example/g01230/impl"
)

// checkAction returns whether a with a module m is a module algebra, as all functions have to tell.
func checkAction(t *testing.T, x hopfAction) bool {
	t.Helper()
	want := plainKeepsUnit(x.h, x.a, x.m) && plainKeepsProducts(x.h, x.a, x.m)
	if got, code := impl.IsModuleAlgebra(x.h, x.a, x.m); got != want || code != impl.ErrNone {
		t.Errorf("IsModuleAlgebra(%v) = %v, %d", x, got, code)
	}
	if !want {
		smash, code := impl.SmashProduct(x.h, x.a, x.m)
		hasNone(t, "SmashProduct of no module algebra", smash, code, impl.ErrState)
		constants, code := impl.ConstantsOf(x.h, x.a, x.m)
		if len(constants) != 0 || code != impl.ErrState {
			t.Errorf("ConstantsOf(%v) = %v, %d", x, constants, code)
		}
	}
	return want
}

func TestSamplesAreModuleAlgebras(t *testing.T) {
	sizes := map[int64]int{}
	others := 0
	for _, x := range someActions() {
		sizes[x.a.Size]++
		if !checkAction(t, x) {
			t.Errorf("sample %v is no module algebra", x)
		}
		if x.m != plainTrivial(x.h, x.a.Size) {
			others++
		}
	}
	hasAllDims(t, sizes, others)
}

// By the antipode, what keeps products keeps the Unit, so that the Unit is never what fails alone.
func TestModulesThatAreNoModuleAlgebras(t *testing.T) {
	seen := map[[2]bool]int{}
	for _, x := range otherActions() {
		unit, products := plainKeepsUnit(x.h, x.a, x.m), plainKeepsProducts(x.h, x.a, x.m)
		seen[[2]bool{unit, products}]++
		if checkAction(t, x) != products {
			t.Errorf("%v keeps products alone", x)
		}
	}
	if seen[[2]bool{true, true}] < 100 || seen[[2]bool{true, false}] < 100 || seen[[2]bool{false, false}] < 100 {
		t.Errorf("samples that keep the Unit and products: %v", seen)
	}
}

// Groups act by maps of algebras, functions on groups by degrees, and lines by derivations.
func TestEverySmallAction(t *testing.T) {
	c2, c3, on2 := groupHopf(cyclic(2, 2)), groupHopf(cyclic(3, 2)), plainDualHopf(groupHopf(cyclic(2, 2)))
	four := changed(root(2, 1), func(a *impl.Algebra) { a.Mul[1][1][1] = 1 })
	tests := []struct {
		h    impl.Hopf
		a    impl.Algebra
		want int
	}{
		{groupHopf(cyclic(2, 1)), fields(2, 1), 1}, {groupHopf(cyclic(31, 1)), cyclic(31, 1), 1},
		{groupHopf(cyclic(2, 1)), four, 1}, {sweedlerHopf(3), fields(3, 1), 1}, {groupHopf(cyclic(7, 3)), fields(7, 1), 1},
		{c2, fields(2, 2), 2}, {c2, truncated(2, 2), 1}, {c2, cyclic(2, 2), 1}, {c2, four, 2},
		{c3, fields(3, 2), 2}, {c3, truncated(3, 2), 2}, {c3, root(3, 2), 2}, {c3, cyclic(3, 2), 2},
		{on2, fields(2, 2), 1}, {on2, truncated(2, 2), 3}, {on2, cyclic(2, 2), 3}, {on2, four, 1},
		{plainDualHopf(c3), truncated(3, 2), 2}, {plainDualHopf(c3), root(3, 2), 2},
		{lineHopf(2, 0), truncated(2, 2), 2}, {lineHopf(2, 1), truncated(2, 2), 3}, {lineHopf(2, 0), cyclic(2, 2), 2},
		{lineHopf(2, 0), fields(2, 2), 1}, {lineHopf(2, 1), fields(2, 2), 1}, {lineHopf(2, 1), four, 1},
	}
	for _, x := range tests {
		count := 0
		everyActs(x.h, x.a.Size, func(m impl.Module) {
			if plainIsModule(x.h, m) && checkAction(t, hopfAction{x.h, x.a, m}) {
				count++
			}
		})
		if count != x.want {
			t.Errorf("%v acts on %v in %d ways, not %d", x.h, x.a, count, x.want)
		}
	}
}

func TestModuleAlgebrasThatAreKnown(t *testing.T) {
	c2, skew := groupHopf(cyclic(5, 2)), sweedlerHopf(5)
	plane := func(g, x impl.Linear) impl.Module {
		m := impl.Module{Dim: 2, Acts: [8]impl.Linear{{{1}, {0, 1}}, g, x}}
		for i := range 2 {
			m.Acts[3][i] = plainImage(5, g, x[i])
		}
		return m
	}
	signs := impl.Linear{{1}, {0, 4}}
	tests := []struct {
		name string
		h    impl.Hopf
		a    impl.Algebra
		m    impl.Module
		want bool
	}{
		{"g changes signs", c2, root(5, 2), impl.Module{Dim: 2, Acts: [8]impl.Linear{{{1}, {0, 1}}, signs}}, true},
		{"g changes both signs", c2, root(5, 2), impl.Module{Dim: 2, Acts: [8]impl.Linear{{{1}, {0, 1}}, {{4}, {0, 4}}}}, false},
		{"g changes the Unit alone", c2, root(5, 2), impl.Module{Dim: 2, Acts: [8]impl.Linear{{{1}, {0, 1}}, {{4}, {0, 1}}}}, false},
		{"g exchanges 1 and y", c2, root(5, 1), impl.Module{Dim: 2, Acts: [8]impl.Linear{{{1}, {0, 1}}, {{0, 1}, {1}}}}, false},
		{"g exchanges two fields", c2, fields(5, 2), impl.Module{Dim: 2, Acts: [8]impl.Linear{{{1}, {0, 1}}, {{0, 1}, {1}}}}, true},
		{"x leads y to 1", skew, root(5, 3), plane(signs, impl.Linear{{}, {1}}), true},
		{"x leads y to 3", skew, root(5, 0), plane(signs, impl.Linear{{}, {3}}), true},
		{"x leads 1 to y", skew, root(5, 3), plane(signs, impl.Linear{{0, 1}}), false},
		{"x leads a field to the other one", skew, fields(5, 2), plane(signs, impl.Linear{{}, {1}}), false},
	}
	for _, x := range tests {
		if got := checkAction(t, hopfAction{x.h, x.a, x.m}); got != x.want {
			t.Errorf("%s: %v", x.name, got)
		}
	}
	field, trivial := fields(5, 1), plainTrivial(c2, 1)
	if !checkAction(t, hopfAction{c2, field, trivial}) || checkAction(t, hopfAction{c2, field, formModule(c2, impl.Vector{1, 4})}) {
		t.Error("a field has one action of the group of two elements")
	}
}

// constantsIn calls ConstantsOf, whose result has to be a reduced list of constants.
func constantsIn(t *testing.T, x hopfAction) []impl.Vector {
	t.Helper()
	list, code := impl.ConstantsOf(x.h, x.a, x.m)
	if code != impl.ErrNone || !isReduced(list) {
		t.Errorf("ConstantsOf(%v) = %v, %d", x, list, code)
	}
	for _, v := range list {
		if !plainInvariant(x.h, x.m, v) || !impl.IsVector(x.h.Prime, x.a.Size, v) {
			t.Errorf("ConstantsOf(%v) has %v", x, v)
		}
	}
	return list
}

func TestConstantsAmongAllVectors(t *testing.T) {
	count := 0
	for _, x := range someActions() {
		list := constantsIn(t, x)
		if !plainHas(x.h.Prime, list, x.a.Unit) {
			t.Errorf("ConstantsOf(%v) = %v has not the Unit", x, list)
		}
		for _, v := range list {
			for _, w := range list {
				if !plainHas(x.h.Prime, list, plainProduct(x.a, v, w)) {
					t.Errorf("ConstantsOf(%v) = %v has not the product of %v and %v", x, list, v, w)
				}
			}
		}
		if countVectors(x.h.Prime, x.a.Size) > 1000 {
			continue
		}
		count++
		for _, v := range everyVector(x.h.Prime, x.a.Size) {
			if plainInvariant(x.h, x.m, v) != plainHas(x.h.Prime, list, v) {
				t.Errorf("ConstantsOf(%v) = %v, and %v", x, list, v)
			}
		}
	}
	if count < 300 {
		t.Errorf("only %d samples are small", count)
	}
}

func TestConstantsThatAreKnown(t *testing.T) {
	tests := []struct {
		name string
		x    hopfAction
		want []impl.Vector
	}{
		{"two fields", moved(2, fields(5, 2), 1, 0), []impl.Vector{{1, 1}}},
		{"three fields", moved(3, fields(31, 3), 1, 2, 0), []impl.Vector{{1, 1, 1}}},
		{"eight fields", moved(2, fields(2, 8), 1, 0, 3, 2, 4, 5, 7, 6), []impl.Vector{{1, 1}, {0, 0, 1, 1}, {4: 1}, {5: 1}, {6: 1, 7: 1}}},
		{"inverses", moved(2, cyclic(7, 4), 0, 3, 2, 1), []impl.Vector{{1}, {0, 1, 0, 1}, {0, 0, 1}}},
		{"matrices turned round", moved(2, matrices(3), 3, 2, 1, 0), []impl.Vector{{1, 0, 0, 1}, {0, 1, 1}}},
		{"degrees of matrices", graded(groupHopf(cyclic(31, 2)), matrices(31), 0, 1, 1, 0), []impl.Vector{{1}, {0, 0, 0, 1}}},
		{"degrees of powers", graded(groupHopf(cyclic(2, 8)), truncated(2, 8), 0, 1, 2, 3, 4, 5, 6, 7), []impl.Vector{{1}}},
		{"a derivation of 7", derivedActions(7)[0], []impl.Vector{{1}}},
		{"degrees of 7", derivedActions(7)[1], []impl.Vector{{1}}},
		{"a derivation of zeros", derived(0, truncated(3, 5), impl.Linear{}), []impl.Vector{{1}, basis(1), basis(2), basis(3), basis(4)}},
		{"another basis", hopfAction{groupHopf(cyclic(5, 2)), sheared(fields(5, 2), 0, 1), shearedModule(5, moved(2, fields(5, 2), 1, 0).m, 0, 1)}, []impl.Vector{{1}}},
	}
	for _, x := range tests {
		if got := constantsIn(t, x.x); !slices.Equal(got, x.want) {
			t.Errorf("%s: ConstantsOf = %v, not %v", x.name, got, x.want)
		}
	}
}

// All vectors are constants of a trivial module algebra, and no others are if all are.
func TestConstantsOfTrivialModuleAlgebras(t *testing.T) {
	for at, h := range everyHopfForIntegrals() {
		size := int64(at%8) + 1
		for _, a := range []impl.Algebra{fields(h.Prime, size), truncated(h.Prime, size)} {
			whole := plainIdentity(size)
			if got := constantsIn(t, hopfAction{h, a, plainTrivial(h, size)}); !slices.Equal(got, whole[:size]) {
				t.Errorf("ConstantsOf(%v, %v, the trivial module) = %v", h, a, got)
			}
		}
	}
}

// Adjoint modules are module algebras (the guarantee of chapter 8), whose constants are the centre.
func TestAdjointModulesAreModuleAlgebras(t *testing.T) {
	commutative := 0
	for _, h := range everyHopfForIntegrals() {
		got, code := impl.AdjointModule(h)
		isMadeModule(t, "AdjointModule", h, got, code, plainAdjointModule(h))
		if ok, code := impl.IsModuleAlgebra(h, algebraIn(h), got); !ok || code != impl.ErrNone {
			t.Errorf("IsModuleAlgebra(%v, .., the adjoint module) = %v, %d", h, ok, code)
		}
		centre, _ := impl.CentreOf(algebraIn(h))
		if constants := constantsIn(t, hopfAction{h, algebraIn(h), got}); !slices.Equal(constants, centre) {
			t.Errorf("the adjoint module of %v has the constants %v, not %v", h, constants, centre)
		}
		if int64(len(centre)) == h.Size {
			commutative++
		}
		if trivial := got == plainTrivial(h, h.Size); trivial != (int64(len(centre)) == h.Size) {
			t.Errorf("the adjoint module of %v is trivial: %v", h, trivial)
		}
	}
	if commutative < 100 || len(everyHopfForIntegrals())-commutative < 50 {
		t.Errorf("%d of %d are commutative", commutative, len(everyHopfForIntegrals()))
	}
}

func TestAdjointModulesThatAreKnown(t *testing.T) {
	d3, _ := impl.AdjointModule(groupHopf(dihedral(31, 3)))
	for i, images := range [][]int64{{0, 1, 2, 3, 4, 5}, {0, 1, 2, 5, 3, 4}, {0, 1, 2, 4, 5, 3}, {0, 2, 1, 3, 5, 4}, {0, 2, 1, 5, 4, 3}, {0, 2, 1, 4, 3, 5}} {
		for j, number := range images {
			if d3.Acts[i][j] != basis(number) {
				t.Errorf("e(%d) leads e(%d) to %v, not to e(%d)", i, j, d3.Acts[i][j], number)
			}
		}
	}
	// g leads v to g v g, x leads it to x v - g v g x, and g x leads it to g x v g + v x.
	skew, code := impl.AdjointModule(sweedlerHopf(5))
	want := impl.Module{Dim: 4, Acts: [8]impl.Linear{
		{{1}, {0, 1}, {0, 0, 1}, {0, 0, 0, 1}}, {{1}, {0, 1}, {0, 0, 4}, {0, 0, 0, 4}}, {{}, {0, 0, 0, 3}}, {{}, {0, 0, 0, 2}},
	}}
	isMadeModule(t, "AdjointModule", sweedlerHopf(5), skew, code, want)
}
