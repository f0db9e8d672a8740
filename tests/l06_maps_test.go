package tests

import (
	"testing"

	"loop.example/g01230/impl"
)

func plainModuleMap(h impl.Hopf, m, k impl.Module, f impl.Linear) bool {
	for i := range h.Size {
		for j := range m.Dim {
			first := plainImage(h.Prime, f, m.Acts[i][j])
			if first != plainAct(h.Prime, k, basis(i), f[j]) {
				return false
			}
		}
	}
	return true
}

// checkModuleMap returns whether f is a module map.
func checkModuleMap(t *testing.T, h impl.Hopf, m, k impl.Module, f impl.Linear) bool {
	t.Helper()
	want := plainModuleMap(h, m, k, f)
	if got, code := impl.IsModuleMap(h, m, k, f); got != want || code != impl.ErrNone {
		t.Errorf("IsModuleMap(%v, %v, %v, %v) = %v, %d", h, m, k, f, got, code)
	}
	return want
}

// dimensionIn calls DimensionOfMaps, which has to return ErrNone.
func dimensionIn(t *testing.T, h impl.Hopf, m, k impl.Module) int64 {
	t.Helper()
	got, code := impl.DimensionOfMaps(h, m, k)
	if code != impl.ErrNone {
		t.Errorf("DimensionOfMaps(%v, %v, %v): code %d", h, m, k, code)
	}
	return got
}

// There are as many module maps as vectors for their dimension.
func TestEverySmallModuleMap(t *testing.T) {
	pairs, dimensions := 0, map[int64]int{}
	for _, x := range modulePairs() {
		count := int64(1)
		for range x.m.Dim * x.k.Dim {
			count = min(count*x.h.Prime, 1000)
		}
		if count > 100 {
			continue
		}
		pairs++
		maps := int64(0)
		for _, f := range everyLinear(x.h.Prime, x.m.Dim, x.k.Dim) {
			if checkModuleMap(t, x.h, x.m, x.k, f) {
				maps++
			}
		}
		dimension := dimensionIn(t, x.h, x.m, x.k)
		dimensions[dimension]++
		for range dimension {
			maps /= x.h.Prime
		}
		if maps != 1 {
			t.Errorf("DimensionOfMaps(%v, %v, %v) = %d", x.h, x.m, x.k, dimension)
		}
	}
	if pairs < 100 || len(dimensions) < 4 {
		t.Errorf("%d pairs with the dimensions %v", pairs, dimensions)
	}
}

func TestModuleMapsBetweenSamples(t *testing.T) {
	var s numbers
	seen := map[bool]int{}
	for _, x := range modulePairs() {
		p := x.h.Prime
		seen[checkModuleMap(t, x.h, x.m, x.k, impl.Linear{})]++
		seen[checkModuleMap(t, x.h, x.m, x.k, s.anyMap(p, x.m.Dim, x.k.Dim))]++
		if x.m.Dim == x.k.Dim {
			seen[checkModuleMap(t, x.h, x.m, x.k, plainIdentity(x.m.Dim))]++
		}
		if x.m == plainRegular(x.h) {
			// Maps from the regular module lead each a to a v, for the image v of the Unit.
			v := s.vector(p, x.k.Dim)
			var f impl.Linear
			for i := range x.h.Size {
				f[i] = plainAct(p, x.k, basis(i), v)
			}
			if !checkModuleMap(t, x.h, x.m, x.k, f) {
				t.Errorf("%v is no module map", f)
			}
			last := sumOf(p, f[x.h.Size-1], 1, basis(x.k.Dim-1))
			seen[checkModuleMap(t, x.h, x.m, x.k, changed(f, func(f *impl.Linear) { f[x.h.Size-1] = last }))]++
		}
	}
	if seen[true] < 100 || seen[false] < 100 {
		t.Errorf("maps: %v", seen)
	}
}

func TestModuleMapsThatAreKnown(t *testing.T) {
	c2, sweedler := groupHopf(cyclic(3, 2)), sweedlerHopf(5)
	swap := impl.Linear{{0, 1}, {1}}
	tests := []struct {
		name string
		h    impl.Hopf
		m, k impl.Module
		f    impl.Linear
		want bool
	}{
		{"swap", c2, plainRegular(c2), plainRegular(c2), swap, true},
		{"not both", c2, plainRegular(c2), plainRegular(c2), impl.Linear{{1}}, false},
		{"sum", c2, plainRegular(c2), plainTrivial(c2, 1), impl.Linear{{2}, {2}}, true},
		{"difference", c2, plainRegular(c2), plainTrivial(c2, 1), impl.Linear{{1}, {2}}, false},
		{"any linear map", c2, plainTrivial(c2, 2), plainTrivial(c2, 3), impl.Linear{{1, 2, 1}, {0, 0, 2}}, true},
		{"into the plane", sweedler, formModule(sweedler, impl.Vector{1, 4}), planeOf(5), impl.Linear{{0, 3}}, true},
		{"not into the plane", sweedler, plainTrivial(sweedler, 1), planeOf(5), impl.Linear{{1}}, false},
		{"out of the plane", sweedler, planeOf(5), plainTrivial(sweedler, 1), impl.Linear{{2}}, true},
		{"the end of the plane", sweedler, planeOf(5), plainTrivial(sweedler, 1), impl.Linear{{}, {1}}, false},
		{"into its dual", sweedler, planeOf(5), plainDualModule(sweedler, planeOf(5)), impl.Linear{{1}, {0, 1}}, false},
	}
	for _, x := range tests {
		if got := checkModuleMap(t, x.h, x.m, x.k, x.f); got != x.want {
			t.Errorf("%s: %v", x.name, got)
		}
	}
}

// Promise 14: maps from the trivial module are the invariants.
func TestMapsFromTheTrivialModuleAreTheInvariants(t *testing.T) {
	for _, x := range someModules() {
		one, _ := impl.TrivialModule(x.h, 1)
		list := invariantsIn(t, x.h, x.m)
		if got := dimensionIn(t, x.h, one, x.m); got != int64(len(list)) {
			t.Errorf("%v of %v has %d maps from the trivial module, but the invariants %v", x.m, x.h, got, list)
		}
		for _, v := range list {
			if !checkModuleMap(t, x.h, one, x.m, impl.Linear{v}) {
				t.Errorf("%v is no map from the trivial module to %v of %v", v, x.m, x.h)
			}
		}
		for _, m := range []int64{2, 8} {
			more, _ := impl.TrivialModule(x.h, m)
			if got := dimensionIn(t, x.h, more, x.m); got != m*int64(len(list)) {
				t.Errorf("%v of %v has %d maps from the trivial module %d, but the invariants %v", x.m, x.h, got, m, list)
			}
		}
	}
	for _, x := range smallModules(100) {
		span := spanOf(x.h.Prime, invariantsIn(t, x.h, x.m))
		for _, v := range everyVector(x.h.Prime, x.m.Dim) {
			if checkModuleMap(t, x.h, plainTrivial(x.h, 1), x.m, impl.Linear{v}) != span[v] {
				t.Errorf("%v is in %v, or not, for %v of %v", v, span, x.m, x.h)
			}
		}
	}
}

func TestMapsFromTheTrivialModuleForAllNames(t *testing.T) {
	for _, x := range everyNamedHopf() {
		regular, _ := impl.RegularModule(x.h)
		dual, _ := impl.DualModule(x.h, regular)
		one, _ := impl.TrivialModule(x.h, 1)
		quotient, code := impl.QuotientModule(x.h, regular, []impl.Vector{leftOf(t, x.h)})
		if (code == impl.ErrNone) != (x.h.Size > 1) {
			t.Errorf("%s for %d: QuotientModule has the code %d", x.name, x.h.Prime, code)
		}
		for _, m := range []impl.Module{one, regular, dual, quotient} {
			if m == (impl.Module{}) {
				continue
			}
			if got, list := dimensionIn(t, x.h, one, m), invariantsIn(t, x.h, m); got != int64(len(list)) {
				t.Errorf("%s for %d: %d maps to %v with the invariants %v", x.name, x.h.Prime, got, m, list)
			}
			if got := dimensionIn(t, x.h, regular, m); got != m.Dim {
				t.Errorf("%s for %d: %d maps from the regular module to %v", x.name, x.h.Prime, got, m)
			}
		}
	}
}

// Maps from m to k are the invariants of the tensor product of k and the dual of m.
func TestMapsAreInvariantsOfTensorProducts(t *testing.T) {
	count := 0
	for _, x := range modulePairs() {
		got := dimensionIn(t, x.h, x.m, x.k)
		if x.m == plainRegular(x.h) && got != x.k.Dim {
			t.Errorf("%d maps from the regular module of %v to %v", got, x.h, x.k)
		}
		dual, _ := impl.DualModule(x.h, x.m)
		tensor, code := impl.TensorModule(x.h, x.k, dual)
		if code == impl.ErrLimit {
			continue
		}
		count++
		if list := invariantsIn(t, x.h, tensor); got != int64(len(list)) {
			t.Errorf("DimensionOfMaps(%v, %v, %v) = %d, but there are the invariants %v", x.h, x.m, x.k, got, list)
		}
	}
	if count < 100 {
		t.Errorf("only %d pairs", count)
	}
}

func TestDimensionsOfMapsThatAreKnown(t *testing.T) {
	one, c8, sweedler := groupHopf(cyclic(31, 1)), groupHopf(cyclic(2, 8)), sweedlerHopf(5)
	d3, sign := groupHopf(dihedral(31, 3)), impl.Vector{1, 1, 1, 30, 30, 30}
	tests := []struct {
		h    impl.Hopf
		m, k impl.Module
		want int64
	}{
		{one, plainTrivial(one, 1), plainTrivial(one, 1), 1},
		{one, plainTrivial(one, 8), plainTrivial(one, 8), 64},
		{c8, plainTrivial(c8, 8), plainTrivial(c8, 7), 56},
		{c8, plainRegular(c8), plainRegular(c8), 8},
		{d3, plainTrivial(d3, 1), formModule(d3, sign), 0},
		{d3, formModule(d3, sign), plainRegular(d3), 1},
		{d3, pointModules()[8].m, pointModules()[8].m, 2},
		{d3, plainRegular(d3), pointModules()[8].m, 3},
		{sweedler, plainTrivial(sweedler, 1), planeOf(5), 0},
		{sweedler, planeOf(5), plainTrivial(sweedler, 1), 1},
		{sweedler, planeOf(5), planeOf(5), 1},
		{sweedler, planeOf(5), plainDualModule(sweedler, planeOf(5)), 1},
		{sweedler, plainDualModule(sweedler, planeOf(5)), planeOf(5), 1},
		{sweedler, plainDualModule(sweedler, planeOf(5)), plainTrivial(sweedler, 1), 0},
	}
	for _, x := range tests {
		if got := dimensionIn(t, x.h, x.m, x.k); got != x.want {
			t.Errorf("DimensionOfMaps(%v, %v, %v) = %d", x.h, x.m, x.k, got)
		}
	}
}
