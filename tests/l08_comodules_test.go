package tests

import (
	"math"
	"slices"
	"testing"

	"loop.example/g01230/impl"
)

// checkComodule returns whether c is a comodule of a Hopf algebra h.
func checkComodule(t *testing.T, h impl.Hopf, c impl.Comodule) bool {
	t.Helper()
	want := plainIsComodule(h, c)
	if got := impl.IsComodule(h, c); got != want {
		t.Errorf("IsComodule(%v, %v) = %v", h, c, got)
	}
	return want
}

func isMadeComodule(t *testing.T, name string, h impl.Hopf, got impl.Comodule, code int64, want impl.Comodule) {
	t.Helper()
	isMade(t, name, h, got, code, want, impl.IsComodule, plainIsComodule)
}

func TestSamplesAreComodules(t *testing.T) {
	dims := map[int64]int{}
	others := 0
	for _, x := range someComodules() {
		dims[x.c.Dim]++
		if !checkComodule(t, x.h, x.c) {
			t.Errorf("sample %v of %v is no comodule", x.c, x.h)
		}
		if x.c != plainTrivialComodule(x.h, x.c.Dim) {
			others++
		}
	}
	hasAllDims(t, dims, others)
}

// everyCo calls f for all that have the form of a comodule of h.
func everyCo(h impl.Hopf, dim int64, f func(c impl.Comodule)) {
	vectors := everyVector(h.Prime, h.Size)
	var next func(c impl.Comodule, at int64)
	next = func(c impl.Comodule, at int64) {
		if at == dim*dim {
			f(c)
			return
		}
		for _, c.Co[at/dim][at%dim] = range vectors {
			next(c, at+1)
		}
	}
	next(impl.Comodule{Dim: dim}, 0)
}

func TestEverySmallComodule(t *testing.T) {
	tests := []struct {
		h    impl.Hopf
		dim  int64
		want int
	}{
		{groupHopf(cyclic(2, 1)), 1, 1}, {groupHopf(cyclic(31, 1)), 1, 1}, {groupHopf(cyclic(2, 1)), 2, 1},
		// Group-like vectors make those of the Dim 1; for groups of two, maps that are their own
		// squares make those of the Dim 2, and for functions on them maps whose square is the identity.
		{groupHopf(cyclic(7, 3)), 1, 3}, {plainDualHopf(groupHopf(cyclic(7, 3))), 1, 3}, {plainDualHopf(groupHopf(cyclic(2, 3))), 1, 1},
		{sweedlerHopf(3), 1, 2}, {sweedlerHopf(5), 1, 2}, {lineHopf(3, 1), 1, 1}, {plainDualHopf(lineHopf(3, 1)), 1, 3},
		{groupHopf(cyclic(2, 2)), 2, 8}, {groupHopf(cyclic(3, 2)), 2, 14},
		{plainDualHopf(groupHopf(cyclic(2, 2))), 2, 4}, {plainDualHopf(groupHopf(cyclic(3, 2))), 2, 14},
		{lineHopf(2, 0), 2, 4}, {lineHopf(2, 1), 2, 4}, {plainDualHopf(lineHopf(2, 1)), 2, 8},
	}
	for _, x := range tests {
		count := 0
		everyCo(x.h, x.dim, func(c impl.Comodule) {
			if checkComodule(t, x.h, c) {
				count++
			}
		})
		if count != x.want {
			t.Errorf("%v has %d comodules of %d, not %d", x.h, count, x.dim, x.want)
		}
	}
}

func TestChangedComodules(t *testing.T) {
	var s numbers
	seen := map[bool]int{}
	for _, x := range someComodules() {
		n, d := x.h.Size, x.c.Dim
		entry := byte(s.below(x.h.Prime))
		seen[checkComodule(t, x.h, changed(x.c, func(c *impl.Comodule) { c.Co[s.below(d)][s.below(d)][s.below(n)] = entry }))]++
		seen[checkComodule(t, x.h, changed(x.c, func(c *impl.Comodule) { c.Co[d-1][d-1][n-1] = entry }))]++
		seen[checkComodule(t, x.h, changed(x.c, func(c *impl.Comodule) { c.Co[0] = c.Co[s.below(d)] }))]++
		checkComodule(t, x.h, changed(x.c, func(c *impl.Comodule) { c.Co[s.below(8)][s.below(8)][s.below(8)] = entry }))
	}
	if seen[true] < 100 || seen[false] < 100 {
		t.Errorf("changed comodules: %v", seen)
	}
}

func TestComodulesThatAreNone(t *testing.T) {
	for _, x := range badComodules() {
		if checkHopfAxioms(t, x.h) != 0 || checkComodule(t, x.h, x.c) {
			t.Errorf("%s: it is a comodule", x.name)
		}
	}
	alone := map[[2]bool]int{}
	for _, x := range brokenComodules() {
		axioms := [2]bool{plainCoassociative(x.h, x.c), plainCounital(x.h, x.c)}
		alone[axioms]++
		if axioms != [2]bool{x.coassociative, x.counital} {
			t.Errorf("%s: the axioms hold: %v", x.name, axioms)
		}
	}
	if alone[[2]bool{true, false}] < 3 || alone[[2]bool{false, true}] < 3 || alone[[2]bool{false, false}] < 2 {
		t.Errorf("comodules that fail one axiom alone: %v", alone)
	}
	for _, x := range badHopfs() {
		for _, c := range comodulesForNone(x.h) {
			if impl.IsComodule(x.h, c) {
				t.Errorf("%s: IsComodule(.., %v)", x.name, c)
			}
		}
	}
}

// Regular comodules have the multiples of the Unit as coinvariants (the guarantee of chapter 8).
func TestRegularComodules(t *testing.T) {
	for _, h := range everyHopfForIntegrals() {
		got, code := impl.RegularComodule(h)
		isMadeComodule(t, "RegularComodule", h, got, code, plainRegularComodule(h))
		list, _ := impl.ReduceVectors(h.Prime, h.Size, []impl.Vector{h.Unit})
		if coinvariants := coinvariantsIn(t, h, got); !slices.Equal(coinvariants, list) {
			t.Errorf("the regular comodule of %v has the coinvariants %v", h, coinvariants)
		}
	}
}

// Promise 14: trivial comodules have all vectors as coinvariants.
func TestTrivialComodulesHaveAllVectorsAsCoinvariants(t *testing.T) {
	for _, h := range everyHopfForIntegrals() {
		for dim := int64(1); dim <= 8; dim++ {
			got, code := impl.TrivialComodule(h, dim)
			isMadeComodule(t, "TrivialComodule", h, got, code, plainTrivialComodule(h, dim))
			whole := plainIdentity(dim)
			if list := coinvariantsIn(t, h, got); !slices.Equal(list, whole[:dim]) {
				t.Errorf("the trivial comodule of %v of the Dim %d has the coinvariants %v", h, dim, list)
			}
		}
	}
}

func TestTrivialComodulesOfNoDim(t *testing.T) {
	for _, h := range someHopfs() {
		for _, m := range []int64{math.MinInt64, -8, -1, 0, 9, 16, 8 + 1<<32, math.MaxInt64} {
			got, code := impl.TrivialComodule(h, m)
			hasNone(t, "TrivialComodule", got, code, impl.ErrRange)
		}
	}
	for _, x := range badHopfs() {
		for _, m := range []int64{-1, 0, 1, 8, 9} {
			got, code := impl.TrivialComodule(x.h, m)
			hasNone(t, x.name+": TrivialComodule", got, code, impl.ErrInvalid)
		}
	}
}

// coinvariantsIn calls CoinvariantsOf, whose result has to be a reduced list of coinvariants.
func coinvariantsIn(t *testing.T, h impl.Hopf, c impl.Comodule) []impl.Vector {
	t.Helper()
	list, code := impl.CoinvariantsOf(h, c)
	if code != impl.ErrNone || !isReduced(list) {
		t.Errorf("CoinvariantsOf(%v, %v) = %v, %d", h, c, list, code)
	}
	for _, v := range list {
		if !plainCoinvariant(h, c, v) || !impl.IsVector(h.Prime, c.Dim, v) {
			t.Errorf("CoinvariantsOf(%v, %v) has %v", h, c, v)
		}
	}
	return list
}

func TestCoinvariantsAmongAllVectors(t *testing.T) {
	sizes := map[int]int{}
	for _, x := range someComodules() {
		list := coinvariantsIn(t, x.h, x.c)
		if countVectors(x.h.Prime, x.c.Dim) > 1000 {
			continue
		}
		sizes[len(list)]++
		for _, v := range everyVector(x.h.Prime, x.c.Dim) {
			if plainCoinvariant(x.h, x.c, v) != plainHas(x.h.Prime, list, v) {
				t.Errorf("CoinvariantsOf(%v, %v) = %v, and %v", x.h, x.c, list, v)
			}
		}
	}
	if sizes[0] < 10 || sizes[1] < 10 || sizes[2] < 10 || sizes[8] < 10 {
		t.Errorf("numbers of coinvariants: %v", sizes)
	}
}

func TestCoinvariantsThatAreKnown(t *testing.T) {
	c3, skew := groupHopf(cyclic(5, 3)), sweedlerHopf(5)
	on2 := plainDualHopf(groupHopf(cyclic(31, 2)))
	degrees := func(list ...int64) impl.Comodule {
		c := impl.Comodule{Dim: int64(len(list))}
		for i, degree := range list {
			c.Co[i][i] = basis(degree)
		}
		return c
	}
	tests := []struct {
		name string
		h    impl.Hopf
		c    impl.Comodule
		want []impl.Vector
	}{
		{"degree 1", c3, degrees(1), nil},
		{"degrees 1 and 2", c3, degrees(1, 2, 2, 1, 1, 2, 1, 2), nil},
		{"degrees 0, 1 and 2", c3, degrees(2, 0, 1, 0, 2), []impl.Vector{basis(1), basis(3)}},
		{"degree 0", c3, degrees(0, 0), []impl.Vector{basis(0), basis(1)}},
		{"g", skew, degrees(1), nil},
		// v(0) leads to v(0) (x) 1 and v(1) to v(1) (x) g + v(0) (x) x, or the other way round.
		{"1 below x", skew, impl.Comodule{Dim: 2, Co: impl.Table{{{1}}, {{0, 0, 0, 1}, {0, 1}}}}, []impl.Vector{{1}}},
		{"g below x", skew, impl.Comodule{Dim: 2, Co: impl.Table{{{0, 1}}, {{0, 0, 1}, {1}}}}, nil},
		// The group of two exchanges v(0) and v(1), and keeps v(2).
		{"a group of two", on2, impl.Comodule{Dim: 3, Co: impl.Table{{{1}, {0, 1}}, {{0, 1}, {1}}, {{}, {}, {1, 1}}}}, []impl.Vector{{1, 1}, {0, 0, 1}}},
	}
	for _, x := range tests {
		if !checkComodule(t, x.h, x.c) {
			t.Errorf("%s: it is no comodule", x.name)
		}
		if got := coinvariantsIn(t, x.h, x.c); !slices.Equal(got, x.want) {
			t.Errorf("%s: CoinvariantsOf = %v, not %v", x.name, got, x.want)
		}
	}
}

// checkDualModule sees that a comodule comes back from its dual module.
func checkDualModule(t *testing.T, h impl.Hopf, c impl.Comodule) {
	t.Helper()
	dual, _ := impl.DualHopf(h)
	m, code := impl.ModuleOfComodule(h, c)
	isMadeModule(t, "ModuleOfComodule", dual, m, code, plainDualOfComodule(c))
	back, code := impl.ComoduleOfModule(dual, m)
	isMadeComodule(t, "ComoduleOfModule", h, back, code, c)
}

// Promise 8: comodules come back from their dual modules.
func TestComodulesComeBackFromTheirDualModules(t *testing.T) {
	for _, x := range someComodules() {
		checkDualModule(t, x.h, x.c)
	}
	for _, x := range everyNamedHopf() {
		checkDualModule(t, x.h, plainRegularComodule(x.h))
		checkDualModule(t, x.h, plainTrivialComodule(x.h, x.h.Size))
	}
}

func TestModulesComeBackFromTheirComodules(t *testing.T) {
	for _, x := range someModules() {
		dual := plainDualHopf(x.h)
		c, code := impl.ComoduleOfModule(x.h, x.m)
		isMadeComodule(t, "ComoduleOfModule", dual, c, code, plainComoduleOf(x.m))
		m, code := impl.ModuleOfComodule(dual, c)
		isMadeModule(t, "ModuleOfComodule", x.h, m, code, x.m)
		invariants, _ := impl.InvariantsOf(x.h, x.m)
		if list := coinvariantsIn(t, dual, c); !slices.Equal(list, invariants) {
			t.Errorf("%v of %v has the coinvariants %v, and its dual module the invariants %v", c, dual, list, invariants)
		}
	}
}

func TestDualModulesThatAreKnown(t *testing.T) {
	c3, skew := groupHopf(cyclic(5, 3)), sweedlerHopf(5)
	// f(k) takes what has the degree k.
	regular, _ := impl.RegularComodule(c3)
	m, code := impl.ModuleOfComodule(c3, regular)
	want := impl.Module{Dim: 3, Acts: [8]impl.Linear{{{1}}, {1: {0, 1}}, {2: {0, 0, 1}}}}
	isMadeModule(t, "ModuleOfComodule of degrees", plainDualHopf(c3), m, code, want)
	// f(0) and f(1) take the parts with 1 and g, and f(2) takes v(0) from v(1).
	below := impl.Comodule{Dim: 2, Co: impl.Table{{{0, 1}}, {{0, 0, 1}, {1}}}}
	m, code = impl.ModuleOfComodule(skew, below)
	want = impl.Module{Dim: 2, Acts: [8]impl.Linear{{{}, {0, 1}}, {{1}}, {{}, {1}}}}
	isMadeModule(t, "ModuleOfComodule of x", plainDualHopf(skew), m, code, want)
	// The regular module of a group is a comodule of functions, in which v(i) leads to the sum of
	// all v(k + i) (x) f(k).
	group, _ := impl.RegularModule(c3)
	c, code := impl.ComoduleOfModule(c3, group)
	wantCo := impl.Comodule{Dim: 3, Co: impl.Table{{{1}, {0, 1}, {0, 0, 1}}, {{0, 0, 1}, {1}, {0, 1}}, {{0, 1}, {0, 0, 1}, {1}}}}
	isMadeComodule(t, "ComoduleOfModule of a group", plainDualHopf(c3), c, code, wantCo)
	one, code := impl.ComoduleOfModule(c3, plainTrivial(c3, 2))
	isMadeComodule(t, "ComoduleOfModule of the trivial one", plainDualHopf(c3), one, code, plainTrivialComodule(plainDualHopf(c3), 2))
}
