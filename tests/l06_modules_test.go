package tests

import (
	"math"
	"slices"
	"testing"

	"loop.example/g01230/impl"
)

// checkModule returns whether m is a module of a Hopf algebra h.
func checkModule(t *testing.T, h impl.Hopf, m impl.Module) bool {
	t.Helper()
	want := plainIsModule(h, m)
	if got := impl.IsModule(h, m); got != want {
		t.Errorf("IsModule(%v, %v) = %v", h, m, got)
	}
	return want
}

// isMade sees that a result is the one that is wanted, and is what two functions have to report.
func isMade[T comparable](t *testing.T, name string, h impl.Hopf, got T, code int64, want T, is, plainIs func(h impl.Hopf, x T) bool) {
	t.Helper()
	if got != want || code != impl.ErrNone {
		t.Errorf("%s for %v: %v, %d, not %v", name, h, got, code, want)
	}
	if !is(h, got) || !plainIs(h, got) {
		t.Errorf("%s for %v: it is %v, which is none", name, h, got)
	}
}

func isMadeModule(t *testing.T, name string, h impl.Hopf, got impl.Module, code int64, want impl.Module) {
	t.Helper()
	isMade(t, name, h, got, code, want, impl.IsModule, plainIsModule)
}

// hasNone sees that a function returns a code, and the zero value beside it.
func hasNone[T comparable](t *testing.T, name string, got T, code, want int64) {
	t.Helper()
	var zero T
	if got != zero || code != want {
		t.Errorf("%s: %v, %d, not code %d", name, got, code, want)
	}
}

// hasAllDims sees that there are enough samples of each Dim or Size, and enough that are not trivial.
func hasAllDims(t *testing.T, dims map[int64]int, others int) {
	t.Helper()
	for dim := int64(1); dim <= 8; dim++ {
		if dims[dim] < 10 {
			t.Errorf("%d samples have the Dim %d", dims[dim], dim)
		}
	}
	if others < 400 {
		t.Errorf("only %d samples are not trivial", others)
	}
}

func TestSamplesAreModules(t *testing.T) {
	dims := map[int64]int{}
	others := 0
	for _, x := range someModules() {
		dims[x.m.Dim]++
		if !checkModule(t, x.h, x.m) {
			t.Errorf("sample %v of %v is no module", x.m, x.h)
		}
		if x.m != plainTrivial(x.h, x.m.Dim) {
			others++
		}
	}
	hasAllDims(t, dims, others)
}

// everyActs calls f for all Acts with the form of a module of h.
func everyActs(h impl.Hopf, dim int64, f func(m impl.Module)) {
	maps := everyLinear(h.Prime, dim, dim)
	var next func(m impl.Module, i int64)
	next = func(m impl.Module, i int64) {
		if i == h.Size {
			f(m)
			return
		}
		for _, m.Acts[i] = range maps {
			next(m, i+1)
		}
	}
	next(impl.Module{Dim: dim}, 0)
}

func TestEverySmallModule(t *testing.T) {
	tests := []struct {
		h    impl.Hopf
		dim  int64
		want int
	}{
		{groupHopf(cyclic(2, 1)), 1, 1}, {groupHopf(cyclic(31, 1)), 1, 1}, {groupHopf(cyclic(2, 1)), 2, 1},
		// There are as many as maps whose square is the identity, or the map itself.
		{groupHopf(cyclic(2, 2)), 1, 1}, {groupHopf(cyclic(2, 2)), 2, 4}, {groupHopf(cyclic(3, 2)), 2, 14},
		{plainDualHopf(groupHopf(cyclic(3, 2))), 2, 14}, {lineHopf(2, 0), 2, 4}, {lineHopf(2, 1), 2, 8},
		{groupHopf(cyclic(7, 3)), 1, 3}, {plainDualHopf(groupHopf(cyclic(2, 3))), 1, 3},
		{lineHopf(3, 0), 1, 1}, {lineHopf(3, 1), 1, 3}, {lineHopf(3, 2), 1, 1}, {sweedlerHopf(3), 1, 2},
	}
	for _, x := range tests {
		count := 0
		everyActs(x.h, x.dim, func(m impl.Module) {
			if checkModule(t, x.h, m) {
				count++
			}
		})
		if count != x.want {
			t.Errorf("%v has %d modules of %d, not %d", x.h, count, x.dim, x.want)
		}
	}
}

func TestChangedModules(t *testing.T) {
	var s numbers
	seen := map[bool]int{}
	for _, x := range someModules() {
		n, d := x.h.Size, x.m.Dim
		entry := byte(s.below(x.h.Prime))
		seen[checkModule(t, x.h, changed(x.m, func(m *impl.Module) { m.Acts[s.below(n)][s.below(d)][s.below(d)] = entry }))]++
		seen[checkModule(t, x.h, changed(x.m, func(m *impl.Module) { m.Acts[n-1][d-1][d-1] = entry }))]++
		seen[checkModule(t, x.h, changed(x.m, func(m *impl.Module) { m.Acts[0] = m.Acts[s.below(n)] }))]++
		checkModule(t, x.h, changed(x.m, func(m *impl.Module) { m.Acts[s.below(8)][s.below(8)][s.below(8)] = entry }))
	}
	if seen[true] < 100 || seen[false] < 100 {
		t.Errorf("changed modules: %v", seen)
	}
}

func TestModulesThatAreNone(t *testing.T) {
	for _, x := range badModules() {
		if checkHopfAxioms(t, x.h) != 0 || checkModule(t, x.h, x.m) {
			t.Errorf("%s: it is a module", x.name)
		}
	}
	for _, x := range badHopfs() {
		for _, m := range modulesForNone(x.h) {
			if impl.IsModule(x.h, m) {
				t.Errorf("%s: IsModule(.., %v)", x.name, m)
			}
		}
	}
}

// modulesForNone has what would be modules if h were a Hopf algebra.
func modulesForNone(h impl.Hopf) []impl.Module {
	list := []impl.Module{{}, {Dim: 1}, {Dim: h.Size, Acts: h.Mul}, {Dim: 1, Acts: [8]impl.Linear{{{1}}}}}
	if h.Size >= 1 && h.Size <= 8 {
		list = append(list, plainTrivial(h, 1), plainTrivial(h, 8))
	}
	return list
}

func TestActOn(t *testing.T) {
	var s numbers
	for _, x := range someModules() {
		p := x.h.Prime
		a, b := s.vector(p, x.h.Size), s.vector(p, x.h.Size)
		v := s.vector(p, x.m.Dim)
		last, end := basis(x.h.Size-1), basis(x.m.Dim-1)
		for _, y := range [][2]impl.Vector{{a, v}, {b, end}, {last, v}, {last, end}, {{}, v}, {a, {}}} {
			if got, code := impl.ActOn(x.h, x.m, y[0], y[1]); got != plainAct(p, x.m, y[0], y[1]) || code != impl.ErrNone {
				t.Errorf("ActOn(%v, %v, %v) = %v, %d", x.h, x.m, y, got, code)
			}
		}
		if got, _ := impl.ActOn(x.h, x.m, x.h.Unit, v); got != v {
			t.Errorf("the Unit of %v leads %v to %v", x.h, v, got)
		}
		first, _ := impl.ActOn(x.h, x.m, b, v)
		first, _ = impl.ActOn(x.h, x.m, a, first)
		if got, _ := impl.ActOn(x.h, x.m, plainProduct(algebraIn(x.h), a, b), v); got != first {
			t.Errorf("%v leads %v to %v, but its factors to %v", x.m, v, got, first)
		}
	}
}

func TestActionsThatAreKnown(t *testing.T) {
	s5, c8 := sweedlerHopf(5), groupHopf(cyclic(31, 8))
	tests := []struct {
		h          impl.Hopf
		m          impl.Module
		a, v, want impl.Vector
	}{
		{groupHopf(cyclic(3, 2)), plainRegular(groupHopf(cyclic(3, 2))), basis(1), impl.Vector{1, 2}, impl.Vector{2, 1}},
		{groupHopf(cyclic(2, 1)), plainTrivial(groupHopf(cyclic(2, 1)), 1), impl.Vector{1}, impl.Vector{1}, impl.Vector{1}},
		// (2 g + 3 x) (1 + g) = 2 g + 2 + 3 x - 3 g x.
		{s5, plainRegular(s5), impl.Vector{0, 2, 3}, impl.Vector{1, 1}, impl.Vector{2, 2, 3, 2}},
		{s5, plainTrivial(s5, 8), impl.Vector{1, 2, 3, 4}, impl.Vector{1, 2, 3, 4, 4, 3, 2, 1}, impl.Vector{3, 1, 4, 2, 2, 4, 1, 3}},
		{c8, plainRegular(c8), impl.Vector{30, 0, 0, 0, 0, 0, 0, 30}, impl.Vector{30, 0, 0, 0, 0, 0, 0, 30}, impl.Vector{1, 0, 0, 0, 0, 0, 1, 2}},
	}
	for _, x := range tests {
		if got, code := impl.ActOn(x.h, x.m, x.a, x.v); got != x.want || code != impl.ErrNone {
			t.Errorf("ActOn(%v, %v, %v, %v) = %v, %d", x.h, x.m, x.a, x.v, got, code)
		}
	}
}

func TestTrivialAndRegularModules(t *testing.T) {
	for _, h := range everyHopfForIntegrals() {
		for m := int64(1); m <= 8; m++ {
			got, code := impl.TrivialModule(h, m)
			isMadeModule(t, "TrivialModule", h, got, code, plainTrivial(h, m))
		}
		got, code := impl.RegularModule(h)
		isMadeModule(t, "RegularModule", h, got, code, plainRegular(h))
	}
}

func TestTrivialModulesOfNoDim(t *testing.T) {
	for _, m := range []int64{math.MinInt64, -8, -1, 0, 9, 10, 1 + 1<<32, math.MaxInt64} {
		for _, h := range []impl.Hopf{groupHopf(cyclic(2, 1)), sweedlerHopf(31), doubleHopf(3)} {
			got, code := impl.TrivialModule(h, m)
			hasNone(t, "TrivialModule", got, code, impl.ErrRange)
		}
		for _, x := range badHopfs() {
			got, code := impl.TrivialModule(x.h, m)
			hasNone(t, x.name, got, code, impl.ErrInvalid)
		}
	}
}

// Promise 6: characters of sums are sums.
func TestCharactersOfSumsAreSums(t *testing.T) {
	made, many := map[int64]int{}, 0
	for _, x := range modulePairs() {
		got, code := impl.SumModule(x.h, x.m, x.k)
		if x.m.Dim+x.k.Dim > 8 {
			many++
			hasNone(t, "SumModule", got, code, impl.ErrLimit)
			continue
		}
		made[got.Dim]++
		isMadeModule(t, "SumModule", x.h, got, code, plainSumModule(x.m, x.k))
		first, _ := impl.CharacterOf(x.h, x.m)
		second, _ := impl.CharacterOf(x.h, x.k)
		if both, code := impl.CharacterOf(x.h, got); both != sumOf(x.h.Prime, first, 1, second) || code != impl.ErrNone {
			t.Errorf("%v of %v has the character %v, %d, but its parts %v and %v", got, x.h, both, code, first, second)
		}
	}
	if made[8] < 10 || len(made) < 7 || many < 10 {
		t.Errorf("sums have the Dims %v, and %d are too large", made, many)
	}
}

// Promise 6: tensor products of modules are modules.
func TestTensorProductsAreModules(t *testing.T) {
	made, many := map[int64]int{}, 0
	for _, x := range modulePairs() {
		got, code := impl.TensorModule(x.h, x.m, x.k)
		if x.m.Dim*x.k.Dim > 8 {
			many++
			hasNone(t, "TensorModule", got, code, impl.ErrLimit)
			continue
		}
		made[got.Dim]++
		isMadeModule(t, "TensorModule", x.h, got, code, plainTensorModule(x.h, x.m, x.k))
		first, _ := impl.CharacterOf(x.h, x.m)
		second, _ := impl.CharacterOf(x.h, x.k)
		// Characters are multiplied as vectors of the dual.
		both, _ := impl.CharacterOf(x.h, got)
		if both != plainProduct(algebraIn(plainDualHopf(x.h)), first, second) {
			t.Errorf("%v of %v has the character %v, but its parts %v and %v", got, x.h, both, first, second)
		}
	}
	if made[8] < 10 || made[4] < 10 || made[6] < 10 || many < 10 {
		t.Errorf("tensor products have the Dims %v, and %d are too large", made, many)
	}
}

func TestTensorProductsWithTheTrivialModuleAreTheModule(t *testing.T) {
	for _, x := range someModules() {
		one, _ := impl.TrivialModule(x.h, 1)
		got, code := impl.TensorModule(x.h, x.m, one)
		isMadeModule(t, "TensorModule from the right", x.h, got, code, x.m)
		got, code = impl.TensorModule(x.h, one, x.m)
		isMadeModule(t, "TensorModule from the left", x.h, got, code, x.m)
	}
}

func TestTensorProductsAreAssociative(t *testing.T) {
	count := 0
	for _, x := range modulePairs() {
		for _, l := range []impl.Module{x.m, x.k} {
			if x.m.Dim*x.k.Dim*l.Dim > 8 || x.m.Dim == 1 {
				continue
			}
			count++
			first, _ := impl.TensorModule(x.h, x.m, x.k)
			first, _ = impl.TensorModule(x.h, first, l)
			second, _ := impl.TensorModule(x.h, x.k, l)
			second, code := impl.TensorModule(x.h, x.m, second)
			isMadeModule(t, "TensorModule of three", x.h, second, code, first)
		}
	}
	if count < 20 {
		t.Errorf("only %d tensor products of three", count)
	}
}

func TestSumsAndTensorProductsAtTheLimit(t *testing.T) {
	h := groupHopf(cyclic(2, 1))
	for m := int64(1); m <= 8; m++ {
		for k := int64(1); k <= 8; k++ {
			first, second := plainTrivial(h, m), plainTrivial(h, k)
			sum, code := impl.SumModule(h, first, second)
			if m+k <= 8 {
				isMadeModule(t, "SumModule", h, sum, code, plainTrivial(h, m+k))
			} else {
				hasNone(t, "SumModule", sum, code, impl.ErrLimit)
			}
			tensor, code := impl.TensorModule(h, first, second)
			if m*k <= 8 {
				isMadeModule(t, "TensorModule", h, tensor, code, plainTrivial(h, m*k))
			} else {
				hasNone(t, "TensorModule", tensor, code, impl.ErrLimit)
			}
		}
	}
}

// planeOf has the basis v, x v for Sweedler's Hopf algebra, with g v = v.
func planeOf(p int64) impl.Module {
	minus := byte(p - 1)
	return impl.Module{Dim: 2, Acts: [8]impl.Linear{
		{{1}, {0, 1}}, {{1}, {0, minus}}, {{0, 1}}, {{0, minus}},
	}}
}

// The coproduct of x is g (x) x + x (x) 1, so that both parts are not alike.
func TestProductsAndDualsThatAreKnown(t *testing.T) {
	h, plane := sweedlerHopf(5), planeOf(5)
	sign := formModule(h, impl.Vector{1, 4})
	if !checkModule(t, h, plane) || !checkModule(t, h, sign) {
		t.Fatal("the samples are no modules")
	}
	got, code := impl.TensorModule(h, plane, plane)
	isMadeModule(t, "the square of the plane", h, got, code, impl.Module{Dim: 4, Acts: [8]impl.Linear{
		{basis(0), basis(1), basis(2), basis(3)},
		{basis(0), {0, 4}, {0, 0, 4}, basis(3)},
		{{0, 1, 1}, basis(3), {0, 0, 0, 4}, {}},
		{{0, 4, 4}, basis(3), {0, 0, 0, 4}, {}},
	}})
	got, code = impl.TensorModule(h, sign, plane)
	isMadeModule(t, "the sign and the plane", h, got, code, impl.Module{Dim: 2, Acts: [8]impl.Linear{
		{{1}, {0, 1}}, {{4}, {0, 1}}, {{0, 4}}, {{0, 4}},
	}})
	got, code = impl.TensorModule(h, plane, sign)
	isMadeModule(t, "the plane and the sign", h, got, code, impl.Module{Dim: 2, Acts: [8]impl.Linear{
		{{1}, {0, 1}}, {{4}, {0, 1}}, {{0, 1}}, {{0, 1}},
	}})
	got, code = impl.SumModule(h, sign, plane)
	isMadeModule(t, "the sum of the sign and the plane", h, got, code, impl.Module{Dim: 3, Acts: [8]impl.Linear{
		{{1}, {0, 1}, {0, 0, 1}}, {{4}, {0, 1}, {0, 0, 4}}, {{}, {0, 0, 1}}, {{}, {0, 0, 4}},
	}})
	// f(1) leads S(x) v = - g x v = x v to 1, and S(g x) v = S(x) g v = x v as well.
	got, code = impl.DualModule(h, plane)
	isMadeModule(t, "the dual of the plane", h, got, code, impl.Module{Dim: 2, Acts: [8]impl.Linear{
		{{1}, {0, 1}}, {{1}, {0, 4}}, {{}, {1}}, {{}, {1}},
	}})
}

func TestDualsOfModules(t *testing.T) {
	for _, x := range someModules() {
		got, code := impl.DualModule(x.h, x.m)
		isMadeModule(t, "DualModule", x.h, got, code, plainDualModule(x.h, x.m))
		twice, code := impl.DualModule(x.h, got)
		// The dual of the dual is the module on which S has been taken twice.
		want := impl.Module{Dim: x.m.Dim}
		for i := range x.h.Size {
			square := plainImage(x.h.Prime, x.h.Antipode, x.h.Antipode[i])
			for j := range x.m.Dim {
				want.Acts[i][j] = plainAct(x.h.Prime, x.m, square, basis(j))
			}
		}
		isMadeModule(t, "DualModule taken twice", x.h, twice, code, want)
	}
	for _, p := range primes() {
		h := groupHopf(quaternionGroup(p))
		got, code := impl.DualModule(h, plainTrivial(h, 8))
		isMadeModule(t, "DualModule of the trivial one", h, got, code, plainTrivial(h, 8))
	}
}

func plainInvariant(h impl.Hopf, m impl.Module, v impl.Vector) bool {
	for i := range h.Size {
		if plainAct(h.Prime, m, basis(i), v) != timesNumber(h.Prime, int64(h.Counit[i]), v) {
			return false
		}
	}
	return true
}

// invariantsIn calls InvariantsOf, whose result has to be a reduced list of invariants.
func invariantsIn(t *testing.T, h impl.Hopf, m impl.Module) []impl.Vector {
	t.Helper()
	list, code := impl.InvariantsOf(h, m)
	if code != impl.ErrNone || !isReduced(list) {
		t.Errorf("InvariantsOf(%v, %v) = %v, %d", h, m, list, code)
	}
	for _, v := range list {
		if !plainInvariant(h, m, v) || !impl.IsVector(h.Prime, m.Dim, v) {
			t.Errorf("InvariantsOf(%v, %v) has %v", h, m, v)
		}
	}
	return list
}

func TestInvariantsAmongAllVectors(t *testing.T) {
	small := smallModules(1000)
	if len(small) < 100 {
		t.Fatalf("only %d modules", len(small))
	}
	sizes := map[int]int{}
	for _, x := range small {
		list := invariantsIn(t, x.h, x.m)
		sizes[len(list)]++
		span := spanOf(x.h.Prime, list)
		for _, v := range everyVector(x.h.Prime, x.m.Dim) {
			if plainInvariant(x.h, x.m, v) != span[v] {
				t.Errorf("InvariantsOf(%v, %v) = %v, and %v", x.h, x.m, list, v)
			}
		}
	}
	if sizes[0] == 0 || sizes[1] == 0 || sizes[2] == 0 || sizes[8] == 0 {
		t.Errorf("numbers of invariants: %v", sizes)
	}
}

func TestInvariantsThatAreKnown(t *testing.T) {
	all := impl.Vector{1, 1, 1, 1, 1, 1, 1, 1}
	c8, d3 := groupHopf(cyclic(2, 8)), groupHopf(dihedral(31, 3))
	sweedler := sweedlerHopf(5)
	tests := []struct {
		h    impl.Hopf
		m    impl.Module
		want []impl.Vector
	}{
		{c8, plainRegular(c8), []impl.Vector{all}},
		{c8, plainTrivial(c8, 3), []impl.Vector{basis(0), basis(1), basis(2)}},
		{d3, formModule(d3, impl.Vector{1, 1, 1, 30, 30, 30}), nil},
		{d3, plainSumModule(plainTrivial(d3, 1), formModule(d3, impl.Vector{1, 1, 1, 30, 30, 30})), []impl.Vector{basis(0)}},
		{d3, plainSumModule(plainRegular(d3), plainTrivial(d3, 2)), []impl.Vector{{1, 1, 1, 1, 1, 1}, basis(6), basis(7)}},
		{sweedler, plainRegular(sweedler), []impl.Vector{{0, 0, 1, 1}}},
		{sweedler, planeOf(5), nil},
		{sweedler, plainDualModule(sweedler, planeOf(5)), []impl.Vector{{1}}},
		{pointModules()[3].h, pointModules()[3].m, []impl.Vector{{1, 1}, {0, 0, 1, 1, 1}}},
	}
	for _, x := range tests {
		if got := invariantsIn(t, x.h, x.m); !slices.Equal(got, x.want) {
			t.Errorf("InvariantsOf(%v, %v) = %v, not %v", x.h, x.m, got, x.want)
		}
	}
}

// Left integrals are the invariants of the regular module.
func TestInvariantsOfRegularAndTrivialModules(t *testing.T) {
	for _, h := range everyHopfForIntegrals() {
		if got := invariantsIn(t, h, plainRegular(h)); !slices.Equal(got, []impl.Vector{leftOf(t, h)}) {
			t.Errorf("the regular module of %v has the invariants %v", h, got)
		}
		for m := int64(1); m <= 8; m++ {
			if got := invariantsIn(t, h, plainTrivial(h, m)); int64(len(got)) != m {
				t.Errorf("the trivial module %d of %v has the invariants %v", m, h, got)
			}
		}
	}
}

func TestCharacters(t *testing.T) {
	for _, x := range someModules() {
		var want impl.Vector
		for i := range x.h.Size {
			sum := int64(0)
			for j := range x.m.Dim {
				sum += int64(x.m.Acts[i][j][j])
			}
			want[i] = byte(sum % x.h.Prime)
		}
		got, code := impl.CharacterOf(x.h, x.m)
		if got != want || code != impl.ErrNone {
			t.Errorf("CharacterOf(%v, %v) = %v, %d", x.h, x.m, got, code)
		}
		if plainValue(x.h.Prime, got, x.h.Unit) != x.m.Dim%x.h.Prime {
			t.Errorf("the character %v of %v for the Unit", got, x.m)
		}
	}
	for _, x := range everyNamedHopf() {
		got, code := impl.CharacterOf(x.h, plainRegular(x.h))
		for i := range x.h.Size {
			trace, _ := impl.TraceOf(algebraIn(x.h), basis(i))
			if int64(got[i]) != trace || code != impl.ErrNone {
				t.Errorf("%s for %d: the regular character is %v, %d", x.name, x.h.Prime, got, code)
			}
		}
	}
}

func TestCharactersThatAreKnown(t *testing.T) {
	d4, c8, sweedler := groupHopf(dihedral(31, 4)), groupHopf(cyclic(2, 8)), sweedlerHopf(3)
	tests := []struct {
		h    impl.Hopf
		m    impl.Module
		want impl.Vector
	}{
		{d4, plainRegular(d4), impl.Vector{8}},
		{c8, plainRegular(c8), impl.Vector{}},
		{c8, plainTrivial(c8, 7), impl.Vector{1, 1, 1, 1, 1, 1, 1, 1}},
		{d4, plainTrivial(d4, 8), impl.Vector{8, 8, 8, 8, 8, 8, 8, 8}},
		{sweedler, planeOf(3), impl.Vector{2}},
		// The corners that stay: all, none of a rotation, two or none of a mirror.
		{pointModules()[9].h, pointModules()[9].m, impl.Vector{4, 0, 0, 0, 2, 0, 2, 0}},
	}
	for _, x := range tests {
		if got, code := impl.CharacterOf(x.h, x.m); got != x.want || code != impl.ErrNone {
			t.Errorf("CharacterOf(%v, %v) = %v, %d", x.h, x.m, got, code)
		}
	}
}
