package tests

import (
	"testing"

	"loop.example/g01230/impl"
)

func TestMaxOrder(t *testing.T) {
	if impl.MaxOrder != 60 {
		t.Errorf("MaxOrder is %d", impl.MaxOrder)
	}
}

// checkHopfAxioms returns the number of the first axiom that fails.
func checkHopfAxioms(t *testing.T, h impl.Hopf) int64 {
	t.Helper()
	want := plainFails(h)
	if got, code := impl.AxiomThatFails(h); got != want || code != impl.ErrNone {
		t.Errorf("AxiomThatFails(%v) = %d, %d, not %d", h, got, code, want)
	}
	if got := impl.IsHopf(h); got != (want == 0) {
		t.Errorf("IsHopf(%v) = %v", h, got)
	}
	return want
}

func TestSamplesAreHopfAlgebras(t *testing.T) {
	for _, h := range someHopfs() {
		if checkHopfAxioms(t, h) != 0 {
			t.Errorf("sample %v is no Hopf algebra", h)
		}
	}
}

// everyLinear returns all maps between the sizes from and n.
func everyLinear(p, from, n int64) []impl.Linear {
	list := []impl.Linear{{}}
	for i := range from {
		var longer []impl.Linear
		for _, f := range list {
			for _, v := range everyVector(p, n) {
				f[i] = v
				longer = append(longer, f)
			}
		}
		list = longer
	}
	return list
}

// checkBialgebra tries all maps as Antipode: at most one may be one, and FindAntipode finds it.
func checkBialgebra(t *testing.T, h impl.Hopf, seen map[int64]int) {
	t.Helper()
	var antipodes []impl.Linear
	for _, h.Antipode = range everyLinear(h.Prime, h.Size, h.Size) {
		fails := checkHopfAxioms(t, h)
		seen[fails]++
		if fails == 0 {
			antipodes = append(antipodes, h.Antipode)
		}
		if fails > 0 && fails < 6 {
			checkNoBialgebra(t, h)
		}
	}
	if fails := plainFails(h); fails > 0 && fails < 6 {
		return
	}
	for _, h.Antipode = range everyLinear(h.Prime, h.Size, h.Size) {
		got, code := impl.FindAntipode(h)
		switch {
		case len(antipodes) == 0 && (got != impl.Linear{} || code != impl.ErrNotFound):
			t.Errorf("FindAntipode(%v) = %v, %d", h, got, code)
		case len(antipodes) == 1 && (got != antipodes[0] || code != impl.ErrNone):
			t.Errorf("FindAntipode(%v) = %v, %d, not %v", h, got, code, antipodes[0])
		case len(antipodes) > 1:
			t.Fatalf("%v has the antipodes %v", h, antipodes)
		}
	}
}

func checkNoBialgebra(t *testing.T, h impl.Hopf) {
	t.Helper()
	if got, code := impl.FindAntipode(h); got != (impl.Linear{}) || code != impl.ErrInvalid {
		t.Errorf("FindAntipode(%v) = %v, %d", h, got, code)
	}
}

// Axiom 7 is never the first one that fails: what is inverse from the left in an algebra of finite
// size, here that of maps with convolutions, is inverse from the right.
func TestAxiomsOfAllSmallHopfTables(t *testing.T) {
	seen := map[int64]int{}
	for _, size := range [][2]int64{{2, 1}, {3, 1}, {5, 1}, {2, 2}} {
		var algebras []impl.Algebra
		everyShaped(size[0], size[1], func(a impl.Algebra) {
			if plainFault(a) == nil && plainUnit(a) {
				algebras = append(algebras, a)
			}
		})
		for _, a := range algebras {
			for _, b := range algebras {
				checkBialgebra(t, bothOf(a, plainDual(b), impl.Linear{}), seen)
			}
		}
	}
	for _, fails := range []int64{0, 3, 4, 5, 6} {
		if seen[fails] == 0 {
			t.Errorf("axiom %d is not among %v", fails, seen)
		}
	}
	if seen[7] != 0 {
		t.Errorf("axiom 7 is among %v", seen)
	}
}

func TestAxiomsOfChangedHopfAlgebras(t *testing.T) {
	var s numbers
	seen := map[int64]int{}
	for _, h := range someHopfs() {
		p, n := h.Prime, h.Size
		for range 4 {
			x := byte(s.below(p))
			seen[checkHopfAxioms(t, changed(h, func(h *impl.Hopf) { h.Unit[s.below(n)] = x }))]++
			seen[checkHopfAxioms(t, changed(h, func(h *impl.Hopf) { h.Mul[s.below(n)][s.below(n)][s.below(n)] = x }))]++
			seen[checkHopfAxioms(t, changed(h, func(h *impl.Hopf) { h.Counit[s.below(n)] = x }))]++
			seen[checkHopfAxioms(t, changed(h, func(h *impl.Hopf) { h.Com[s.below(n)][s.below(n)][s.below(n)] = x }))]++
			seen[checkHopfAxioms(t, changed(h, func(h *impl.Hopf) { h.Antipode[s.below(n)][s.below(n)] = x }))]++
		}
	}
	for _, fails := range []int64{0, 1, 2, 6} {
		if seen[fails] == 0 {
			t.Errorf("axiom %d is not among %v", fails, seen)
		}
	}
}

// Algebras and coalgebras of different Hopf algebras mostly do not fit together.
func TestAxiomsOfMixedHopfAlgebras(t *testing.T) {
	seen := map[int64]int{}
	for _, h := range someHopfs() {
		for _, k := range someHopfs() {
			if h.Prime == k.Prime && h.Size == k.Size {
				seen[checkHopfAxioms(t, bothOf(algebraIn(h), coalgebraIn(k), h.Antipode))]++
			}
		}
	}
	for _, fails := range []int64{0, 3, 4} {
		if seen[fails] == 0 {
			t.Errorf("axiom %d is not among %v", fails, seen)
		}
	}
}

func TestEachAxiomThatFailsFirst(t *testing.T) {
	seen := map[int64]int{}
	for _, x := range brokenHopfs() {
		seen[x.fails]++
		if got := checkHopfAxioms(t, x.h); got != x.fails {
			t.Errorf("%s: axiom %d fails first, not %d", x.name, got, x.fails)
		}
	}
	for fails := range int64(6) {
		if seen[fails+1] < 2 {
			t.Errorf("axiom %d: samples %v", fails+1, seen)
		}
	}
}

func TestPartsOfHopfAlgebras(t *testing.T) {
	var s numbers
	for _, h := range someHopfs() {
		a, c := algebraIn(h), coalgebraIn(h)
		if got, code := impl.AlgebraOf(h); got != a || code != impl.ErrNone {
			t.Errorf("AlgebraOf(%v) = %v, %d", h, got, code)
		}
		if got, code := impl.CoalgebraOf(h); got != c || code != impl.ErrNone {
			t.Errorf("CoalgebraOf(%v) = %v, %d", h, got, code)
		}
		for _, v := range []impl.Vector{{}, h.Unit, s.vector(h.Prime, h.Size), s.vector(h.Prime, h.Size)} {
			if got, code := impl.CoproductOf(h, v); got != plainCoproduct(c, v) || code != impl.ErrNone {
				t.Errorf("CoproductOf(%v, %v) = %v, %d", h, v, got, code)
			}
			if got, code := impl.CounitOf(h, v); got != plainCounit(c, v) || code != impl.ErrNone {
				t.Errorf("CounitOf(%v, %v) = %d, %d", h, v, got, code)
			}
			if got, code := impl.AntipodeOf(h, v); got != plainImage(h.Prime, h.Antipode, v) || code != impl.ErrNone {
				t.Errorf("AntipodeOf(%v, %v) = %v, %d", h, v, got, code)
			}
		}
	}
}

func TestValuesThatAreKnown(t *testing.T) {
	full := impl.Vector{30, 30, 30, 30, 30, 30, 30, 30}
	tests := []struct {
		h         impl.Hopf
		v         impl.Vector
		coproduct impl.Linear
		counit    int64
		antipode  impl.Vector
	}{
		{groupHopf(cyclic(2, 1)), impl.Vector{1}, impl.Linear{{1}}, 1, impl.Vector{1}},
		{groupHopf(cyclic(7, 3)), impl.Vector{2, 3}, impl.Linear{{2}, {0, 3}}, 5, impl.Vector{2, 0, 3}},
		{groupHopf(cyclic(31, 2)), impl.Vector{30, 2}, impl.Linear{{30}, {0, 2}}, 1, impl.Vector{30, 2}},
		{sweedlerHopf(5), impl.Vector{0, 0, 2}, impl.Linear{1: {0, 0, 2}, 2: {2}}, 0, impl.Vector{0, 0, 0, 3}},
		{sweedlerHopf(5), impl.Vector{1, 2, 0, 3}, impl.Linear{{1, 0, 0, 3}, {0, 2}, {}, {0, 3}}, 3, impl.Vector{1, 2, 3}},
		{lineHopf(3, 2), impl.Vector{1, 0, 2}, impl.Linear{{1, 0, 2}, {0, 1}, {2}}, 1, impl.Vector{1, 0, 2}},
		{lineHopf(7, 0), impl.Vector{0, 0, 0, 1}, impl.Linear{{3: 1}, {2: 3}, {1: 3}, {1}}, 0, impl.Vector{3: 6}},
		{plainDualHopf(groupHopf(cyclic(31, 8))), full, impl.Linear{full, full, full, full, full, full, full, full}, 30, full},
		{doubleHopf(31), impl.Vector{6: 1}, impl.Linear{
			{6: 1}, {}, {}, {4: 30}, {}, {2: 1}, {1},
		}, 0, impl.Vector{6: 1}},
	}
	for _, x := range tests {
		if got, code := impl.CoproductOf(x.h, x.v); got != x.coproduct || code != impl.ErrNone {
			t.Errorf("CoproductOf(%v, %v) = %v, %d", x.h, x.v, got, code)
		}
		if got, code := impl.CounitOf(x.h, x.v); got != x.counit || code != impl.ErrNone {
			t.Errorf("CounitOf(%v, %v) = %d, %d", x.h, x.v, got, code)
		}
		if got, code := impl.AntipodeOf(x.h, x.v); got != x.antipode || code != impl.ErrNone {
			t.Errorf("AntipodeOf(%v, %v) = %v, %d", x.h, x.v, got, code)
		}
	}
}

func TestAntipodesAreFoundAgain(t *testing.T) {
	var s numbers
	for _, h := range someHopfs() {
		want := h.Antipode
		tried := []impl.Linear{want, {}, plainIdentity(h.Size), s.anyMap(h.Prime, h.Size, h.Size)}
		for _, h.Antipode = range tried {
			if got, code := impl.FindAntipode(h); got != want || code != impl.ErrNone {
				t.Errorf("FindAntipode(%v) = %v, %d, not %v", h, got, code, want)
			}
		}
	}
}

func TestBialgebrasWithoutAntipode(t *testing.T) {
	var s numbers
	for _, p := range []int64{2, 3, 31} {
		for n := int64(2); n <= 8; n++ {
			for _, h := range monoids(p, n) {
				for _, h.Antipode = range []impl.Linear{{}, plainIdentity(n), s.anyMap(p, n, n)} {
					if fails := checkHopfAxioms(t, h); fails != 6 {
						t.Errorf("axiom %d of %v fails", fails, h)
					}
					if got, code := impl.FindAntipode(h); got != (impl.Linear{}) || code != impl.ErrNotFound {
						t.Errorf("FindAntipode(%v) = %v, %d", h, got, code)
					}
				}
			}
		}
	}
}

// The fourth power of S has an order that divides the size, by Radford's formula and the theorem of
// Nichols and Zoeller, so that no S of at most eight basis elements has an order beyond 32.
func TestOrdersOfAntipodes(t *testing.T) {
	for _, h := range someHopfs() {
		order, power := int64(1), h.Antipode
		for power != plainIdentity(h.Size) {
			for i := range power {
				power[i] = plainImage(h.Prime, h.Antipode, power[i])
			}
			order++
		}
		if got, code := impl.OrderOfAntipode(h); got != order || code != impl.ErrNone || 4*h.Size%got != 0 {
			t.Errorf("OrderOfAntipode(%v) = %d, %d, not %d", h, got, code, order)
		}
	}
}

func TestOrdersThatAreKnown(t *testing.T) {
	tests := []struct {
		h    impl.Hopf
		want int64
	}{
		{groupHopf(cyclic(2, 1)), 1}, {groupHopf(cyclic(31, 2)), 1}, {groupHopf(cyclic(31, 3)), 2},
		{groupHopf(cyclic(31, 8)), 2}, {groupHopf(dihedral(2, 3)), 2}, {groupHopf(quaternionGroup(31)), 2},
		{lineHopf(2, 0), 1}, {lineHopf(7, 3), 2}, {sweedlerHopf(2), 2}, {sweedlerHopf(3), 4},
		{sweedlerHopf(31), 4}, {plainDualHopf(sweedlerHopf(31)), 4}, {doubleHopf(3), 4},
		{plainTensor(sweedlerHopf(5), groupHopf(cyclic(5, 2))), 4},
	}
	for _, x := range tests {
		if got, code := impl.OrderOfAntipode(x.h); got != x.want || code != impl.ErrNone {
			t.Errorf("OrderOfAntipode(%v) = %d, %d, not %d", x.h, got, code, x.want)
		}
	}
}

func TestAntipodesTurnProductsRound(t *testing.T) {
	var s numbers
	for _, h := range someHopfs() {
		a, code := impl.AlgebraOf(h)
		if code != impl.ErrNone {
			t.Fatalf("AlgebraOf(%v): code %d", h, code)
		}
		turned := func(v impl.Vector) impl.Vector {
			image, code := impl.AntipodeOf(h, v)
			if code != impl.ErrNone {
				t.Errorf("AntipodeOf(%v, %v): code %d", h, v, code)
			}
			return image
		}
		for range 20 {
			v, w := s.vector(h.Prime, h.Size), s.vector(h.Prime, h.Size)
			product, _ := impl.MultiplyVectors(a, v, w)
			back, code := impl.MultiplyVectors(a, turned(w), turned(v))
			if turned(product) != back || code != impl.ErrNone {
				t.Errorf("S does not turn the product of %v and %v in %v round", v, w, h)
			}
		}
		if turned(h.Unit) != h.Unit {
			t.Errorf("S leads the Unit of %v to %v", h, turned(h.Unit))
		}
	}
}

func TestDualsOfDualsAreTheHopfAlgebras(t *testing.T) {
	for _, h := range someHopfs() {
		dual, code := impl.DualHopf(h)
		if dual != plainDualHopf(h) || code != impl.ErrNone {
			t.Errorf("DualHopf(%v) = %v, %d", h, dual, code)
		}
		if back, code := impl.DualHopf(dual); back != h || code != impl.ErrNone {
			t.Errorf("the dual of the dual of %v = %v, %d", h, back, code)
		}
	}
}

// isNewHopf sees that a result is a Hopf algebra.
func isNewHopf(t *testing.T, name string, h impl.Hopf, code int64) {
	t.Helper()
	if !impl.IsHopf(h) || plainFails(h) != 0 || code != impl.ErrNone {
		t.Errorf("%s: %v, %d", name, h, code)
	}
}

// checkInverse sees that two maps of h lead each other back.
func checkInverse(t *testing.T, h impl.Hopf, f, back impl.Linear) {
	t.Helper()
	for i := range h.Size {
		first, second := plainImage(h.Prime, f, back[i]), plainImage(h.Prime, back, f[i])
		if first != basis(i) || second != basis(i) {
			t.Errorf("%v and %v of %v are not inverse", f, back, h)
		}
	}
}

func TestDualsOppositesAndCoOppositesAreHopfAlgebras(t *testing.T) {
	for _, h := range someHopfs() {
		dual, code := impl.DualHopf(h)
		isNewHopf(t, "DualHopf", dual, code)
		opposite, code := impl.OppositeHopf(h)
		isNewHopf(t, "OppositeHopf", opposite, code)
		coopposite, code := impl.CoOppositeHopf(h)
		isNewHopf(t, "CoOppositeHopf", coopposite, code)
		checkInverse(t, h, h.Antipode, opposite.Antipode)
		if coopposite.Antipode != opposite.Antipode {
			t.Errorf("Antipodes %v and %v of %v", opposite.Antipode, coopposite.Antipode, h)
		}
		var want, cowant impl.Table
		for i := range 8 {
			for j := range 8 {
				want[i][j] = h.Mul[j][i]
				for k := range 8 {
					cowant[i][j][k] = h.Com[i][k][j]
				}
			}
		}
		opposite.Antipode, coopposite.Antipode = h.Antipode, h.Antipode
		if opposite != changed(h, func(h *impl.Hopf) { h.Mul = want }) {
			t.Errorf("OppositeHopf(%v) = %v", h, opposite)
		}
		if coopposite != changed(h, func(h *impl.Hopf) { h.Com = cowant }) {
			t.Errorf("CoOppositeHopf(%v) = %v", h, coopposite)
		}
	}
}

func TestOppositesOfOppositesAreTheHopfAlgebras(t *testing.T) {
	for _, h := range someHopfs() {
		opposite, _ := impl.OppositeHopf(h)
		if back, code := impl.OppositeHopf(opposite); back != h || code != impl.ErrNone {
			t.Errorf("the opposite of the opposite of %v = %v, %d", h, back, code)
		}
		coopposite, _ := impl.CoOppositeHopf(h)
		if back, code := impl.CoOppositeHopf(coopposite); back != h || code != impl.ErrNone {
			t.Errorf("the coopposite of the coopposite of %v = %v, %d", h, back, code)
		}
		both, code := impl.CoOppositeHopf(opposite)
		if both.Antipode != h.Antipode || code != impl.ErrNone {
			t.Errorf("the coopposite of the opposite of %v = %v, %d", h, both, code)
		}
		// S turns products and coproducts round.
		if ok, code := impl.IsHopfMap(h, both, h.Antipode); !ok || code != impl.ErrNone {
			t.Errorf("S of %v: %v, %d", h, ok, code)
		}
	}
}

// hopfPairs returns all pairs of samples with equal Primes.
func hopfPairs() [][2]impl.Hopf {
	var pairs [][2]impl.Hopf
	for _, h := range someHopfs() {
		for _, k := range someHopfs() {
			if h.Prime == k.Prime {
				pairs = append(pairs, [2]impl.Hopf{h, k})
			}
		}
	}
	return pairs
}

func TestTensorProductsAreHopfAlgebras(t *testing.T) {
	sizes := map[int64]int{}
	for _, x := range hopfPairs() {
		size := x[0].Size * x[1].Size
		sizes[min(size, 9)]++
		got, code := impl.TensorHopf(x[0], x[1])
		if size > 8 {
			if got != (impl.Hopf{}) || code != impl.ErrLimit {
				t.Errorf("TensorHopf(%v, %v) = %v, %d", x[0], x[1], got, code)
			}
			continue
		}
		isNewHopf(t, "TensorHopf", got, code)
		if got != plainTensor(x[0], x[1]) {
			t.Errorf("TensorHopf(%v, %v) = %v", x[0], x[1], got)
		}
	}
	for size := range int64(9) {
		if sizes[size+1] == 0 {
			t.Errorf("no tensor product has the size %d", size+1)
		}
	}
}

func TestSizesOfTensorProducts(t *testing.T) {
	for _, p := range []int64{2, 31} {
		for n := int64(1); n <= 8; n++ {
			for m := int64(1); m <= 8; m++ {
				got, code := impl.TensorHopf(groupHopf(cyclic(p, n)), groupHopf(cyclic(p, m)))
				if n*m <= 8 && (got.Size != n*m || code != impl.ErrNone) {
					t.Errorf("TensorHopf of %d and %d: %d, %d", n, m, got.Size, code)
				}
				if n*m > 8 && (got != impl.Hopf{} || code != impl.ErrLimit) {
					t.Errorf("TensorHopf of %d and %d: %v, %d", n, m, got, code)
				}
			}
		}
	}
}

func TestTensorProductsThatAreKnown(t *testing.T) {
	got, code := impl.TensorHopf(groupHopf(cyclic(5, 2)), groupHopf(cyclic(5, 3)))
	want := groupHopf(groupAlgebra(5, 6, func(i, j int64) int64 { return (i/3+j/3)%2*3 + (i+j-i/3*3-j/3*3)%3 }))
	if got != want || code != impl.ErrNone {
		t.Errorf("TensorHopf = %v, %d, not %v", got, code, want)
	}
	got, code = impl.TensorHopf(lineHopf(2, 1), sweedlerHopf(2))
	if code != impl.ErrNone || got.Mul[5][6] != (impl.Vector{7: 1}) || got.Com[6][1][6] != 1 ||
		got.Com[6][5][2] != 1 || got.Com[6][2][4] != 1 || got.Com[6][6][0] != 1 {
		t.Errorf("TensorHopf = %v, %d", got, code)
	}
}

func plainIsMap(h, k impl.Hopf, f impl.Linear) bool {
	p, a, c := k.Prime, algebraIn(k), coalgebraIn(k)
	for i := range h.Size {
		for j := range h.Size {
			if plainImage(p, f, h.Mul[i][j]) != plainProduct(a, f[i], f[j]) {
				return false
			}
		}
		if plainPairImage(p, f, h.Com[i]) != plainCoproduct(c, f[i]) || plainCounit(c, f[i]) != int64(h.Counit[i]) {
			return false
		}
	}
	return plainImage(p, f, h.Unit) == k.Unit
}

// checkHopfMap returns whether f is a map of Hopf algebras.
func checkHopfMap(t *testing.T, h, k impl.Hopf, f impl.Linear) bool {
	t.Helper()
	want := plainIsMap(h, k, f)
	if got, code := impl.IsHopfMap(h, k, f); got != want || code != impl.ErrNone {
		t.Errorf("IsHopfMap(%v, %v, %v) = %v, %d", h, k, f, got, code)
	}
	return want
}

func TestEverySmallHopfMap(t *testing.T) {
	for _, x := range hopfPairs() {
		p, n, m := x[0].Prime, x[0].Size, x[1].Size
		if p > 3 || n*m > 6 {
			continue
		}
		maps := 0
		for _, f := range everyLinear(p, n, m) {
			if checkHopfMap(t, x[0], x[1], f) {
				maps++
			}
		}
		if maps == 0 {
			t.Errorf("not even the unit map is one from %v to %v", x[0], x[1])
		}
	}
}

func TestHopfMapsBetweenSamples(t *testing.T) {
	var s numbers
	for _, x := range hopfPairs() {
		h, k := x[0], x[1]
		unit := plainPair(h.Prime, h.Counit, k.Unit)
		if !checkHopfMap(t, h, k, unit) {
			t.Errorf("the unit map is none from %v to %v", h, k)
		}
		checkHopfMap(t, h, k, s.anyMap(h.Prime, h.Size, k.Size))
		checkHopfMap(t, h, k, impl.Linear{})
		unit[s.below(h.Size)] = s.vector(k.Prime, k.Size)
		checkHopfMap(t, h, k, unit)
	}
}

func TestHopfMapsOfOneHopfAlgebra(t *testing.T) {
	seen := map[bool]int{}
	for _, h := range someHopfs() {
		if !checkHopfMap(t, h, h, plainIdentity(h.Size)) {
			t.Errorf("the identity of %v is no map", h)
		}
		seen[checkHopfMap(t, h, h, h.Antipode)]++
		square := h.Antipode
		for i := range square {
			square[i] = plainImage(h.Prime, h.Antipode, square[i])
		}
		if !checkHopfMap(t, h, h, square) {
			t.Errorf("the square of S of %v is no map", h)
		}
	}
	if seen[true] == 0 || seen[false] == 0 {
		t.Errorf("antipodes that are maps: %v", seen)
	}
}

func TestHopfMapsThatAreKnown(t *testing.T) {
	c2, c4, c8 := groupHopf(cyclic(5, 2)), groupHopf(cyclic(5, 4)), groupHopf(cyclic(5, 8))
	d4, w := groupHopf(dihedral(5, 4)), sweedlerHopf(5)
	bits := groupHopf(groupAlgebra(5, 8, func(i, j int64) int64 { return i ^ j }))
	tests := []struct {
		name string
		h, k impl.Hopf
		f    impl.Linear
		want bool
	}{
		{"C8 onto C2", c8, c2, impl.Linear{{1}, {0, 1}, {1}, {0, 1}, {1}, {0, 1}, {1}, {0, 1}}, true},
		{"C2 into C8", c2, c8, impl.Linear{{1}, {4: 1}}, true},
		{"C2 into C8 at a wrong place", c2, c8, impl.Linear{{1}, {2: 1}}, false},
		{"signs of D4", d4, c2, impl.Linear{{1}, {1}, {1}, {1}, {0, 1}, {0, 1}, {0, 1}, {0, 1}}, true},
		{"C2 into Sweedler's", c2, w, impl.Linear{{1}, {0, 1}}, true},
		{"Sweedler's onto C2", w, c2, impl.Linear{{1}, {0, 1}}, true},
		{"twice x", w, w, impl.Linear{{1}, {0, 1}, {0, 0, 2}, {0, 0, 0, 2}}, true},
		{"twice x alone", w, w, impl.Linear{{1}, {0, 1}, {0, 0, 2}, {0, 0, 0, 1}}, false},
		{"products alone", c4, c4, impl.Linear{{1}, {0, 2}, {0, 0, 4}, {0, 0, 0, 3}}, false},
		{"coproducts alone", c4, c4, impl.Linear{{1}, {0, 1}, {0, 1}, {0, 0, 0, 1}}, false},
		{"products with the first two elements alone", bits, c2, impl.Linear{{1}, {1}, {0, 1}, {0, 1}, {1}, {1}, {1}, {1}}, false},
		{"the second bit", bits, c2, impl.Linear{{1}, {1}, {0, 1}, {0, 1}, {1}, {1}, {0, 1}, {0, 1}}, true},
		{"all to the second element", c2, c2, impl.Linear{{0, 1}, {0, 1}}, false},
		{"C2 and its functions", c2, plainDualHopf(c2), impl.Linear{{1, 1}, {1, 4}}, true},
	}
	for _, x := range tests {
		if got := checkHopfMap(t, x.h, x.k, x.f); got != x.want {
			t.Errorf("%s: %v", x.name, got)
		}
	}
}

// checkHopfFunctions sees that all functions of a Hopf algebra and a vector refuse these.
func checkHopfFunctions(t *testing.T, name string, h impl.Hopf, v impl.Vector) {
	t.Helper()
	if got, code := impl.CoproductOf(h, v); got != (impl.Linear{}) || code != impl.ErrInvalid {
		t.Errorf("%s: CoproductOf(.., %v) = %v, %d", name, v, got, code)
	}
	if got, code := impl.CounitOf(h, v); got != 0 || code != impl.ErrInvalid {
		t.Errorf("%s: CounitOf(.., %v) = %d, %d", name, v, got, code)
	}
	if got, code := impl.AntipodeOf(h, v); got != (impl.Vector{}) || code != impl.ErrInvalid {
		t.Errorf("%s: AntipodeOf(.., %v) = %v, %d", name, v, got, code)
	}
}

func TestVectorsThatAreNoneForHopfAlgebras(t *testing.T) {
	for _, v := range badVectors() {
		checkHopfFunctions(t, "vector", groupHopf(cyclic(5, 3)), v)
	}
}

func TestHopfAlgebrasThatAreNone(t *testing.T) {
	for _, x := range badHopfs() {
		if impl.IsHopf(x.h) {
			t.Errorf("%s: IsHopf", x.name)
		}
		checkHopfFunctions(t, x.name, x.h, impl.Vector{})
		checkHopfFunctions(t, x.name, x.h, impl.Vector{255})
		if got, code := impl.AlgebraOf(x.h); got != (impl.Algebra{}) || code != impl.ErrInvalid {
			t.Errorf("%s: AlgebraOf = %v, %d", x.name, got, code)
		}
		if got, code := impl.CoalgebraOf(x.h); got != (impl.Coalgebra{}) || code != impl.ErrInvalid {
			t.Errorf("%s: CoalgebraOf = %v, %d", x.name, got, code)
		}
		if got, code := impl.OrderOfAntipode(x.h); got != 0 || code != impl.ErrInvalid {
			t.Errorf("%s: OrderOfAntipode = %d, %d", x.name, got, code)
		}
		if got, code := impl.DualHopf(x.h); got != (impl.Hopf{}) || code != impl.ErrInvalid {
			t.Errorf("%s: DualHopf = %v, %d", x.name, got, code)
		}
		if got, code := impl.OppositeHopf(x.h); got != (impl.Hopf{}) || code != impl.ErrInvalid {
			t.Errorf("%s: OppositeHopf = %v, %d", x.name, got, code)
		}
		if got, code := impl.CoOppositeHopf(x.h); got != (impl.Hopf{}) || code != impl.ErrInvalid {
			t.Errorf("%s: CoOppositeHopf = %v, %d", x.name, got, code)
		}
	}
}

func TestAntipodesOfWhatIsNoBialgebra(t *testing.T) {
	for _, x := range badHopfs() {
		if x.fails < 6 {
			checkNoBialgebra(t, x.h)
		}
	}
}

func TestAxiomsOfShapelessTables(t *testing.T) {
	for _, x := range shapelessHopfs() {
		if got, code := impl.AxiomThatFails(x.h); got != 0 || code != impl.ErrInvalid {
			t.Errorf("%s: AxiomThatFails = %d, %d", x.name, got, code)
		}
	}
}

// Different Primes and a size that is too great come behind what is no Hopf algebra.
func TestPairsOfWhatAreNoHopfAlgebras(t *testing.T) {
	for _, x := range badHopfs() {
		for _, good := range []impl.Hopf{groupHopf(cyclic(5, 1)), groupHopf(cyclic(3, 2)), groupHopf(cyclic(31, 8))} {
			for _, pair := range [][2]impl.Hopf{{x.h, good}, {good, x.h}, {x.h, x.h}} {
				if got, code := impl.TensorHopf(pair[0], pair[1]); got != (impl.Hopf{}) || code != impl.ErrInvalid {
					t.Errorf("%s: TensorHopf = %v, %d", x.name, got, code)
				}
				for _, f := range []impl.Linear{{}, {{1}}, {{255}}} {
					if got, code := impl.IsHopfMap(pair[0], pair[1], f); got || code != impl.ErrInvalid {
						t.Errorf("%s: IsHopfMap = %v, %d", x.name, got, code)
					}
				}
			}
		}
	}
}

func TestPairsWithDifferentPrimes(t *testing.T) {
	primes := []int64{2, 3, 5, 31}
	for _, p := range primes {
		for _, q := range primes {
			if p == q {
				continue
			}
			for _, n := range []int64{1, 8} {
				h, k := groupHopf(cyclic(p, 8)), groupHopf(cyclic(q, n))
				if got, code := impl.TensorHopf(h, k); got != (impl.Hopf{}) || code != impl.ErrRange {
					t.Errorf("TensorHopf of %d and %d: %v, %d", p, q, got, code)
				}
				if got, code := impl.IsHopfMap(h, k, impl.Linear{{1}, {1}}); got || code != impl.ErrRange {
					t.Errorf("IsHopfMap of %d and %d: %v, %d", p, q, got, code)
				}
			}
		}
	}
}

func TestHopfMapsThatAreNoMaps(t *testing.T) {
	for _, p := range []int64{5, 2, 31} {
		h, k := groupHopf(cyclic(p, 3)), groupHopf(cyclic(5, 2))
		for _, f := range mapsThatAreNone() {
			if got, code := impl.IsHopfMap(h, k, f); got || code != impl.ErrInvalid {
				t.Errorf("IsHopfMap of %d and 5 with %v: %v, %d", p, f, got, code)
			}
		}
	}
	// 4 is a number for 5, the Prime of the second one, though not for 3.
	f := impl.Linear{{1}, {4}, {1}}
	if _, code := impl.IsHopfMap(groupHopf(cyclic(3, 3)), groupHopf(cyclic(5, 2)), f); code != impl.ErrRange {
		t.Errorf("IsHopfMap of 3 and 5: code %d", code)
	}
	if _, code := impl.IsHopfMap(groupHopf(cyclic(5, 3)), groupHopf(cyclic(3, 2)), f); code != impl.ErrInvalid {
		t.Errorf("IsHopfMap of 5 and 3: code %d", code)
	}
}
