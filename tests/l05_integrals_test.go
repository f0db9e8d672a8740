package tests

import (
	"runtime"
	"slices"
	"strings"
	"sync"
	"testing"
	"time"

	"loop.example/g01230/impl"
)

// taken returns the result of a function of chapter 5 that has to return ErrNone.
func taken[T any](t *testing.T, name string, function func(h impl.Hopf) (T, int64), h impl.Hopf) T {
	t.Helper()
	result, code := function(h)
	if code != impl.ErrNone {
		t.Errorf("%s(%v): code %d", name, h, code)
	}
	return result
}

func leftOf(t *testing.T, h impl.Hopf) impl.Vector {
	t.Helper()
	return taken(t, "LeftIntegral", impl.LeftIntegral, h)
}

func rightOf(t *testing.T, h impl.Hopf) impl.Vector {
	t.Helper()
	return taken(t, "RightIntegral", impl.RightIntegral, h)
}

func isSemisimple(t *testing.T, h impl.Hopf) bool {
	t.Helper()
	return taken(t, "IsSemisimple", impl.IsSemisimple, h)
}

func isCosemisimple(t *testing.T, h impl.Hopf) bool {
	t.Helper()
	return taken(t, "IsCosemisimple", impl.IsCosemisimple, h)
}

func TestSamplesForIntegralsAreHopfAlgebras(t *testing.T) {
	for _, h := range integralHopfs() {
		if fails := checkHopfAxioms(t, h); fails != 0 {
			t.Errorf("sample %v: axiom %d", h, fails)
		}
	}
}

// The answers are: unimodular, the dual is unimodular, semisimple, cosemisimple.
func TestSamplesForIntegralsAreOfAllKinds(t *testing.T) {
	seen := map[[4]bool]int{}
	for _, h := range integralHopfs() {
		dual := plainDualHopf(h)
		left, dualLeft := leftOf(t, h), leftOf(t, dual)
		seen[[4]bool{
			plainRight(h, left), plainRight(dual, dualLeft),
			plainValue(h.Prime, h.Counit, left) != 0, plainValue(h.Prime, h.Unit, dualLeft) != 0,
		}]++
	}
	wanted := [][4]bool{
		{true, true, true, true}, {true, true, true, false}, {true, true, false, true}, {true, true, false, false},
		{true, false, false, false}, {false, true, false, false}, {false, false, false, false},
	}
	for _, kind := range wanted {
		if seen[kind] == 0 {
			t.Errorf("no sample is of the kind %v: %v", kind, seen)
		}
	}
}

func TestLeftAndRightIntegrals(t *testing.T) {
	for _, h := range everyHopfForIntegrals() {
		if left := leftOf(t, h); !plainLeft(h, left) || !isFirstOfSpace(left) || !impl.IsVector(h.Prime, h.Size, left) {
			t.Errorf("LeftIntegral(%v) = %v", h, left)
		}
		if right := rightOf(t, h); !plainRight(h, right) || !isFirstOfSpace(right) || !impl.IsVector(h.Prime, h.Size, right) {
			t.Errorf("RightIntegral(%v) = %v", h, right)
		}
	}
}

// Left, and right, integrals are the multiples of the one that is returned, and no other vectors.
func TestIntegralsAmongAllVectors(t *testing.T) {
	all := triable(everyHopfForIntegrals())
	if len(all) < 100 {
		t.Fatalf("only %d Hopf algebras", len(all))
	}
	for _, h := range all {
		var lefts, rights, multiples, others []impl.Vector
		left, right := leftOf(t, h), rightOf(t, h)
		for x := range h.Prime {
			multiples = append(multiples, timesNumber(h.Prime, x, left))
			others = append(others, timesNumber(h.Prime, x, right))
		}
		for _, v := range everyVector(h.Prime, h.Size) {
			if checkLeftIntegral(t, h, v) {
				lefts = append(lefts, v)
			}
			if plainRight(h, v) {
				rights = append(rights, v)
			}
		}
		if !slices.Equal(lefts, multiples) || !slices.Equal(rights, others) {
			t.Errorf("%v has the left integrals %v and the right ones %v", h, lefts, rights)
		}
	}
}

// checkLeftIntegral returns whether v is a left integral.
func checkLeftIntegral(t *testing.T, h impl.Hopf, v impl.Vector) bool {
	t.Helper()
	want := plainLeft(h, v)
	if got, code := impl.IsLeftIntegral(h, v); got != want || code != impl.ErrNone {
		t.Errorf("IsLeftIntegral(%v, %v) = %v, %d", h, v, got, code)
	}
	return want
}

func TestLeftIntegralsAndOtherVectors(t *testing.T) {
	var s numbers
	seen := map[bool]int{}
	for _, h := range integralHopfs() {
		left := leftOf(t, h)
		for _, x := range []int64{0, 1, h.Prime - 1, s.below(h.Prime)} {
			if !checkLeftIntegral(t, h, timesNumber(h.Prime, x, left)) {
				t.Errorf("%d times %v is no left integral of %v", x, left, h)
			}
		}
		for i := range h.Size {
			seen[checkLeftIntegral(t, h, sumOf(h.Prime, left, 1, basis(i)))]++
			seen[checkLeftIntegral(t, h, basis(i))]++
		}
		seen[checkLeftIntegral(t, h, rightOf(t, h))]++
		seen[checkLeftIntegral(t, h, h.Unit)]++
		seen[checkLeftIntegral(t, h, s.vector(h.Prime, h.Size))]++
	}
	if seen[true] == 0 || seen[false] == 0 {
		t.Errorf("vectors that are left integrals: %v", seen)
	}
}

func TestUnimodularHopfAlgebras(t *testing.T) {
	for _, h := range everyHopfForIntegrals() {
		left := leftOf(t, h)
		want := plainRight(h, left)
		if got := taken(t, "IsUnimodular", impl.IsUnimodular, h); got != want {
			t.Errorf("IsUnimodular(%v) = %v", h, got)
		}
		if want != (left == rightOf(t, h)) {
			t.Errorf("%v has the integrals %v and %v", h, left, rightOf(t, h))
		}
		if isSemisimple(t, h) && !want {
			t.Errorf("%v is semisimple, but not unimodular", h)
		}
	}
}

// checkModularForm sees that the left integral times vectors is it times the numbers of the form.
func checkModularForm(t *testing.T, h impl.Hopf, form impl.Vector) {
	t.Helper()
	left := leftOf(t, h)
	for i := range h.Size {
		if plainProduct(algebraIn(h), left, basis(i)) != timesNumber(h.Prime, int64(form[i]), left) {
			t.Errorf("%v of %v times e(%d) is not %d times it", left, h, i, form[i])
		}
	}
	if !impl.IsVector(h.Prime, h.Size, form) {
		t.Errorf("the modular form %v of %v is no vector", form, h)
	}
}

// Modular forms lead products to products, and the Unit to 1.
func TestModularForms(t *testing.T) {
	for _, h := range everyHopfForIntegrals() {
		form := taken(t, "ModularForm", impl.ModularForm, h)
		checkModularForm(t, h, form)
		for i := range h.Size {
			for j := range h.Size {
				if plainValue(h.Prime, form, h.Mul[i][j]) != int64(form[i])*int64(form[j])%h.Prime {
					t.Errorf("the modular form %v of %v for the product of %d and %d", form, h, i, j)
				}
			}
		}
		if plainValue(h.Prime, form, h.Unit) != 1 {
			t.Errorf("the modular form %v of %v for the Unit", form, h)
		}
		unimodular := taken(t, "IsUnimodular", impl.IsUnimodular, h)
		if (form == h.Counit) != unimodular {
			t.Errorf("the modular form of %v is %v", h, form)
		}
	}
}

// Modular elements are group-like, since modular forms of duals lead products to products.
func TestModularElements(t *testing.T) {
	for _, h := range everyHopfForIntegrals() {
		element := taken(t, "ModularElement", impl.ModularElement, h)
		checkModularForm(t, plainDualHopf(h), element)
		if !plainGroupLike(coalgebraIn(h), element) {
			t.Errorf("ModularElement(%v) = %v is not group-like", h, element)
		}
	}
}

func TestSemisimpleAndCosemisimpleHopfAlgebras(t *testing.T) {
	for _, h := range everyHopfForIntegrals() {
		dual := plainDualHopf(h)
		if got := isSemisimple(t, h); got != (plainValue(h.Prime, h.Counit, leftOf(t, h)) != 0) {
			t.Errorf("IsSemisimple(%v) = %v", h, got)
		}
		if got := isCosemisimple(t, h); got != (plainValue(h.Prime, h.Unit, leftOf(t, dual)) != 0) {
			t.Errorf("IsCosemisimple(%v) = %v", h, got)
		}
		if isSemisimple(t, dual) != isCosemisimple(t, h) || isCosemisimple(t, dual) != isSemisimple(t, h) {
			t.Errorf("%v and its dual do not go together", h)
		}
	}
}

// factsOf tells whether a name with a prime and a size is unimodular, semisimple and cosemisimple.
func factsOf(name string, p, size int64) [3]bool {
	divides := size%p == 0
	switch {
	case name == "line":
		return [3]bool{true, false, false}
	case name == "split":
		return [3]bool{true, true, false}
	case name == "sweedler":
		return [3]bool{false, false, false}
	case name == "double":
		return [3]bool{true, false, false}
	case strings.HasPrefix(name, "on-"):
		return [3]bool{true, true, !divides}
	}
	return [3]bool{true, !divides, true}
}

func TestWhatIsKnownOfNames(t *testing.T) {
	seen := map[[3]bool]int{}
	for _, x := range everyNamedHopf() {
		want := factsOf(x.name, x.h.Prime, x.h.Size)
		seen[want]++
		got := [3]bool{taken(t, "IsUnimodular", impl.IsUnimodular, x.h), isSemisimple(t, x.h), isCosemisimple(t, x.h)}
		if got != want {
			t.Errorf("%s for %d: %v, not %v", x.name, x.h.Prime, got, want)
		}
	}
	if len(seen) != 5 {
		t.Errorf("names are of the kinds %v", seen)
	}
}

// Promise 5: normed integrals are their own squares.
func TestNormedIntegralsAreTheirOwnSquares(t *testing.T) {
	normed, none := 0, 0
	for _, h := range everyHopfForIntegrals() {
		got, code := impl.NormedIntegral(h)
		if !isSemisimple(t, h) {
			none++
			if got != (impl.Vector{}) || code != impl.ErrNotFound {
				t.Errorf("NormedIntegral(%v) = %v, %d", h, got, code)
			}
			continue
		}
		normed++
		if code != impl.ErrNone || !plainLeft(h, got) || plainValue(h.Prime, h.Counit, got) != 1 {
			t.Errorf("NormedIntegral(%v) = %v, %d", h, got, code)
		}
		a, _ := impl.AlgebraOf(h)
		if square, code := impl.MultiplyVectors(a, got, got); square != got || code != impl.ErrNone {
			t.Errorf("the square of %v in %v is %v, %d", got, h, square, code)
		}
	}
	if normed < 100 || none < 100 {
		t.Errorf("%d Hopf algebras are semisimple, and %d are not", normed, none)
	}
}

func TestCointegrals(t *testing.T) {
	for _, h := range everyHopfForIntegrals() {
		got := taken(t, "Cointegral", impl.Cointegral, h)
		if got != leftOf(t, plainDualHopf(h)) || !isFirstOfSpace(got) {
			t.Errorf("Cointegral(%v) = %v", h, got)
		}
		// The sum of e(j) times the value for e(k) is the value for e(i) times the Unit.
		for i := range h.Size {
			var sum impl.Vector
			for j := range h.Size {
				sum = sumOf(h.Prime, sum, plainValue(h.Prime, got, h.Com[i][j]), basis(j))
			}
			if sum != timesNumber(h.Prime, int64(got[i]), h.Unit) {
				t.Errorf("Cointegral(%v) = %v is no integral at %d", h, got, i)
			}
		}
	}
}

func TestFormsOfHopfAlgebras(t *testing.T) {
	for _, h := range everyHopfForIntegrals() {
		cointegral := taken(t, "Cointegral", impl.Cointegral, h)
		var want impl.Linear
		for i := range h.Size {
			for j := range h.Size {
				want[i][j] = byte(plainValue(h.Prime, cointegral, h.Mul[i][j]))
			}
		}
		if got := taken(t, "FormOf", impl.FormOf, h); got != want {
			t.Errorf("FormOf(%v) = %v, not %v", h, got, want)
		}
	}
}

// Promise 5: the form of a Hopf algebra has its size as rank.
func TestFormsHaveTheSizesAsRanks(t *testing.T) {
	sizes := map[int64]int{}
	for _, h := range everyHopfForIntegrals() {
		sizes[h.Size]++
		form := taken(t, "FormOf", impl.FormOf, h)
		rows, code := impl.ReduceVectors(h.Prime, h.Size, form[:])
		if int64(len(rows)) != h.Size || code != impl.ErrNone {
			t.Errorf("the rows of the form %v of %v span %v, %d", form, h, rows, code)
		}
		if got := taken(t, "RankOfForm", impl.RankOfForm, h); got != h.Size {
			t.Errorf("RankOfForm(%v) = %d", h, got)
		}
	}
	for size := int64(1); size <= 8; size++ {
		if sizes[size] == 0 {
			t.Errorf("no Hopf algebra has the size %d", size)
		}
	}
}

// No vector but that of zeros is led to 0 by the form with all others.
func TestFormsAmongAllVectors(t *testing.T) {
	for _, h := range triable(integralHopfs()) {
		form := taken(t, "FormOf", impl.FormOf, h)
		for _, v := range everyVector(h.Prime, h.Size) {
			if (plainImage(h.Prime, form, v) == impl.Vector{}) != (v == impl.Vector{}) {
				t.Errorf("the form %v of %v leads %v to 0", form, h, v)
			}
		}
	}
}

// Promise 16: the trace is not 0 exactly if h is semisimple and cosemisimple.
func TestTracesOfSquaresTellWhatIsSemisimple(t *testing.T) {
	seen := map[bool]int{}
	for _, h := range everyHopfForIntegrals() {
		got := taken(t, "TraceOfSquare", impl.TraceOfSquare, h)
		if got != plainTrace(h) {
			t.Errorf("TraceOfSquare(%v) = %d, not %d", h, got, plainTrace(h))
		}
		both := isSemisimple(t, h) && isCosemisimple(t, h)
		seen[both]++
		if (got != 0) != both {
			t.Errorf("TraceOfSquare(%v) = %d, but %v", h, got, both)
		}
	}
	if seen[true] < 100 || seen[false] < 100 {
		t.Errorf("semisimple and cosemisimple are %v", seen)
	}
}

func TestAntipodesLeadLeftIntegralsToRightOnes(t *testing.T) {
	for _, h := range everyHopfForIntegrals() {
		image, code := impl.AntipodeOf(h, leftOf(t, h))
		list, _ := impl.ReduceVectors(h.Prime, h.Size, []impl.Vector{image})
		if !slices.Equal(list, []impl.Vector{rightOf(t, h)}) || code != impl.ErrNone {
			t.Errorf("S of %v leads %v to %v, %d", h, leftOf(t, h), image, code)
		}
	}
}

// What the opposite and the coopposite have for the left and the right is turned round.
func TestIntegralsOfOppositesAndCoOpposites(t *testing.T) {
	for _, h := range integralHopfs() {
		opposite, _ := impl.OppositeHopf(h)
		coopposite, _ := impl.CoOppositeHopf(h)
		if leftOf(t, opposite) != rightOf(t, h) || rightOf(t, opposite) != leftOf(t, h) {
			t.Errorf("the opposite of %v has the integrals %v and %v", h, leftOf(t, opposite), rightOf(t, opposite))
		}
		if leftOf(t, coopposite) != leftOf(t, h) || rightOf(t, coopposite) != rightOf(t, h) {
			t.Errorf("the coopposite of %v has the integrals %v and %v", h, leftOf(t, coopposite), rightOf(t, coopposite))
		}
	}
}

// result has what chapter 5 tells of each Hopf algebra, be it semisimple or not.
type result struct {
	left, right, modular, element, cointegral impl.Vector
	form                                      impl.Linear
}

func TestIntegralsThatAreKnown(t *testing.T) {
	all := impl.Vector{1, 1, 1, 1, 1, 1, 1, 1}
	tests := []struct {
		name string
		h    impl.Hopf
		want result
	}{
		{"size 1 of 2", groupHopf(cyclic(2, 1)), result{
			impl.Vector{1}, impl.Vector{1}, impl.Vector{1}, impl.Vector{1}, impl.Vector{1}, impl.Linear{{1}},
		}},
		{"size 1 of 31", groupHopf(cyclic(31, 1)), result{
			impl.Vector{1}, impl.Vector{1}, impl.Vector{1}, impl.Vector{1}, impl.Vector{1}, impl.Linear{{1}},
		}},
		{"C8 of 31", groupHopf(cyclic(31, 8)), result{
			all, all, all, impl.Vector{1}, impl.Vector{1},
			impl.Linear{basis(0), basis(7), basis(6), basis(5), basis(4), basis(3), basis(2), basis(1)},
		}},
		{"functions on C8 of 2", plainDualHopf(groupHopf(cyclic(2, 8))), result{
			impl.Vector{1}, impl.Vector{1}, impl.Vector{1}, all, all, plainIdentity(8),
		}},
		{"line of 3", lineHopf(3, 0), result{
			basis(2), basis(2), basis(0), basis(0), basis(2), impl.Linear{basis(2), basis(1), basis(0)},
		}},
		{"line of 5 and 3", lineHopf(5, 3), result{
			impl.Vector{1, 0, 0, 0, 3}, impl.Vector{1, 0, 0, 0, 3}, basis(0), basis(0), basis(4),
			impl.Linear{{4: 1}, {3: 1}, {2: 1}, {1: 1}, {0: 1, 4: 3}},
		}},
		{"Sweedler's of 5", sweedlerHopf(5), result{
			impl.Vector{0, 0, 1, 1}, impl.Vector{0, 0, 1, 4}, impl.Vector{1, 4}, basis(1), basis(3),
			impl.Linear{{0, 0, 0, 1}, {0, 0, 1}, {0, 4}, {1}},
		}},
		{"g of the order 4, q = 2", skewHopf(skewKind{5, 4, 2, 2, 0}), result{
			impl.Vector{4: 1, 5: 1, 6: 1, 7: 1}, impl.Vector{4: 1, 5: 3, 6: 4, 7: 2}, impl.Vector{1, 3, 4, 2}, basis(2), basis(6),
			impl.Linear{{6: 1}, {5: 1}, {4: 1}, {7: 1}, {2: 4}, {1: 3}, {0: 1}, {3: 2}},
		}},
		{"affine", affineHopf(), result{
			impl.Vector{0, 0, 1, 1}, impl.Vector{0, 0, 0, 1}, impl.Vector{1, 1}, basis(0), basis(3),
			impl.Linear{{0, 0, 0, 1}, {0, 0, 1, 1}, {0, 1}, {1}},
		}},
	}
	for _, x := range tests {
		var got result
		got.left, got.right = leftOf(t, x.h), rightOf(t, x.h)
		got.modular = taken(t, "ModularForm", impl.ModularForm, x.h)
		got.element = taken(t, "ModularElement", impl.ModularElement, x.h)
		got.cointegral = taken(t, "Cointegral", impl.Cointegral, x.h)
		got.form = taken(t, "FormOf", impl.FormOf, x.h)
		if got != x.want {
			t.Errorf("%s: %v, not %v", x.name, got, x.want)
		}
	}
}

func TestIntegralsOfTheDoubleOne(t *testing.T) {
	for _, p := range primes()[1:] {
		h := doubleHopf(p)
		if left, right := leftOf(t, h), rightOf(t, h); left != right || left != (impl.Vector{6: 1, 7: 1}) {
			t.Errorf("the double one of %d has the integrals %v and %v", p, left, right)
		}
		if got := taken(t, "Cointegral", impl.Cointegral, h); got != basis(6) {
			t.Errorf("the double one of %d has the cointegral %v", p, got)
		}
	}
}

func TestModularElementsThatAreNotTheirInverses(t *testing.T) {
	for _, p := range []int64{3, 5, 31} {
		for _, k := range []int64{1, 3} {
			h := skewHopf(skewKind{p, 4, p - 1, k, 0})
			if got := taken(t, "ModularElement", impl.ModularElement, h); got != basis(4-k) {
				t.Errorf("ModularElement(%v) = %v", h, got)
			}
			dual := plainDualHopf(h)
			if got := taken(t, "ModularForm", impl.ModularForm, dual); got != basis(4-k) {
				t.Errorf("ModularForm(%v) = %v", dual, got)
			}
		}
	}
}

func TestNormedIntegralsAndTracesThatAreKnown(t *testing.T) {
	tests := []struct {
		name   string
		h      impl.Hopf
		normed impl.Vector
		trace  int64
	}{
		{"size 1 of 2", groupHopf(cyclic(2, 1)), impl.Vector{1}, 1},
		{"C2 of 2", groupHopf(cyclic(2, 2)), impl.Vector{}, 0},
		{"C3 of 2", groupHopf(cyclic(2, 3)), impl.Vector{1, 1, 1}, 1},
		{"C3 of 5", groupHopf(cyclic(5, 3)), impl.Vector{2, 2, 2}, 3},
		{"D3 of 3", groupHopf(dihedral(3, 3)), impl.Vector{}, 0},
		{"D3 of 5", groupHopf(dihedral(5, 3)), impl.Vector{1, 1, 1, 1, 1, 1}, 1},
		{"Q of 31", groupHopf(quaternionGroup(31)), impl.Vector{4, 4, 4, 4, 4, 4, 4, 4}, 8},
		{"functions on Q of 2", plainDualHopf(groupHopf(quaternionGroup(2))), impl.Vector{1}, 0},
		{"functions on Q of 31", plainDualHopf(groupHopf(quaternionGroup(31))), impl.Vector{1}, 8},
		{"line of 7", lineHopf(7, 0), impl.Vector{}, 0},
		{"line of 3 and 2", lineHopf(3, 2), impl.Vector{1, 0, 1}, 0},
		{"Sweedler's of 31", sweedlerHopf(31), impl.Vector{}, 0},
		{"the double one of 31", doubleHopf(31), impl.Vector{}, 0},
	}
	for _, x := range tests {
		code := int64(impl.ErrNone)
		if x.normed == (impl.Vector{}) {
			code = impl.ErrNotFound
		}
		if got, other := impl.NormedIntegral(x.h); got != x.normed || other != code {
			t.Errorf("%s: NormedIntegral = %v, %d", x.name, got, other)
		}
		if got, code := impl.TraceOfSquare(x.h); got != x.trace || code != impl.ErrNone {
			t.Errorf("%s: TraceOfSquare = %d, %d", x.name, got, code)
		}
	}
}

// refuses sees that a function refuses what is no Hopf algebra.
func refuses[T comparable](t *testing.T, name string, function func(h impl.Hopf) (T, int64), h impl.Hopf) {
	t.Helper()
	var zero T
	if got, code := function(h); got != zero || code != impl.ErrInvalid {
		t.Errorf("%s: %v, %d", name, got, code)
	}
}

// Many of these are not semisimple, which would be ErrNotFound for a normed integral.
func TestIntegralsOfWhatIsNoHopfAlgebra(t *testing.T) {
	list := badHopfs()
	for _, h := range integralHopfs() {
		wrong := sumOf(h.Prime, h.Antipode[0], 1, basis(h.Size-1))
		list = append(list, badHopf{"another Antipode", 6, changed(h, func(h *impl.Hopf) { h.Antipode[0] = wrong })})
	}
	for _, x := range list {
		refuses(t, x.name+": LeftIntegral", impl.LeftIntegral, x.h)
		refuses(t, x.name+": RightIntegral", impl.RightIntegral, x.h)
		refuses(t, x.name+": IsUnimodular", impl.IsUnimodular, x.h)
		refuses(t, x.name+": ModularForm", impl.ModularForm, x.h)
		refuses(t, x.name+": ModularElement", impl.ModularElement, x.h)
		refuses(t, x.name+": IsSemisimple", impl.IsSemisimple, x.h)
		refuses(t, x.name+": IsCosemisimple", impl.IsCosemisimple, x.h)
		refuses(t, x.name+": NormedIntegral", impl.NormedIntegral, x.h)
		refuses(t, x.name+": Cointegral", impl.Cointegral, x.h)
		refuses(t, x.name+": FormOf", impl.FormOf, x.h)
		refuses(t, x.name+": RankOfForm", impl.RankOfForm, x.h)
		refuses(t, x.name+": TraceOfSquare", impl.TraceOfSquare, x.h)
		for _, v := range []impl.Vector{{}, {1}, {255}} {
			if got, code := impl.IsLeftIntegral(x.h, v); got || code != impl.ErrInvalid {
				t.Errorf("%s: IsLeftIntegral(.., %v) = %v, %d", x.name, v, got, code)
			}
		}
	}
}

func TestLeftIntegralsThatAreNoVectors(t *testing.T) {
	for _, v := range badVectors() {
		if got, code := impl.IsLeftIntegral(groupHopf(cyclic(5, 3)), v); got || code != impl.ErrInvalid {
			t.Errorf("IsLeftIntegral(.., %v) = %v, %d", v, got, code)
		}
	}
	// These are left integrals, but for numbers that are equal modulo the Prime, or an entry behind.
	for _, h := range integralHopfs() {
		left := leftOf(t, h)
		for i := range int64(8) {
			v := left
			v[i] += byte(h.Prime)
			if i >= h.Size {
				v[i] = 1
			}
			if got, code := impl.IsLeftIntegral(h, v); got || code != impl.ErrInvalid {
				t.Errorf("IsLeftIntegral(%v, %v) = %v, %d", h, v, got, code)
			}
		}
	}
}

func TestTracesOfManyCallsAtOnce(t *testing.T) {
	list := integralHopfs()
	before := runtime.NumGoroutine()
	var calls sync.WaitGroup
	for range 4 {
		calls.Go(func() {
			for _, h := range list {
				if got, code := impl.TraceOfSquare(h); got != plainTrace(h) || code != impl.ErrNone {
					t.Errorf("TraceOfSquare(%v) = %d, %d", h, got, code)
				}
			}
		})
	}
	calls.Wait()
	// What has closed its channel needs a moment to end.
	for range 500 {
		if runtime.NumGoroutine() <= before {
			return
		}
		time.Sleep(10 * time.Millisecond)
	}
	t.Errorf("%d goroutines go on", runtime.NumGoroutine()-before)
}
