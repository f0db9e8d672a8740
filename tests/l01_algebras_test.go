package tests

import (
	"math"
	"slices"
	"strconv"
	"strings"
	"testing"

	"loop.example/g01230/impl"
)

func TestConstants(t *testing.T) {
	codes := []int64{impl.ErrNone, impl.ErrInvalid, impl.ErrRange, impl.ErrLimit, impl.ErrNotFound, impl.ErrState, impl.ErrSyntax}
	for want, code := range codes {
		if code != int64(want) {
			t.Errorf("code %d is %d", want, code)
		}
	}
	if impl.MaxSize != 8 || impl.MaxPrime != 31 {
		t.Errorf("limits are %d and %d", impl.MaxSize, impl.MaxPrime)
	}
}

func TestIsPrime(t *testing.T) {
	primes := []int64{2, 3, 5, 7, 11, 13, 17, 19, 23, 29, 31}
	for p := int64(-40); p <= 1000; p++ {
		if got, want := impl.IsPrime(p), slices.Contains(primes, p); got != want {
			t.Errorf("IsPrime(%d) = %v", p, got)
		}
	}
	for _, p := range []int64{math.MinInt64, math.MinInt64 + 1, 1<<31 - 1, 2 + 1<<32, 1<<61 - 1, math.MaxInt64} {
		if impl.IsPrime(p) {
			t.Errorf("IsPrime(%d)", p)
		}
	}
}

func TestIsVector(t *testing.T) {
	tests := []struct {
		p, n int64
		v    impl.Vector
		want bool
	}{
		{2, 1, impl.Vector{}, true},
		{2, 1, impl.Vector{1}, true},
		{2, 1, impl.Vector{2}, false},
		{2, 1, impl.Vector{0, 1}, false},
		{2, 8, impl.Vector{1, 1, 1, 1, 1, 1, 1, 1}, true},
		{2, 8, impl.Vector{1, 1, 1, 1, 1, 1, 1, 2}, false},
		{31, 8, impl.Vector{30, 30, 30, 30, 30, 30, 30, 30}, true},
		{31, 8, impl.Vector{30, 30, 30, 31, 30, 30, 30, 30}, false},
		{31, 7, impl.Vector{30, 30, 30, 30, 30, 30, 30}, true},
		{31, 7, impl.Vector{30, 30, 30, 30, 30, 30, 30, 1}, false},
		{31, 7, impl.Vector{255}, false},
		{1, 1, impl.Vector{}, false},
		{4, 1, impl.Vector{}, false},
		{37, 1, impl.Vector{}, false},
		{-2, 1, impl.Vector{}, false},
		{2, 0, impl.Vector{}, false},
		{2, 9, impl.Vector{}, false},
		{2, -1, impl.Vector{}, false},
		{2, math.MaxInt64, impl.Vector{}, false},
		{2, math.MinInt64, impl.Vector{}, false},
		{math.MaxInt64, 8, impl.Vector{}, false},
	}
	for _, x := range tests {
		if got := impl.IsVector(x.p, x.n, x.v); got != x.want {
			t.Errorf("IsVector(%d, %d, %v) = %v", x.p, x.n, x.v, got)
		}
	}
}

// everyShaped calls f for all that have the form of an algebra with p and n.
func everyShaped(p, n int64, f func(a impl.Algebra)) {
	a := impl.Algebra{Prime: p, Size: n}
	vectors := everyVector(p, n)
	var fill func(at int64)
	fill = func(at int64) {
		if at == n*n {
			for _, a.Unit = range vectors {
				f(a)
			}
			return
		}
		for _, v := range vectors {
			a.Mul[at/n][at%n] = v
			fill(at + 1)
		}
	}
	fill(0)
}

func checkAxioms(t *testing.T, a impl.Algebra) {
	t.Helper()
	fault := plainFault(a)
	if got, want := impl.IsAlgebra(a), fault == nil && plainUnit(a); got != want {
		t.Errorf("IsAlgebra(%v) = %v", a, got)
	}
	code := int64(impl.ErrNone)
	if fault == nil {
		code = impl.ErrNotFound
	}
	if got, c := impl.FirstFault(a); !slices.Equal(got, fault) || c != code {
		t.Errorf("FirstFault(%v) = %v, %d, not %v, %d", a, got, c, fault, code)
	}
}

func TestAxiomsOfAllSmallTables(t *testing.T) {
	for _, size := range [][2]int64{{2, 1}, {3, 1}, {5, 1}, {31, 1}, {2, 2}} {
		everyShaped(size[0], size[1], func(a impl.Algebra) { checkAxioms(t, a) })
	}
}

func TestAxiomsOfChangedAlgebras(t *testing.T) {
	var s numbers
	for _, a := range someAlgebras() {
		checkAxioms(t, a)
		if !impl.IsAlgebra(a) {
			t.Fatalf("sample %v is no algebra", a)
		}
		for range 20 {
			b := a
			b.Mul[s.below(a.Size)][s.below(a.Size)][s.below(a.Size)] = byte(s.below(a.Prime))
			checkAxioms(t, b)
			b = a
			b.Unit[s.below(a.Size)] = byte(s.below(a.Prime))
			checkAxioms(t, b)
		}
	}
}

func TestFirstFaultIsFirst(t *testing.T) {
	a := truncated(5, 4)
	a.Mul[3][3][3] = 1
	a.Mul[2][3][3] = 1
	if got, code := impl.FirstFault(a); !slices.Equal(got, []int64{1, 1, 3}) || code != impl.ErrNone {
		t.Errorf("FirstFault = %v, %d", got, code)
	}
	a.Unit = impl.Vector{}
	if got, code := impl.FirstFault(a); !slices.Equal(got, []int64{1, 1, 3}) || code != impl.ErrNone {
		t.Errorf("FirstFault without a unit = %v, %d", got, code)
	}
	noUnit := impl.Algebra{Prime: 2, Size: 8}
	if got, code := impl.FirstFault(noUnit); got != nil || code != impl.ErrNotFound {
		t.Errorf("FirstFault of zeros = %v, %d", got, code)
	}
}

func TestFirstFaultIsNewMemory(t *testing.T) {
	a := cyclic(5, 3)
	a.Mul[1][1] = impl.Vector{0, 1}
	first, _ := impl.FirstFault(a)
	first[0] = 7
	if second, _ := impl.FirstFault(a); !slices.Equal(second, []int64{1, 1, 2}) {
		t.Errorf("FirstFault = %v", second)
	}
}

func TestMultiplyVectors(t *testing.T) {
	var s numbers
	for _, a := range someAlgebras() {
		for range 50 {
			v, w := s.vector(a.Prime, a.Size), s.vector(a.Prime, a.Size)
			if got, code := impl.MultiplyVectors(a, v, w); got != plainProduct(a, v, w) || code != impl.ErrNone {
				t.Errorf("MultiplyVectors(%v, %v, %v) = %v, %d", a, v, w, got, code)
			}
		}
	}
	full := impl.Vector{30, 30, 30, 30, 30, 30, 30, 30}
	want := impl.Vector{8, 8, 8, 8, 8, 8, 8, 8}
	if got, code := impl.MultiplyVectors(cyclic(31, 8), full, full); got != want || code != impl.ErrNone {
		t.Errorf("greatest numbers: %v, %d", got, code)
	}
}

func TestPowerOf(t *testing.T) {
	var s numbers
	for _, a := range someAlgebras() {
		v := s.vector(a.Prime, a.Size)
		want := a.Unit
		for k := range int64(101) {
			if got, code := impl.PowerOf(a, v, k); got != want || code != impl.ErrNone {
				t.Errorf("PowerOf(%v, %v, %d) = %v, %d", a, v, k, got, code)
			}
			want = plainProduct(a, want, v)
		}
		for _, k := range []int64{-1, 101, math.MinInt64, math.MaxInt64} {
			if got, code := impl.PowerOf(a, v, k); got != (impl.Vector{}) || code != impl.ErrRange {
				t.Errorf("PowerOf(.., %d) = %v, %d", k, got, code)
			}
		}
	}
	if got, code := impl.PowerOf(cyclic(5, 3), impl.Vector{}, 0); got != (impl.Vector{1}) || code != impl.ErrNone {
		t.Errorf("power 0 of zeros = %v, %d", got, code)
	}
}

// plainInverse tries all vectors.
func plainInverse(a impl.Algebra, v impl.Vector, all []impl.Vector) (impl.Vector, int64) {
	for _, w := range all {
		if plainProduct(a, v, w) == a.Unit && plainProduct(a, w, v) == a.Unit {
			return w, impl.ErrNone
		}
	}
	return impl.Vector{}, impl.ErrNotFound
}

func TestInverseOfEveryVector(t *testing.T) {
	for _, a := range smallAlgebras() {
		all := everyVector(a.Prime, a.Size)
		for _, v := range all {
			want, wantCode := plainInverse(a, v, all)
			if got, code := impl.InverseOf(a, v); got != want || code != wantCode {
				t.Errorf("InverseOf(%v, %v) = %v, %d, not %v, %d", a, v, got, code, want, wantCode)
			}
		}
	}
}

func TestInversesOfInverses(t *testing.T) {
	var s numbers
	for _, a := range someAlgebras() {
		found := 0
		for range 100 {
			v := s.vector(a.Prime, a.Size)
			w, code := impl.InverseOf(a, v)
			if code == impl.ErrNotFound && w == (impl.Vector{}) {
				continue
			}
			found++
			if plainProduct(a, v, w) != a.Unit || plainProduct(a, w, v) != a.Unit || code != impl.ErrNone {
				t.Errorf("InverseOf(%v, %v) = %v, %d", a, v, w, code)
			}
			if got, code := impl.InverseOf(a, w); got != v || code != impl.ErrNone {
				t.Errorf("inverse of the inverse of %v in %v = %v, %d", v, a, got, code)
			}
		}
		if found == 0 {
			t.Errorf("no inverse in %v", a)
		}
	}
}

func TestNoInverse(t *testing.T) {
	tests := []struct {
		a impl.Algebra
		v impl.Vector
	}{
		{cyclic(2, 1), impl.Vector{}},
		{cyclic(31, 8), impl.Vector{}},
		{cyclic(31, 8), impl.Vector{1, 30}},
		{cyclic(31, 8), impl.Vector{1, 1, 1, 1, 1, 1, 1, 1}},
		{truncated(31, 8), impl.Vector{0, 1, 1, 1, 1, 1, 1, 1}},
		{matrices(5), impl.Vector{1, 2, 2, 4}},
		{triangles(5), impl.Vector{1, 1}},
	}
	for _, x := range tests {
		if got, code := impl.InverseOf(x.a, x.v); got != (impl.Vector{}) || code != impl.ErrNotFound {
			t.Errorf("InverseOf(%v, %v) = %v, %d", x.a, x.v, got, code)
		}
	}
}

// spanOf returns all sums of multiples of the vectors.
func spanOf(p int64, list []impl.Vector) map[impl.Vector]bool {
	span := map[impl.Vector]bool{{}: true}
	for _, v := range list {
		longer := map[impl.Vector]bool{}
		for w := range span {
			for x := range p {
				longer[sumOf(p, w, x, v)] = true
			}
		}
		span = longer
	}
	return span
}

func firstOf(v impl.Vector) int {
	return slices.IndexFunc(v[:], func(x byte) bool { return x != 0 })
}

func isReduced(list []impl.Vector) bool {
	before := -1
	for i, v := range list {
		at := firstOf(v)
		if at <= before || v[at] != 1 {
			return false
		}
		before = at
		for j, w := range list {
			if i != j && w[at] != 0 {
				return false
			}
		}
	}
	return true
}

func TestCentreOf(t *testing.T) {
	for _, a := range smallAlgebras() {
		centre, code := impl.CentreOf(a)
		if !isReduced(centre) || code != impl.ErrNone {
			t.Errorf("CentreOf(%v) = %v, %d", a, centre, code)
		}
		span := spanOf(a.Prime, centre)
		if !span[a.Unit] {
			t.Errorf("the Unit of %v is not in the centre %v", a, centre)
		}
		for _, v := range everyVector(a.Prime, a.Size) {
			commutes := true
			for i := range a.Size {
				commutes = commutes && plainProduct(a, v, basis(i)) == plainProduct(a, basis(i), v)
			}
			if span[v] != commutes {
				t.Errorf("centre %v of %v, and %v", centre, a, v)
			}
		}
	}
}

func TestCentresThatAreKnown(t *testing.T) {
	all := []impl.Vector{}
	for i := range int64(8) {
		all = append(all, basis(i))
	}
	tests := []struct {
		a    impl.Algebra
		want []impl.Vector
	}{
		{cyclic(2, 1), all[:1]},
		{cyclic(31, 8), all},
		{truncated(31, 8), all},
		{matrices(31), []impl.Vector{{1, 0, 0, 1}}},
		{triangles(31), []impl.Vector{{1, 0, 1}}},
		{quaternions(31), []impl.Vector{{1}}},
		{quaternions(2), all[:4]},
		{dihedral(31, 3), []impl.Vector{{1}, {0, 1, 1}, {0, 0, 0, 1, 1, 1}}},
		{dihedral(31, 4), []impl.Vector{{1}, {0, 1, 0, 1}, {0, 0, 1}, {0, 0, 0, 0, 1, 0, 1}, {0, 0, 0, 0, 0, 1, 0, 1}}},
	}
	for _, x := range tests {
		got, code := impl.CentreOf(x.a)
		if !slices.Equal(got, x.want) || code != impl.ErrNone {
			t.Errorf("CentreOf(%v) = %v, %d", x.a, got, code)
		}
		got[0][0] = 99
		if again, _ := impl.CentreOf(x.a); !slices.Equal(again, x.want) {
			t.Errorf("CentreOf(%v) = %v the second time", x.a, again)
		}
	}
}

func TestIsCommutative(t *testing.T) {
	for _, a := range someAlgebras() {
		want := true
		for i := range a.Size {
			for j := range a.Size {
				want = want && a.Mul[i][j] == a.Mul[j][i]
			}
		}
		if got, code := impl.IsCommutative(a); got != want || code != impl.ErrNone {
			t.Errorf("IsCommutative(%v) = %v, %d", a, got, code)
		}
	}
}

func TestLeftTablesAndTraces(t *testing.T) {
	var s numbers
	for _, a := range someAlgebras() {
		for range 20 {
			v := s.vector(a.Prime, a.Size)
			var want impl.Linear
			trace := int64(0)
			for j := range a.Size {
				want[j] = plainProduct(a, v, basis(j))
				trace += int64(want[j][j])
			}
			if got, code := impl.LeftTable(a, v); got != want || code != impl.ErrNone {
				t.Errorf("LeftTable(%v, %v) = %v, %d", a, v, got, code)
			}
			if got, code := impl.TraceOf(a, v); got != trace%a.Prime || code != impl.ErrNone {
				t.Errorf("TraceOf(%v, %v) = %d, %d", a, v, got, code)
			}
		}
	}
	if got, code := impl.TraceOf(cyclic(31, 8), impl.Vector{30, 7}); got != 23 || code != impl.ErrNone {
		t.Errorf("TraceOf = %d, %d", got, code)
	}
}

func TestLeftTablesOfProducts(t *testing.T) {
	var s numbers
	for _, a := range someAlgebras() {
		v, w := s.vector(a.Prime, a.Size), s.vector(a.Prime, a.Size)
		first, _ := impl.LeftTable(a, v)
		second, _ := impl.LeftTable(a, w)
		both, code := impl.LeftTable(a, plainProduct(a, v, w))
		for j := range a.Size {
			var image impl.Vector
			for i, x := range second[j] {
				image = sumOf(a.Prime, image, int64(x), first[i])
			}
			if both[j] != image || code != impl.ErrNone {
				t.Errorf("left table of the product of %v and %v in %v: %v, %d", v, w, a, both, code)
			}
		}
	}
}

func TestOppositesAreAlgebras(t *testing.T) {
	for _, a := range someAlgebras() {
		o, code := impl.OppositeAlgebra(a)
		if code != impl.ErrNone || o.Prime != a.Prime || o.Size != a.Size || o.Unit != a.Unit {
			t.Errorf("OppositeAlgebra(%v) = %v, %d", a, o, code)
		}
		for i := range 8 {
			for j := range 8 {
				if o.Mul[i][j] != a.Mul[j][i] {
					t.Errorf("OppositeAlgebra(%v) = %v", a, o)
				}
			}
		}
		if !impl.IsAlgebra(o) || plainFault(o) != nil || !plainUnit(o) {
			t.Errorf("the opposite %v of %v is no algebra", o, a)
		}
		if back, code := impl.OppositeAlgebra(o); back != a || code != impl.ErrNone {
			t.Errorf("opposite of the opposite of %v = %v, %d", a, back, code)
		}
	}
}

// plainSum is the product of algebras by its definition.
func plainSum(a, b impl.Algebra) impl.Algebra {
	both := impl.Algebra{Prime: a.Prime, Size: a.Size + b.Size}
	for i := range both.Size {
		if i < a.Size {
			both.Unit[i] = a.Unit[i]
		} else {
			both.Unit[i] = b.Unit[i-a.Size]
		}
		for j := range both.Size {
			for k := range both.Size {
				switch {
				case i < a.Size && j < a.Size && k < a.Size:
					both.Mul[i][j][k] = a.Mul[i][j][k]
				case i >= a.Size && j >= a.Size && k >= a.Size:
					both.Mul[i][j][k] = b.Mul[i-a.Size][j-a.Size][k-a.Size]
				}
			}
		}
	}
	return both
}

func checkProduct(t *testing.T, a, b impl.Algebra) {
	t.Helper()
	got, code := impl.ProductAlgebra(a, b)
	switch {
	case a.Prime != b.Prime:
		if got != (impl.Algebra{}) || code != impl.ErrRange {
			t.Errorf("ProductAlgebra(%v, %v) = %v, %d", a, b, got, code)
		}
	case a.Size+b.Size > 8:
		if got != (impl.Algebra{}) || code != impl.ErrLimit {
			t.Errorf("ProductAlgebra(%v, %v) = %v, %d", a, b, got, code)
		}
	default:
		if got != plainSum(a, b) || code != impl.ErrNone {
			t.Errorf("ProductAlgebra(%v, %v) = %v, %d", a, b, got, code)
		}
		if !impl.IsAlgebra(got) || plainFault(got) != nil || !plainUnit(got) {
			t.Errorf("the product %v of %v and %v is no algebra", got, a, b)
		}
	}
}

func TestProductsAreAlgebras(t *testing.T) {
	list := append(someAlgebras(), cyclic(2, 7), cyclic(31, 7), cyclic(31, 4), cyclic(31, 5))
	for _, a := range list {
		for _, b := range list {
			checkProduct(t, a, b)
		}
	}
	checkProduct(t, cyclic(2, 7), cyclic(2, 1))
	checkProduct(t, cyclic(2, 7), cyclic(2, 2))
	checkProduct(t, cyclic(2, 1), cyclic(2, 8))
	checkProduct(t, cyclic(2, 8), cyclic(3, 8))
}

func TestInversesInProducts(t *testing.T) {
	a, b := quaternions(31), matrices(31)
	both, _ := impl.ProductAlgebra(a, b)
	v, code := impl.InverseOf(both, impl.Vector{1, 2, 3, 4, 1, 2, 3, 4})
	w, _ := impl.InverseOf(a, impl.Vector{1, 2, 3, 4})
	x, _ := impl.InverseOf(b, impl.Vector{1, 2, 3, 4})
	if !slices.Equal(v[:4], w[:4]) || !slices.Equal(v[4:], x[:4]) || code != impl.ErrNone {
		t.Errorf("InverseOf = %v, %d", v, code)
	}
}

// checkReduced calls ReduceVectors with spare capacity, and sees that nothing of it is changed.
func checkReduced(t *testing.T, p, n int64, list []impl.Vector) []impl.Vector {
	t.Helper()
	given := append(slices.Clone(list), impl.Vector{9, 9, 9})
	before := slices.Clone(given)
	got, code := impl.ReduceVectors(p, n, given[:len(list)])
	if !isReduced(got) || code != impl.ErrNone {
		t.Errorf("ReduceVectors(%d, %d, %v) = %v, %d", p, n, list, got, code)
	}
	if !slices.Equal(given, before) {
		t.Errorf("ReduceVectors changed %v to %v", before, given)
	}
	for _, v := range got {
		if !impl.IsVector(p, n, v) {
			t.Errorf("ReduceVectors(%d, %d, %v) = %v", p, n, list, got)
		}
	}
	return got
}

func equalSpans(p int64, one, other []impl.Vector) bool {
	span, wanted := spanOf(p, one), spanOf(p, other)
	for v := range wanted {
		if !span[v] {
			return false
		}
	}
	return len(span) == len(wanted)
}

func TestReduceEveryList(t *testing.T) {
	for _, size := range [][2]int64{{2, 3}, {3, 2}, {5, 1}} {
		p, n := size[0], size[1]
		all := everyVector(p, n)
		for _, u := range all {
			for _, v := range all {
				for _, w := range all {
					list := []impl.Vector{u, v, w}
					if got := checkReduced(t, p, n, list); !equalSpans(p, got, list) {
						t.Errorf("ReduceVectors(%d, %d, %v) = %v", p, n, list, got)
					}
				}
			}
		}
	}
}

func TestReduceSomeLists(t *testing.T) {
	var s numbers
	for range 100 {
		var list []impl.Vector
		for range s.below(12) {
			v := s.vector(2, 8)
			list = append(list, v, v)
		}
		if got := checkReduced(t, 2, 8, list); !equalSpans(2, got, list) {
			t.Errorf("ReduceVectors(2, 8, %v) = %v", list, got)
		}
	}
	for range 100 {
		one, other := s.vector(31, 8), s.vector(31, 8)
		list := []impl.Vector{one, other, sumOf(31, one, 7, other), {}, sumOf(31, other, 29, one)}
		got := checkReduced(t, 31, 8, list)
		if !equalSpans(31, got, []impl.Vector{one, other}) {
			t.Errorf("ReduceVectors(31, 8, %v) = %v", list, got)
		}
	}
	var many []impl.Vector
	for range 1000 {
		many = append(many, s.vector(31, 8))
	}
	if got := checkReduced(t, 31, 8, many); len(got) != 8 || got[7] != basis(7) {
		t.Errorf("ReduceVectors of many = %v", got)
	}
}

func TestReduceVectorsAtTheEdges(t *testing.T) {
	tests := []struct {
		p, n int64
		list []impl.Vector
		want []impl.Vector
	}{
		{5, 2, []impl.Vector{{2, 4}, {1, 2}}, []impl.Vector{{1, 2}}},
		{2, 1, nil, nil},
		{31, 8, []impl.Vector{}, nil},
		{31, 8, []impl.Vector{{}, {}}, nil},
		{31, 1, []impl.Vector{{30}, {7}}, []impl.Vector{{1}}},
		{31, 8, []impl.Vector{{0, 0, 0, 0, 0, 0, 0, 30}}, []impl.Vector{{0, 0, 0, 0, 0, 0, 0, 1}}},
		{7, 3, []impl.Vector{{0, 0, 2}, {0, 3, 1}, {5, 1, 1}}, []impl.Vector{{1}, {0, 1}, {0, 0, 1}}},
		{7, 3, []impl.Vector{{0, 2, 4}, {3, 0, 6}}, []impl.Vector{{1, 0, 2}, {0, 1, 2}}},
	}
	for _, x := range tests {
		got := checkReduced(t, x.p, x.n, x.list)
		if !slices.Equal(got, x.want) {
			t.Errorf("ReduceVectors(%d, %d, %v) = %v", x.p, x.n, x.list, got)
		}
	}
}

func TestReduceVectorsIsNewMemory(t *testing.T) {
	list := []impl.Vector{{1, 0, 3}, {0, 1, 4}}
	got, _ := impl.ReduceVectors(5, 3, list)
	if !slices.Equal(got, list) {
		t.Fatalf("ReduceVectors = %v", got)
	}
	got[0][2] = 99
	if list[0] != (impl.Vector{1, 0, 3}) {
		t.Errorf("the result shares memory with the argument")
	}
}

func TestTextsOfVectors(t *testing.T) {
	tests := []struct {
		p, n int64
		v    impl.Vector
		want string
	}{
		{2, 1, impl.Vector{}, "0"},
		{2, 1, impl.Vector{1}, "1"},
		{31, 3, impl.Vector{0, 30, 7}, "0,30,7"},
		{31, 8, impl.Vector{30, 29, 10, 9, 0, 1, 20, 11}, "30,29,10,9,0,1,20,11"},
		{2, 8, impl.Vector{}, "0,0,0,0,0,0,0,0"},
	}
	for _, x := range tests {
		if got, code := impl.VectorText(x.p, x.n, x.v); got != x.want || code != impl.ErrNone {
			t.Errorf("VectorText(%d, %d, %v) = %q, %d", x.p, x.n, x.v, got, code)
		}
		if got, code := impl.ParseVector(x.p, x.n, x.want); got != x.v || code != impl.ErrNone {
			t.Errorf("ParseVector(%d, %d, %q) = %v, %d", x.p, x.n, x.want, got, code)
		}
	}
	var s numbers
	for range 300 {
		p, n := []int64{2, 3, 11, 29, 31}[s.below(5)], 1+s.below(8)
		v := s.vector(p, n)
		text, _ := impl.VectorText(p, n, v)
		if got, code := impl.ParseVector(p, n, text); got != v || code != impl.ErrNone {
			t.Errorf("ParseVector(%d, %d, %q) = %v, %d", p, n, text, got, code)
		}
	}
}

func TestTextsOfNoVector(t *testing.T) {
	bad := []string{
		"", ",", ",,", ",,,", "0", "0,30", "0,30,", "0,30,7,", ",0,30,7", "0,30,7,1", "0,,7", "0,0,0,0,0,0,0,0,0",
		"0,31,7", "0,32,7", "0,99,7", "0,100,7", "0,255,7", "0,256,7", "0,287,7", "0,65536,7",
		"0,18446744073709551616,7", "0," + strings.Repeat("9", 1000) + ",7",
		"00,30,7", "0,030,7", "0,30,07", "0,0030,7",
		"+0,30,7", "-0,30,7", "0,+30,7", "0,-1,7", "0,30,+7", "0,30,-7",
		" 0,30,7", "0,30,7 ", "0 ,30,7", "0, 30,7", "0,3 0,7", "0 30 7", "0,30,7\n", "\t0,30,7", "0,30,7\x00",
		"0;30;7", "0.30.7", "0,3.0,7", "0,1e1,7", "0,0x1,7", "0,1_0,7", "a,b,c", "0,a,7", "{0,30,7}", "(0,30,7)",
		"0,\u0663,7", "0,\uff11,7", "0,30,7\xff", "0\u201a30\u201a7",
		strings.Repeat(",", 100000),
	}
	for _, text := range bad {
		if v, code := impl.ParseVector(31, 3, text); v != (impl.Vector{}) || code != impl.ErrSyntax {
			t.Errorf("ParseVector(31, 3, %q) = %v, %d", text, v, code)
		}
	}
	for x := range 300 {
		text := strconv.Itoa(x)
		want := int64(impl.ErrSyntax)
		if x < 29 {
			want = impl.ErrNone
		}
		if _, code := impl.ParseVector(29, 1, text); code != want {
			t.Errorf("ParseVector(29, 1, %q): code %d", text, code)
		}
	}
}

// fieldsThatAreNone have a p or an n that is not as told.
func fieldsThatAreNone() [][2]int64 {
	return [][2]int64{
		{4, 3}, {1, 3}, {0, 3}, {-3, 3}, {37, 3}, {math.MaxInt64, 3}, {math.MinInt64, 3},
		{5, 0}, {5, 9}, {5, -1}, {5, math.MaxInt64}, {5, math.MinInt64}, {0, 0},
	}
}

func TestVectorsForNoField(t *testing.T) {
	for _, x := range fieldsThatAreNone() {
		for _, list := range [][]impl.Vector{nil, {}, {{}}, {{1}}} {
			if got, code := impl.ReduceVectors(x[0], x[1], list); len(got) != 0 || code != impl.ErrInvalid {
				t.Errorf("ReduceVectors(%d, %d, %v) = %v, %d", x[0], x[1], list, got, code)
			}
		}
		if got, code := impl.VectorText(x[0], x[1], impl.Vector{}); got != "" || code != impl.ErrInvalid {
			t.Errorf("VectorText(%d, %d, 0) = %q, %d", x[0], x[1], got, code)
		}
		for _, text := range []string{"", "0", "0,0,0", "x"} {
			if got, code := impl.ParseVector(x[0], x[1], text); got != (impl.Vector{}) || code != impl.ErrInvalid {
				t.Errorf("ParseVector(%d, %d, %q) = %v, %d", x[0], x[1], text, got, code)
			}
		}
	}
	for _, v := range badVectors() {
		if got, code := impl.ReduceVectors(5, 3, []impl.Vector{{1}, {0, 1}, v}); len(got) != 0 || code != impl.ErrInvalid {
			t.Errorf("ReduceVectors with %v = %v, %d", v, got, code)
		}
		if got, code := impl.VectorText(5, 3, v); got != "" || code != impl.ErrInvalid {
			t.Errorf("VectorText(5, 3, %v) = %q, %d", v, got, code)
		}
	}
}

// checkVectorFunctions sees that all functions of an algebra and vectors refuse these.
func checkVectorFunctions(t *testing.T, name string, a impl.Algebra, v impl.Vector) {
	t.Helper()
	bad := func(function string, ok bool, code int64) {
		t.Helper()
		if !ok || code != impl.ErrInvalid {
			t.Errorf("%s: %s with %v: code %d, or no zero value", name, function, v, code)
		}
	}
	got, code := impl.MultiplyVectors(a, v, impl.Vector{1})
	bad("MultiplyVectors", got == impl.Vector{}, code)
	got, code = impl.MultiplyVectors(a, impl.Vector{1}, v)
	bad("MultiplyVectors", got == impl.Vector{}, code)
	for _, k := range []int64{0, 1, 100, -1, 101} {
		got, code = impl.PowerOf(a, v, k)
		bad("PowerOf", got == impl.Vector{}, code)
	}
	got, code = impl.InverseOf(a, v)
	bad("InverseOf", got == impl.Vector{}, code)
	left, code := impl.LeftTable(a, v)
	bad("LeftTable", left == impl.Linear{}, code)
	trace, code := impl.TraceOf(a, v)
	bad("TraceOf", trace == 0, code)
}

func TestVectorsThatAreNone(t *testing.T) {
	for _, v := range badVectors() {
		checkVectorFunctions(t, "vector", cyclic(5, 3), v)
	}
}

func TestAlgebrasThatAreNone(t *testing.T) {
	for _, x := range badAlgebras() {
		if impl.IsAlgebra(x.a) {
			t.Errorf("%s: IsAlgebra", x.name)
		}
		checkVectorFunctions(t, x.name, x.a, impl.Vector{1})
		checkVectorFunctions(t, x.name, x.a, impl.Vector{255})
		if got, code := impl.CentreOf(x.a); len(got) != 0 || code != impl.ErrInvalid {
			t.Errorf("%s: CentreOf = %v, %d", x.name, got, code)
		}
		if got, code := impl.IsCommutative(x.a); got || code != impl.ErrInvalid {
			t.Errorf("%s: IsCommutative = %v, %d", x.name, got, code)
		}
		if got, code := impl.OppositeAlgebra(x.a); got != (impl.Algebra{}) || code != impl.ErrInvalid {
			t.Errorf("%s: OppositeAlgebra = %v, %d", x.name, got, code)
		}
		for _, b := range []impl.Algebra{cyclic(5, 3), cyclic(7, 1), cyclic(5, 8), x.a} {
			if got, code := impl.ProductAlgebra(x.a, b); got != (impl.Algebra{}) || code != impl.ErrInvalid {
				t.Errorf("%s: ProductAlgebra = %v, %d", x.name, got, code)
			}
			if got, code := impl.ProductAlgebra(b, x.a); got != (impl.Algebra{}) || code != impl.ErrInvalid {
				t.Errorf("%s: ProductAlgebra = %v, %d", x.name, got, code)
			}
		}
	}
}

func TestFaultsOfShapelessTables(t *testing.T) {
	for _, x := range shapelessAlgebras() {
		if got, code := impl.FirstFault(x.a); len(got) != 0 || code != impl.ErrInvalid {
			t.Errorf("%s: FirstFault = %v, %d", x.name, got, code)
		}
	}
	for _, x := range brokenAlgebras() {
		checkAxioms(t, x.a)
	}
}
