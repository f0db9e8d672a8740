package tests

import (
	"math"
	"slices"
	"testing"

	"loop.example/g01230/impl"
)

func TestMaxTried(t *testing.T) {
	if impl.MaxTried != 5000 {
		t.Errorf("MaxTried is %d", impl.MaxTried)
	}
}

func checkCoaxioms(t *testing.T, c impl.Coalgebra) {
	t.Helper()
	fault := plainCoFault(c)
	if got, want := impl.IsCoalgebra(c), fault == nil && plainCounits(c); got != want {
		t.Errorf("IsCoalgebra(%v) = %v", c, got)
	}
	code := int64(impl.ErrNone)
	if fault == nil {
		code = impl.ErrNotFound
	}
	if got, x := impl.FirstCoFault(c); !slices.Equal(got, fault) || x != code {
		t.Errorf("FirstCoFault(%v) = %v, %d, not %v, %d", c, got, x, fault, code)
	}
}

func TestCoaxiomsOfAllSmallTables(t *testing.T) {
	for _, size := range [][2]int64{{2, 1}, {3, 1}, {5, 1}, {31, 1}, {2, 2}} {
		everyShaped(size[0], size[1], func(a impl.Algebra) {
			checkCoaxioms(t, impl.Coalgebra{Prime: a.Prime, Size: a.Size, Counit: a.Unit, Com: a.Mul})
		})
	}
}

func TestCoaxiomsOfChangedCoalgebras(t *testing.T) {
	var s numbers
	for _, c := range someCoalgebras() {
		checkCoaxioms(t, c)
		if !impl.IsCoalgebra(c) {
			t.Fatalf("sample %v is no coalgebra", c)
		}
		for range 20 {
			d := c
			d.Com[s.below(c.Size)][s.below(c.Size)][s.below(c.Size)] = byte(s.below(c.Prime))
			checkCoaxioms(t, d)
			d = c
			d.Counit[s.below(c.Size)] = byte(s.below(c.Prime))
			checkCoaxioms(t, d)
		}
	}
}

func TestFirstCoFaultIsFirst(t *testing.T) {
	tests := []struct {
		c    impl.Coalgebra
		want []int64
		code int64
	}{
		{changed(sets(5, 3), func(c *impl.Coalgebra) { c.Com[1][0][2] = 1 }), []int64{1, 0, 0, 2}, impl.ErrNone},
		{changed(sets(5, 3), func(c *impl.Coalgebra) { c.Com[1][0][2], c.Com[2][1][1] = 1, 1 }), []int64{1, 0, 0, 2}, impl.ErrNone},
		{changed(sets(5, 3), func(c *impl.Coalgebra) { c.Com[2][1][1], c.Counit = 1, impl.Vector{} }), []int64{2, 1, 1, 2}, impl.ErrNone},
		{changed(sweedler(3), func(c *impl.Coalgebra) { c.Com[3][3][3] = 1 }), []int64{3, 3, 0, 3}, impl.ErrNone},
		{changed(sweedler(3), func(c *impl.Coalgebra) { c.Counit = impl.Vector{2, 2, 2, 2} }), nil, impl.ErrNotFound},
		{impl.Coalgebra{Prime: 2, Size: 8}, nil, impl.ErrNotFound},
		{impl.Coalgebra{Prime: 31, Size: 1}, nil, impl.ErrNotFound},
	}
	for _, x := range tests {
		checkCoaxioms(t, x.c)
		got, code := impl.FirstCoFault(x.c)
		if !slices.Equal(got, x.want) || code != x.code {
			t.Errorf("FirstCoFault(%v) = %v, %d, not %v", x.c, got, code, x.want)
		}
		for i := range got {
			got[i] = 99
		}
		if again, _ := impl.FirstCoFault(x.c); !slices.Equal(again, x.want) {
			t.Errorf("FirstCoFault(%v) = %v the second time", x.c, again)
		}
	}
}

func TestCoproductsAndCounits(t *testing.T) {
	var s numbers
	for _, c := range someCoalgebras() {
		for range 20 {
			v := s.vector(c.Prime, c.Size)
			if got, code := impl.CoproductIn(c, v); got != plainCoproduct(c, v) || code != impl.ErrNone {
				t.Errorf("CoproductIn(%v, %v) = %v, %d", c, v, got, code)
			}
			if got, code := impl.CounitIn(c, v); got != plainCounit(c, v) || code != impl.ErrNone {
				t.Errorf("CounitIn(%v, %v) = %d, %d", c, v, got, code)
			}
		}
	}
	if got, code := impl.CoproductIn(sweedler(31), impl.Vector{1, 2, 3, 30}); code != impl.ErrNone ||
		got != (impl.Linear{{1, 0, 0, 30}, {0, 2, 3}, {3}, {0, 30}}) {
		t.Errorf("CoproductIn = %v, %d", got, code)
	}
	if got, code := impl.CounitIn(sets(31, 8), impl.Vector{30, 30, 30, 30, 30, 30, 30, 30}); got != 23 || code != impl.ErrNone {
		t.Errorf("CounitIn = %d, %d", got, code)
	}
}

func TestDualsOfDualsAreTheCoalgebras(t *testing.T) {
	for _, c := range someCoalgebras() {
		a, code := impl.DualAlgebra(c)
		if plainDual(a) != c || code != impl.ErrNone || !impl.IsAlgebra(a) {
			t.Errorf("DualAlgebra(%v) = %v, %d", c, a, code)
		}
		if back, code := impl.DualCoalgebra(a); back != c || code != impl.ErrNone {
			t.Errorf("dual of the dual of %v = %v, %d", c, back, code)
		}
	}
}

func TestDualsOfDualsAreTheAlgebras(t *testing.T) {
	for _, a := range someAlgebras() {
		c, code := impl.DualCoalgebra(a)
		if c != plainDual(a) || code != impl.ErrNone {
			t.Errorf("DualCoalgebra(%v) = %v, %d", a, c, code)
		}
		if !impl.IsCoalgebra(c) || plainCoFault(c) != nil || !plainCounits(c) {
			t.Errorf("the dual %v of %v is no coalgebra", c, a)
		}
		if back, code := impl.DualAlgebra(c); back != a || code != impl.ErrNone {
			t.Errorf("dual of the dual of %v = %v, %d", a, back, code)
		}
	}
}

func TestDualsThatAreKnown(t *testing.T) {
	tests := []struct {
		a impl.Algebra
		c impl.Coalgebra
	}{
		{cyclic(2, 1), sets(2, 1)},
		{truncated(31, 8), powers(31, 8)},
		{triangles(5), changed(impl.Coalgebra{Prime: 5, Size: 3, Counit: impl.Vector{1, 0, 1}}, func(c *impl.Coalgebra) {
			c.Com[0][0][0] = 1
			c.Com[1][0][1] = 1
			c.Com[1][1][2] = 1
			c.Com[2][2][2] = 1
		})},
	}
	for _, x := range tests {
		if c, code := impl.DualCoalgebra(x.a); c != x.c || code != impl.ErrNone {
			t.Errorf("DualCoalgebra(%v) = %v, %d", x.a, c, code)
		}
		if a, code := impl.DualAlgebra(x.c); a != x.a || code != impl.ErrNone {
			t.Errorf("DualAlgebra(%v) = %v, %d", x.c, a, code)
		}
	}
}

func TestIsCocommutative(t *testing.T) {
	for _, c := range someCoalgebras() {
		want := true
		for i := range c.Size {
			for j := range c.Size {
				for k := range c.Size {
					want = want && c.Com[i][j][k] == c.Com[i][k][j]
				}
			}
		}
		if got, code := impl.IsCocommutative(c); got != want || code != impl.ErrNone {
			t.Errorf("IsCocommutative(%v) = %v, %d", c, got, code)
		}
	}
	tests := []struct {
		c    impl.Coalgebra
		want bool
	}{
		{sets(2, 1), true}, {sets(31, 8), true}, {powers(31, 8), true}, {plainDual(cyclic(31, 8)), true},
		{sweedler(2), false}, {sweedler(31), false}, {plainDual(matrices(5)), false}, {plainDual(quaternions(2)), true},
	}
	for _, x := range tests {
		if got, code := impl.IsCocommutative(x.c); got != x.want || code != impl.ErrNone {
			t.Errorf("IsCocommutative(%v) = %v, %d", x.c, got, code)
		}
	}
}

func TestCommutativeAlgebrasHaveCocommutativeDuals(t *testing.T) {
	seen := map[bool]int{}
	for _, a := range someAlgebras() {
		commutative, code := impl.IsCommutative(a)
		if code != impl.ErrNone {
			t.Fatalf("IsCommutative(%v): code %d", a, code)
		}
		seen[commutative]++
		c, _ := impl.DualCoalgebra(a)
		if got, code := impl.IsCocommutative(c); got != commutative || code != impl.ErrNone {
			t.Errorf("%v is commutative: %v, and its dual cocommutative: %v, %d", a, commutative, got, code)
		}
	}
	for _, c := range someCoalgebras() {
		cocommutative, _ := impl.IsCocommutative(c)
		a, _ := impl.DualAlgebra(c)
		if got, code := impl.IsCommutative(a); got != cocommutative || code != impl.ErrNone {
			t.Errorf("%v is cocommutative: %v, and its dual commutative: %v, %d", c, cocommutative, got, code)
		}
	}
	if seen[true] == 0 || seen[false] == 0 {
		t.Errorf("samples: %v", seen)
	}
}

// anyMap returns a map between the sizes from and n.
func (s *numbers) anyMap(p, from, n int64) impl.Linear {
	var f impl.Linear
	for i := range from {
		f[i] = s.vector(p, n)
	}
	return f
}

// everyPair calls f for all samples with equal Primes.
func everyPair(f func(c impl.Coalgebra, a impl.Algebra)) {
	for _, c := range someCoalgebras() {
		for _, a := range someAlgebras() {
			if a.Prime == c.Prime {
				f(c, a)
			}
		}
	}
}

// convolve calls ConvolveMaps, which has to be right.
func convolve(t *testing.T, c impl.Coalgebra, a impl.Algebra, f, g impl.Linear) impl.Linear {
	t.Helper()
	got, code := impl.ConvolveMaps(c, a, f, g)
	if got != plainConvolution(c, a, f, g) || code != impl.ErrNone {
		t.Errorf("ConvolveMaps(%v, %v, %v, %v) = %v, %d", c, a, f, g, got, code)
	}
	return got
}

func TestConvolutionsAreAssociative(t *testing.T) {
	var s numbers
	everyPair(func(c impl.Coalgebra, a impl.Algebra) {
		f := s.anyMap(c.Prime, c.Size, a.Size)
		g := s.anyMap(c.Prime, c.Size, a.Size)
		h := s.anyMap(c.Prime, c.Size, a.Size)
		first := convolve(t, c, a, convolve(t, c, a, f, g), h)
		if second := convolve(t, c, a, f, convolve(t, c, a, g, h)); first != second {
			t.Errorf("convolutions of %v, %v and %v from %v to %v: %v and %v", f, g, h, c, a, first, second)
		}
	})
}

func TestUnitMapsAreUnits(t *testing.T) {
	var s numbers
	everyPair(func(c impl.Coalgebra, a impl.Algebra) {
		unit, code := impl.UnitMap(c, a)
		if code != impl.ErrNone {
			t.Errorf("UnitMap(%v, %v): code %d", c, a, code)
		}
		for i := range 8 {
			if unit[i] != sumOf(a.Prime, impl.Vector{}, int64(c.Counit[i]), a.Unit) {
				t.Errorf("UnitMap(%v, %v) = %v", c, a, unit)
			}
		}
		for _, f := range []impl.Linear{s.anyMap(c.Prime, c.Size, a.Size), unit, {}} {
			if convolve(t, c, a, f, unit) != f || convolve(t, c, a, unit, f) != f {
				t.Errorf("the unit map from %v to %v is no unit for %v", c, a, f)
			}
		}
	})
}

func TestConvolutionsAtTheEdges(t *testing.T) {
	full := impl.Vector{30, 30, 30, 30, 30, 30, 30, 30}
	greatest := impl.Linear{full, full, full, full, full, full, full, full}
	got := convolve(t, powers(31, 8), cyclic(31, 8), greatest, greatest)
	if got[0] != (impl.Vector{8, 8, 8, 8, 8, 8, 8, 8}) || got[7] != (impl.Vector{2, 2, 2, 2, 2, 2, 2, 2}) {
		t.Errorf("greatest numbers: %v", got)
	}
	convolve(t, sets(2, 1), cyclic(2, 8), impl.Linear{{1, 1, 1, 1, 1, 1, 1, 1}}, impl.Linear{{0, 1}})
	convolve(t, plainDual(dihedral(2, 4)), cyclic(2, 1), impl.Linear{{1}, {}, {1}, {0}, {1}, {1}, {1}, {1}}, impl.Linear{7: {1}})
	unit, code := impl.UnitMap(sets(31, 1), truncated(31, 8))
	if unit != (impl.Linear{{1}}) || code != impl.ErrNone {
		t.Errorf("UnitMap = %v, %d", unit, code)
	}
}

func TestConvolutionsDoNotCommute(t *testing.T) {
	f, g := impl.Linear{3: {1}}, impl.Linear{1: {1}}
	first := convolve(t, sweedler(5), cyclic(5, 1), f, g)
	second := convolve(t, sweedler(5), cyclic(5, 1), g, f)
	if first != (impl.Linear{3: {1}}) || second != (impl.Linear{}) {
		t.Errorf("convolutions in both orders: %v, %v", first, second)
	}
}

// mapsThatAreNone are none from a coalgebra of the size 3 to an algebra of 5 of the size 2.
func mapsThatAreNone() []impl.Linear {
	return []impl.Linear{
		{{5}}, {{1}, {0, 5}}, {2: {255}}, {{6, 1}}, {{0, 0, 1}}, {2: {0, 0, 0, 0, 0, 0, 0, 1}},
		{3: {1}}, {{1}, {1}, {1}, {1}}, {7: {0, 1}}, {{1}, {0, 1}, {0, 0, 1}}, {7: {7: 5}},
	}
}

func TestMapsThatAreNone(t *testing.T) {
	good := impl.Linear{{4, 1}, {0, 3}, {2, 2}}
	for _, c := range []impl.Coalgebra{plainDual(cyclic(5, 3)), sets(5, 3), sets(2, 3), sets(31, 3)} {
		for _, f := range mapsThatAreNone() {
			for _, maps := range [][2]impl.Linear{{f, good}, {good, f}, {f, f}} {
				if got, code := impl.ConvolveMaps(c, cyclic(5, 2), maps[0], maps[1]); got != (impl.Linear{}) || code != impl.ErrInvalid {
					t.Errorf("ConvolveMaps(%v, .., %v) = %v, %d", c, maps, got, code)
				}
			}
		}
	}
}

func TestMapsBetweenDifferentPrimes(t *testing.T) {
	good := impl.Linear{{4, 1}, {0, 3}, {2, 2}}
	for _, p := range []int64{2, 3, 7, 31} {
		if got, code := impl.ConvolveMaps(sets(p, 3), cyclic(5, 2), good, good); got != (impl.Linear{}) || code != impl.ErrRange {
			t.Errorf("ConvolveMaps of %d and 5 = %v, %d", p, got, code)
		}
		if got, code := impl.UnitMap(sets(p, 3), cyclic(5, 2)); got != (impl.Linear{}) || code != impl.ErrRange {
			t.Errorf("UnitMap of %d and 5 = %v, %d", p, got, code)
		}
	}
	// 4 is a number for 5, the Prime of the algebra, though not for 3.
	if _, code := impl.ConvolveMaps(sets(5, 3), cyclic(3, 2), good, good); code != impl.ErrInvalid {
		t.Errorf("ConvolveMaps of 5 and 3: code %d", code)
	}
}

// groupLikesOf tries all vectors.
func groupLikesOf(c impl.Coalgebra) []impl.Vector {
	var list []impl.Vector
	for _, v := range everyVector(c.Prime, c.Size) {
		if plainGroupLike(c, v) {
			list = append(list, v)
		}
	}
	return list
}

// rank is the number of vectors in the reduced list.
func rank(t *testing.T, p, n int64, list []impl.Vector) int {
	t.Helper()
	space, code := impl.ReduceVectors(p, n, list)
	if code != impl.ErrNone {
		t.Errorf("ReduceVectors(%d, %d, %v): code %d", p, n, list, code)
	}
	return len(space)
}

func TestGroupLikesAreIndependent(t *testing.T) {
	most := 0
	for _, c := range smallCoalgebras() {
		want := groupLikesOf(c)
		got, code := impl.GroupLikes(c)
		if !slices.Equal(got, want) || code != impl.ErrNone {
			t.Errorf("GroupLikes(%v) = %v, %d, not %v", c, got, code, want)
		}
		if rank(t, c.Prime, c.Size, got) != len(got) {
			t.Errorf("the group-like vectors %v of %v are not independent", got, c)
		}
		most = max(most, len(got))
		for i := range got {
			got[i][0] = 99
		}
		if again, _ := impl.GroupLikes(c); !slices.Equal(again, want) {
			t.Errorf("GroupLikes(%v) = %v the second time", c, again)
		}
	}
	if most != 8 {
		t.Errorf("at most %d group-like vectors", most)
	}
}

func TestIsGroupLikeForEveryVector(t *testing.T) {
	for _, c := range smallCoalgebras() {
		for _, v := range everyVector(c.Prime, c.Size) {
			if got, code := impl.IsGroupLike(c, v); got != plainGroupLike(c, v) || code != impl.ErrNone {
				t.Errorf("IsGroupLike(%v, %v) = %v, %d", c, v, got, code)
			}
		}
	}
}

func TestGroupLikesThatAreKnown(t *testing.T) {
	tests := []struct {
		c    impl.Coalgebra
		want []impl.Vector
	}{
		{sets(2, 1), []impl.Vector{{1}}},
		{sets(31, 1), []impl.Vector{{1}}},
		{sets(5, 3), []impl.Vector{{0, 0, 1}, {0, 1}, {1}}},
		{sets(2, 8), []impl.Vector{basis(7), basis(6), basis(5), basis(4), basis(3), basis(2), basis(1), basis(0)}},
		{powers(2, 8), []impl.Vector{{1}}},
		{powers(17, 3), []impl.Vector{{1}}},
		{sweedler(7), []impl.Vector{{0, 1}, {1}}},
		{plainDual(cyclic(5, 4)), []impl.Vector{{1, 1, 1, 1}, {1, 2, 4, 3}, {1, 3, 4, 2}, {1, 4, 1, 4}}},
		{plainDual(cyclic(31, 2)), []impl.Vector{{1, 1}, {1, 30}}},
		{plainDual(cyclic(2, 8)), []impl.Vector{{1, 1, 1, 1, 1, 1, 1, 1}}},
		{plainDual(dihedral(3, 3)), []impl.Vector{{1, 1, 1, 1, 1, 1}, {1, 1, 1, 2, 2, 2}}},
		{plainDual(matrices(7)), nil},
		{plainDual(quaternions(3)), nil},
	}
	for _, x := range tests {
		if got, code := impl.GroupLikes(x.c); !slices.Equal(got, x.want) || code != impl.ErrNone {
			t.Errorf("GroupLikes(%v) = %v, %d", x.c, got, code)
		}
	}
}

// No power of a prime is 5000 or 5001: the ones next to the limit are 4913 = 17*17*17 and 6561, 3 to the power 8.
func TestGroupLikesUpToTheLimit(t *testing.T) {
	longest := map[int64]int64{2: 8, 3: 7, 5: 5, 7: 4, 11: 3, 13: 3, 17: 3, 19: 2, 23: 2, 29: 2, 31: 2}
	for p, most := range longest {
		for n := range int64(8) {
			got, code := impl.GroupLikes(sets(p, n+1))
			switch {
			case n+1 > most:
				if len(got) != 0 || code != impl.ErrLimit {
					t.Errorf("GroupLikes of %d and %d = %v, %d", p, n+1, got, code)
				}
			case len(got) != int(n+1) || code != impl.ErrNone:
				t.Errorf("GroupLikes of %d and %d = %v, %d", p, n+1, got, code)
			}
		}
	}
}

func TestGroupLikesBeyondTheLimit(t *testing.T) {
	c := sets(31, 8)
	for i := range int64(8) {
		if got, code := impl.IsGroupLike(c, basis(i)); !got || code != impl.ErrNone {
			t.Errorf("IsGroupLike(.., %v) = %v, %d", basis(i), got, code)
		}
	}
	for _, v := range []impl.Vector{{}, {1, 1}, {30}, {2, 30}, {16, 16}} {
		if got, code := impl.IsGroupLike(c, v); got || code != impl.ErrNone {
			t.Errorf("IsGroupLike(.., %v) = %v, %d", v, got, code)
		}
	}
	difference := impl.Vector{0, 0, 1, 0, 0, 0, 0, 30}
	if got, code := impl.PrimitiveSpace(c, basis(2), basis(7)); !slices.Equal(got, []impl.Vector{difference}) || code != impl.ErrNone {
		t.Errorf("PrimitiveSpace = %v, %d", got, code)
	}
}

// isPrimitive checks the definition.
func isPrimitive(c impl.Coalgebra, v, g, h impl.Vector) bool {
	return plainCoproduct(c, v) == sumOfTables(c.Prime, plainPair(c.Prime, v, g), 1, plainPair(c.Prime, h, v))
}

func TestPrimitiveSpacesOfEveryPair(t *testing.T) {
	for _, c := range smallCoalgebras() {
		all, groups := everyVector(c.Prime, c.Size), groupLikesOf(c)
		for _, g := range groups {
			for _, h := range groups {
				space, code := impl.PrimitiveSpace(c, g, h)
				if !isReduced(space) || code != impl.ErrNone {
					t.Errorf("PrimitiveSpace(%v, %v, %v) = %v, %d", c, g, h, space, code)
				}
				span := spanOf(c.Prime, space)
				for _, v := range all {
					if span[v] != isPrimitive(c, v, g, h) {
						t.Errorf("PrimitiveSpace(%v, %v, %v) = %v, and %v", c, g, h, space, v)
					}
				}
			}
		}
	}
}

func TestPrimitiveSpacesThatAreKnown(t *testing.T) {
	tests := []struct {
		c    impl.Coalgebra
		g, h impl.Vector
		want []impl.Vector
	}{
		{sweedler(5), basis(0), basis(1), []impl.Vector{{1, 4}, {0, 0, 1}}},
		{sweedler(5), basis(1), basis(0), []impl.Vector{{1, 4}, {0, 0, 0, 1}}},
		{sweedler(5), basis(0), basis(0), nil},
		{sweedler(31), basis(1), basis(1), nil},
		{sweedler(2), basis(0), basis(1), []impl.Vector{{1, 1}, {0, 0, 1}}},
		{powers(31, 8), basis(0), basis(0), []impl.Vector{{0, 1}}},
		{powers(2, 8), basis(0), basis(0), []impl.Vector{{0, 1}}},
		{sets(2, 1), basis(0), basis(0), nil},
		{sets(31, 1), basis(0), basis(0), nil},
		{plainDual(triangles(7)), basis(0), basis(2), []impl.Vector{{1, 0, 6}}},
		{plainDual(triangles(7)), basis(2), basis(0), []impl.Vector{{1, 0, 6}, {0, 1}}},
	}
	for _, x := range tests {
		got, code := impl.PrimitiveSpace(x.c, x.g, x.h)
		if !slices.Equal(got, x.want) || code != impl.ErrNone {
			t.Errorf("PrimitiveSpace(%v, %v, %v) = %v, %d", x.c, x.g, x.h, got, code)
		}
		for i := range got {
			got[i] = impl.Vector{99}
		}
		if again, _ := impl.PrimitiveSpace(x.c, x.g, x.h); !slices.Equal(again, x.want) {
			t.Errorf("PrimitiveSpace(%v, %v, %v) = %v the second time", x.c, x.g, x.h, again)
		}
	}
}

func TestPrimitivesOfNoGroupLikes(t *testing.T) {
	for _, c := range []impl.Coalgebra{sweedler(5), sets(2, 8), powers(31, 8)} {
		for _, v := range []impl.Vector{{}, {1, 1}, {0, 0, 1, 1}} {
			for _, pair := range [][2]impl.Vector{{v, basis(0)}, {basis(0), v}, {v, v}} {
				if got, code := impl.PrimitiveSpace(c, pair[0], pair[1]); len(got) != 0 || code != impl.ErrState {
					t.Errorf("PrimitiveSpace(%v, %v) = %v, %d", c, pair, got, code)
				}
			}
		}
	}
	// What is no vector comes before what is not group-like.
	for _, pair := range [][2]impl.Vector{{{}, {5}}, {{5}, {}}, {{}, {0, 0, 0, 0, 1}}} {
		if got, code := impl.PrimitiveSpace(sweedler(5), pair[0], pair[1]); len(got) != 0 || code != impl.ErrInvalid {
			t.Errorf("PrimitiveSpace(.., %v) = %v, %d", pair, got, code)
		}
	}
}

// closureOf adds rows and columns of coproducts until there is nothing new.
func closureOf(t *testing.T, c impl.Coalgebra, list []impl.Vector) []impl.Vector {
	t.Helper()
	space, _ := impl.ReduceVectors(c.Prime, c.Size, list)
	for {
		more := slices.Clone(space)
		for _, v := range space {
			table := plainCoproduct(c, v)
			for j := range c.Size {
				var column impl.Vector
				for k := range c.Size {
					column[k] = table[k][j]
				}
				more = append(more, table[j], column)
			}
		}
		more, _ = impl.ReduceVectors(c.Prime, c.Size, more)
		if len(more) == len(space) {
			return space
		}
		space = more
	}
}

func TestSubcoalgebrasAreLeast(t *testing.T) {
	var s numbers
	for _, c := range someCoalgebras() {
		list := []impl.Vector{{}}
		for i := range c.Size {
			list = append(list, basis(i), s.vector(c.Prime, c.Size), s.vector(2, c.Size))
		}
		for _, v := range list {
			want := closureOf(t, c, []impl.Vector{v})
			sub, code := impl.LeastSubcoalgebra(c, v)
			if !slices.Equal(sub, want) || code != impl.ErrNone {
				t.Errorf("LeastSubcoalgebra(%v, %v) = %v, %d, not %v", c, v, sub, code, want)
			}
			if rank(t, c.Prime, c.Size, append(slices.Clone(sub), v)) != len(sub) {
				t.Errorf("%v is not in its subcoalgebra %v in %v", v, sub, c)
			}
			if ok, code := impl.IsSubcoalgebra(c, sub); !ok || code != impl.ErrNone {
				t.Errorf("IsSubcoalgebra(%v, %v) = %v, %d", c, sub, ok, code)
			}
		}
	}
}

func TestSubcoalgebrasThatAreKnown(t *testing.T) {
	tests := []struct {
		c    impl.Coalgebra
		v    impl.Vector
		want []impl.Vector
	}{
		{sets(2, 1), impl.Vector{}, nil},
		{sets(31, 8), impl.Vector{}, nil},
		{sets(31, 1), impl.Vector{30}, []impl.Vector{{1}}},
		{sets(31, 8), impl.Vector{0, 30, 0, 0, 0, 0, 0, 2}, []impl.Vector{basis(1), basis(7)}},
		{powers(31, 8), impl.Vector{0, 0, 2, 1}, []impl.Vector{{1}, {0, 1}, {0, 0, 1}, {0, 0, 0, 1}}},
		{sweedler(5), impl.Vector{0, 0, 3}, []impl.Vector{{1}, {0, 1}, {0, 0, 1}}},
		{sweedler(5), impl.Vector{0, 0, 0, 1}, []impl.Vector{{1}, {0, 1}, {0, 0, 0, 1}}},
		{sweedler(5), impl.Vector{0, 0, 1, 1}, []impl.Vector{{1}, {0, 1}, {0, 0, 1}, {0, 0, 0, 1}}},
		{plainDual(cyclic(5, 4)), impl.Vector{1, 3, 4, 2}, []impl.Vector{{1, 3, 4, 2}}},
		{plainDual(matrices(2)), impl.Vector{1}, []impl.Vector{{1}, {0, 1}, {0, 0, 1}, {0, 0, 0, 1}}},
	}
	for _, x := range tests {
		got, code := impl.LeastSubcoalgebra(x.c, x.v)
		if !slices.Equal(got, x.want) || code != impl.ErrNone {
			t.Errorf("LeastSubcoalgebra(%v, %v) = %v, %d", x.c, x.v, got, code)
		}
		for i := range got {
			got[i] = impl.Vector{99}
		}
		if again, _ := impl.LeastSubcoalgebra(x.c, x.v); !slices.Equal(again, x.want) {
			t.Errorf("LeastSubcoalgebra(%v, %v) = %v the second time", x.c, x.v, again)
		}
	}
}

// pairsOf returns all sums of v (x) w for v and w in a list.
func pairsOf(p int64, list []impl.Vector) map[impl.Linear]bool {
	sums := map[impl.Linear]bool{{}: true}
	for _, v := range list {
		for _, w := range list {
			longer := map[impl.Linear]bool{}
			for f := range sums {
				for x := range p {
					longer[sumOfTables(p, f, x, plainPair(p, v, w))] = true
				}
			}
			sums = longer
		}
	}
	return sums
}

func TestIsSubcoalgebraForEverySmallSpace(t *testing.T) {
	coalgebras := []impl.Coalgebra{
		sets(2, 3), powers(2, 3), sets(3, 2), powers(5, 2), sets(2, 1), sets(5, 1), plainDual(triangles(2)),
		plainDual(cyclic(2, 3)), plainDual(cyclic(3, 2)), plainDual(cyclic(2, 2)),
	}
	for _, c := range coalgebras {
		all := everyVector(c.Prime, c.Size)
		for _, v := range all {
			for _, w := range all {
				list := []impl.Vector{v, w}
				pairs := pairsOf(c.Prime, list)
				want := pairs[plainCoproduct(c, v)] && pairs[plainCoproduct(c, w)]
				if got, code := impl.IsSubcoalgebra(c, list); got != want || code != impl.ErrNone {
					t.Errorf("IsSubcoalgebra(%v, %v) = %v, %d", c, list, got, code)
				}
			}
		}
	}
}

func TestIsSubcoalgebraForSomeSpaces(t *testing.T) {
	var s numbers
	seen := map[bool]int{}
	for _, c := range someCoalgebras() {
		for size := range int64(5) {
			var list []impl.Vector
			for range size {
				list = append(list, basis(s.below(c.Size)))
			}
			if s.below(2) == 0 {
				list = append(list, s.vector(c.Prime, c.Size))
			}
			space, _ := impl.ReduceVectors(c.Prime, c.Size, list)
			want := slices.Equal(space, closureOf(t, c, list))
			seen[want]++
			if got, code := impl.IsSubcoalgebra(c, list); got != want || code != impl.ErrNone {
				t.Errorf("IsSubcoalgebra(%v, %v) = %v, %d", c, list, got, code)
			}
		}
	}
	if seen[true] < 20 || seen[false] < 20 {
		t.Errorf("samples: %v", seen)
	}
}

func TestIsSubcoalgebraAtTheEdges(t *testing.T) {
	var all []impl.Vector
	for i := range int64(8) {
		all = append(all, basis(i))
	}
	tests := []struct {
		c    impl.Coalgebra
		list []impl.Vector
		want bool
	}{
		{sets(31, 8), nil, true},
		{sets(31, 8), []impl.Vector{}, true},
		{sets(2, 1), []impl.Vector{{}}, true},
		{powers(31, 8), []impl.Vector{{}, {}, {}}, true},
		{powers(31, 8), all, true},
		{powers(31, 8), all[:7], true},
		{powers(31, 8), all[1:], false},
		{powers(31, 8), all[1:2], false},
		{sets(2, 8), all[3:5], true},
		{sets(2, 8), []impl.Vector{{1, 1}, {1, 0, 1}, {0, 1, 1}}, false},
		{sets(2, 8), []impl.Vector{{1, 1}, {0, 1, 1}, {1, 1, 1}}, true},
		{sets(31, 2), []impl.Vector{{30}, {7}, {29}}, true},
		{sweedler(5), []impl.Vector{basis(0), basis(2)}, false},
		{sweedler(5), []impl.Vector{basis(1), basis(2)}, false},
		{sweedler(5), []impl.Vector{{1, 2, 3}, {2, 0, 1}, {1, 1}}, true},
	}
	for _, x := range tests {
		given := append(slices.Clone(x.list), impl.Vector{9, 9, 9})
		before := slices.Clone(given)
		if got, code := impl.IsSubcoalgebra(x.c, given[:len(x.list)]); got != x.want || code != impl.ErrNone {
			t.Errorf("IsSubcoalgebra(%v, %v) = %v, %d", x.c, x.list, got, code)
		}
		if !slices.Equal(given, before) {
			t.Errorf("IsSubcoalgebra changed %v to %v", before, given)
		}
	}
}

// checkCoalgebraFunctions sees that all functions of a coalgebra and a vector refuse these.
func checkCoalgebraFunctions(t *testing.T, name string, c impl.Coalgebra, v impl.Vector) {
	t.Helper()
	bad := func(function string, ok bool, code int64) {
		t.Helper()
		if !ok || code != impl.ErrInvalid {
			t.Errorf("%s: %s with %v: code %d, or no zero value", name, function, v, code)
		}
	}
	table, code := impl.CoproductIn(c, v)
	bad("CoproductIn", table == impl.Linear{}, code)
	number, code := impl.CounitIn(c, v)
	bad("CounitIn", number == 0, code)
	ok, code := impl.IsGroupLike(c, v)
	bad("IsGroupLike", !ok, code)
	for _, pair := range [][2]impl.Vector{{v, {1}}, {{1}, v}, {{2}, v}, {v, {2}}} {
		space, code := impl.PrimitiveSpace(c, pair[0], pair[1])
		bad("PrimitiveSpace", len(space) == 0, code)
	}
	space, code := impl.LeastSubcoalgebra(c, v)
	bad("LeastSubcoalgebra", len(space) == 0, code)
	for _, list := range [][]impl.Vector{{v}, {{1}, v}, {v, {1}, {}}} {
		ok, code = impl.IsSubcoalgebra(c, list)
		bad("IsSubcoalgebra", !ok, code)
	}
}

func TestVectorsThatAreNoneForCoalgebras(t *testing.T) {
	for _, v := range badVectors() {
		checkCoalgebraFunctions(t, "vector", powers(5, 3), v)
	}
}

func TestCoalgebrasThatAreNone(t *testing.T) {
	for _, x := range badCoalgebras() {
		if impl.IsCoalgebra(x.c) {
			t.Errorf("%s: IsCoalgebra", x.name)
		}
		checkCoalgebraFunctions(t, x.name, x.c, impl.Vector{1})
		checkCoalgebraFunctions(t, x.name, x.c, impl.Vector{255})
		if got, code := impl.DualAlgebra(x.c); got != (impl.Algebra{}) || code != impl.ErrInvalid {
			t.Errorf("%s: DualAlgebra = %v, %d", x.name, got, code)
		}
		if got, code := impl.IsCocommutative(x.c); got || code != impl.ErrInvalid {
			t.Errorf("%s: IsCocommutative = %v, %d", x.name, got, code)
		}
		if got, code := impl.GroupLikes(x.c); len(got) != 0 || code != impl.ErrInvalid {
			t.Errorf("%s: GroupLikes = %v, %d", x.name, got, code)
		}
		if got, code := impl.IsSubcoalgebra(x.c, nil); got || code != impl.ErrInvalid {
			t.Errorf("%s: IsSubcoalgebra = %v, %d", x.name, got, code)
		}
		for _, a := range []impl.Algebra{cyclic(5, 3), cyclic(31, 8), cyclic(2, 1)} {
			checkNoMaps(t, x.name, x.c, a)
		}
	}
}

// checkNoMaps sees that there are no maps from c to a.
func checkNoMaps(t *testing.T, name string, c impl.Coalgebra, a impl.Algebra) {
	t.Helper()
	for _, f := range []impl.Linear{{}, {{1}}, {{255}}} {
		if got, code := impl.ConvolveMaps(c, a, f, f); got != (impl.Linear{}) || code != impl.ErrInvalid {
			t.Errorf("%s: ConvolveMaps = %v, %d", name, got, code)
		}
	}
	if got, code := impl.UnitMap(c, a); got != (impl.Linear{}) || code != impl.ErrInvalid {
		t.Errorf("%s: UnitMap = %v, %d", name, got, code)
	}
}

func TestDualsOfAlgebrasThatAreNone(t *testing.T) {
	for _, x := range badAlgebras() {
		if got, code := impl.DualCoalgebra(x.a); got != (impl.Coalgebra{}) || code != impl.ErrInvalid {
			t.Errorf("%s: DualCoalgebra = %v, %d", x.name, got, code)
		}
		for _, c := range []impl.Coalgebra{sets(5, 3), sets(31, 8), powers(2, 1)} {
			checkNoMaps(t, x.name, c, x.a)
		}
	}
}

func TestCoFaultsOfShapelessTables(t *testing.T) {
	for _, x := range shapelessCoalgebras() {
		if got, code := impl.FirstCoFault(x.c); len(got) != 0 || code != impl.ErrInvalid {
			t.Errorf("%s: FirstCoFault = %v, %d", x.name, got, code)
		}
	}
	for _, x := range brokenCoalgebras() {
		checkCoaxioms(t, x.c)
	}
}

func TestGroupLikesOfNoCoalgebraBeyondTheLimit(t *testing.T) {
	c := sets(31, 8)
	c.Counit[7] = 2
	if got, code := impl.GroupLikes(c); len(got) != 0 || code != impl.ErrInvalid {
		t.Errorf("GroupLikes = %v, %d", got, code)
	}
	c = impl.Coalgebra{Prime: math.MaxInt64, Size: math.MaxInt64}
	if got, code := impl.GroupLikes(c); len(got) != 0 || code != impl.ErrInvalid {
		t.Errorf("GroupLikes = %v, %d", got, code)
	}
}
