package tests

import (
	"testing"

	"loop.example/g01230/impl"
)

// embeddedLeft and embeddedRight call the embeddings, whose results have to be v # Unit and Unit # v.
func embeddedLeft(t *testing.T, h impl.Hopf, a impl.Algebra, v impl.Vector) impl.Vector {
	t.Helper()
	got, code := impl.EmbedLeft(h, a, v)
	if got != plainHash(h, v, h.Unit) || code != impl.ErrNone {
		t.Errorf("EmbedLeft(%v, %v, %v) = %v, %d", h, a, v, got, code)
	}
	return got
}

func embeddedRight(t *testing.T, h impl.Hopf, a impl.Algebra, v impl.Vector) impl.Vector {
	t.Helper()
	got, code := impl.EmbedRight(h, a, v)
	if got != plainHash(h, a.Unit, v) || code != impl.ErrNone {
		t.Errorf("EmbedRight(%v, %v, %v) = %v, %d", h, a, v, got, code)
	}
	return got
}

// smashIn calls SmashProduct, whose result has to be an algebra, and the one that is told.
func smashIn(t *testing.T, x hopfAction) impl.Algebra {
	t.Helper()
	smash, code := impl.SmashProduct(x.h, x.a, x.m)
	if smash != plainSmash(x.h, x.a, x.m) || code != impl.ErrNone {
		t.Errorf("SmashProduct(%v) = %v, %d", x, smash, code)
	}
	if !impl.IsAlgebra(smash) || plainFault(smash) != nil || !plainUnit(smash) {
		t.Errorf("SmashProduct(%v) = %v is no algebra", x, smash)
	}
	return smash
}

// checkLiesIn sees that an embedding leads an algebra with its products and its Unit into a smash
// product, and no two vectors to the same one.
func checkLiesIn(t *testing.T, smash, a impl.Algebra, embed func(v impl.Vector) impl.Vector) {
	t.Helper()
	var images impl.Linear
	for i := range a.Size {
		images[i] = embed(basis(i))
	}
	for i := range a.Size {
		for j := range a.Size {
			if got := plainProduct(smash, images[i], images[j]); got != plainImage(a.Prime, images, a.Mul[i][j]) {
				t.Errorf("%v in %v: e(%d) e(%d) is led to %v", a, smash, i, j, got)
			}
		}
	}
	if embed(a.Unit) != smash.Unit || int64(rank(t, smash.Prime, smash.Size, images[:a.Size])) != a.Size {
		t.Errorf("%v does not lie in %v with its Unit: %v", a, smash, images)
	}
}

// Promise 8: smash products are algebras in which both algebras lie.
func TestSmashProductsAreAlgebrasInWhichBothLie(t *testing.T) {
	var s numbers
	sizes := map[int64]int{}
	for _, x := range append(someActions(), otherActions()...) {
		n, size := x.h.Size, x.h.Size*x.a.Size
		if size > 8 || !plainKeepsProducts(x.h, x.a, x.m) {
			continue
		}
		sizes[size]++
		smash := smashIn(t, x)
		checkLiesIn(t, smash, x.a, func(v impl.Vector) impl.Vector { return embeddedLeft(t, x.h, x.a, v) })
		checkLiesIn(t, smash, algebraIn(x.h), func(v impl.Vector) impl.Vector { return embeddedRight(t, x.h, x.a, v) })
		v, w := s.vector(x.h.Prime, x.a.Size), s.vector(x.h.Prime, n)
		both := plainProduct(smash, embeddedLeft(t, x.h, x.a, v), embeddedRight(t, x.h, x.a, w))
		if both != plainHash(x.h, v, w) {
			t.Errorf("SmashProduct(%v): %v and %v have the product %v", x, v, w, both)
		}
	}
	for size := int64(1); size <= 8; size++ {
		if sizes[size] < 4 {
			t.Errorf("%d smash products have the Size %d", sizes[size], size)
		}
	}
}

// In a smash product, e(i) passes x by the legs of its coproduct.
func TestSmashProductsTellTheAction(t *testing.T) {
	for _, x := range someActions() {
		if x.h.Size*x.a.Size > 8 {
			continue
		}
		smash, _ := impl.SmashProduct(x.h, x.a, x.m)
		for i := range x.h.Size {
			for y := range x.a.Size {
				var want impl.Vector
				for k, leg := range x.h.Com[i] {
					want = sumOf(x.h.Prime, want, 1, plainHash(x.h, x.m.Acts[k][y], leg))
				}
				right, left := embeddedRight(t, x.h, x.a, basis(i)), embeddedLeft(t, x.h, x.a, basis(y))
				if got := plainProduct(smash, right, left); got != want {
					t.Errorf("SmashProduct(%v): e(%d) and %d have the product %v, not %v", x, i, y, got, want)
				}
			}
		}
	}
}

func TestSmashProductsBeyondTheLimit(t *testing.T) {
	large := map[int64]int{}
	for _, x := range append(someActions(), otherActions()...) {
		size := x.h.Size * x.a.Size
		if size <= 8 {
			continue
		}
		large[size]++
		want := int64(impl.ErrLimit)
		if !plainKeepsProducts(x.h, x.a, x.m) {
			want = impl.ErrState
		}
		smash, code := impl.SmashProduct(x.h, x.a, x.m)
		hasNone(t, "SmashProduct beyond the limit", smash, code, want)
	}
	if large[9] < 10 || large[10] < 1 || large[12] < 10 || large[64] < 10 {
		t.Errorf("Sizes beyond the limit: %v", large)
	}
}

// renumbered is the same algebra with e(places[i]) in the place of e(i).
func renumbered(a impl.Algebra, places ...int64) impl.Algebra {
	take := func(v impl.Vector) impl.Vector {
		var w impl.Vector
		for i, place := range places {
			w[i] = v[place]
		}
		return w
	}
	other := impl.Algebra{Prime: a.Prime, Size: a.Size, Unit: take(a.Unit)}
	for i, place := range places {
		for j, second := range places {
			other.Mul[i][j] = take(a.Mul[place][second])
		}
	}
	return other
}

func TestSmashProductsThatAreKnown(t *testing.T) {
	for _, p := range []int64{2, 3, 5, 31} {
		minus := byte(p - 1)
		c2 := groupHopf(cyclic(p, 2))
		// y y is - 1, g g is 1, and g y is - y g.
		turning := impl.Algebra{Prime: p, Size: 4, Unit: impl.Vector{1}, Mul: impl.Table{
			{{1}, {0, 1}, {0, 0, 1}, {0, 0, 0, 1}}, {{0, 1}, {1}, {0, 0, 0, minus}, {0, 0, minus}},
			{{0, 0, 1}, {0, 0, 0, 1}, {minus}, {0, minus}}, {{0, 0, 0, 1}, {0, 0, 1}, {0, 1}, {1}},
		}}
		sign := impl.Module{Dim: 2, Acts: [8]impl.Linear{{{1}, {0, 1}}, {{1}, {0, minus}}}}
		tests := []struct {
			name string
			x    hopfAction
			want impl.Algebra
		}{
			{"dihedral of 3", moved(2, cyclic(p, 3), 0, 2, 1), renumbered(dihedral(p, 3), 0, 3, 1, 4, 2, 5)},
			{"dihedral of 4", moved(2, cyclic(p, 4), 0, 3, 2, 1), renumbered(dihedral(p, 4), 0, 4, 1, 5, 2, 6, 3, 7)},
			{"matrices from fields", moved(2, fields(p, 2), 1, 0), renumbered(matrices(p), 0, 1, 3, 2)},
			{"a root of - 1", hopfAction{c2, root(p, p-1), sign}, turning},
			{"a tensor product", hopfAction{c2, cyclic(p, 4), plainTrivial(c2, 4)}, algebraIn(plainTensor(groupHopf(cyclic(p, 4)), c2))},
			{"another tensor product", hopfAction{sweedlerHopf(p), cyclic(p, 2), plainTrivial(sweedlerHopf(p), 2)},
				algebraIn(plainTensor(c2, sweedlerHopf(p)))},
		}
		for _, x := range tests {
			if got := smashIn(t, x.x); got != x.want {
				t.Errorf("%s of %d: %v, not %v", x.name, p, got, x.want)
			}
		}
	}
}

// Powers of y with their derivation x make x y the same as y x + 1, and all matrices together.
func TestSmashProductsOfDerivations(t *testing.T) {
	x := derivedActions(2)[0]
	smash := smashIn(t, x)
	down, y := embeddedRight(t, x.h, x.a, basis(1)), embeddedLeft(t, x.h, x.a, basis(1))
	turned := sumOf(2, smash.Unit, 1, plainProduct(smash, y, down))
	if got := plainProduct(smash, down, y); got != turned || down != (impl.Vector{0, 1}) || y != (impl.Vector{0, 0, 1}) {
		t.Errorf("x y is %v, not %v", got, turned)
	}
	if centre, _ := impl.CentreOf(smash); len(centre) != 1 {
		t.Errorf("the centre of %v is %v", smash, centre)
	}
	own := smashIn(t, hopfAction{x.h, algebraIn(x.h), plainAdjointModule(x.h)})
	if ok, code := impl.IsCommutative(own); !ok || code != impl.ErrNone {
		t.Errorf("the smash product of the adjoint module of a line is not commutative: %v", own)
	}
}

// A field changes nothing, and neither does the Hopf algebra of one element.
func TestSmashProductsOfAllNames(t *testing.T) {
	for _, x := range everyNamedHopf() {
		field, one := fields(x.h.Prime, 1), groupHopf(cyclic(x.h.Prime, 1))
		if got := smashIn(t, hopfAction{x.h, field, plainTrivial(x.h, 1)}); got != algebraIn(x.h) {
			t.Errorf("%s: the smash product with a field is %v", x.name, got)
		}
		if got := smashIn(t, hopfAction{one, algebraIn(x.h), plainTrivial(one, x.h.Size)}); got != algebraIn(x.h) {
			t.Errorf("%s: the smash product with one element is %v", x.name, got)
		}
		adjoint, _ := impl.AdjointModule(x.h)
		got, code := impl.SmashProduct(x.h, algebraIn(x.h), adjoint)
		if x.h.Size < 3 && (code != impl.ErrNone || got != smashIn(t, hopfAction{x.h, algebraIn(x.h), plainAdjointModule(x.h)})) {
			t.Errorf("%s: the smash product of the adjoint module is %v, %d", x.name, got, code)
		}
		if x.h.Size >= 3 {
			hasNone(t, x.name+": SmashProduct", got, code, impl.ErrLimit)
		}
	}
}

// The module does not matter, and Sizes may be just great enough or too great by little.
func TestEmbeddings(t *testing.T) {
	var s numbers
	beyond := map[int64]int{}
	for at, h := range everyHopfForIntegrals() {
		p, n := h.Prime, h.Size
		for size := int64(1); size <= 8; size++ {
			a := fields(p, size)
			if at%2 == 0 {
				a = cyclic(p, size)
			}
			for _, v := range []impl.Vector{{}, a.Unit, basis(size - 1), s.vector(p, size)} {
				if n*size <= 8 {
					embeddedLeft(t, h, a, v)
					continue
				}
				beyond[n*size]++
				got, code := impl.EmbedLeft(h, a, v)
				hasNone(t, "EmbedLeft", got, code, impl.ErrLimit)
			}
			for _, v := range []impl.Vector{{}, h.Unit, basis(n - 1), s.vector(p, n)} {
				if n*size <= 8 {
					embeddedRight(t, h, a, v)
					continue
				}
				got, code := impl.EmbedRight(h, a, v)
				hasNone(t, "EmbedRight", got, code, impl.ErrLimit)
			}
		}
	}
	if beyond[9] == 0 || beyond[10] == 0 || beyond[12] == 0 || beyond[64] == 0 {
		t.Errorf("Sizes beyond the limit: %v", beyond)
	}
}

func TestEmbeddingsThatAreKnown(t *testing.T) {
	c2, skew, on2 := groupHopf(cyclic(5, 2)), sweedlerHopf(31), plainDualHopf(groupHopf(cyclic(31, 2)))
	tests := []struct {
		h           impl.Hopf
		a           impl.Algebra
		v, w        impl.Vector
		left, right impl.Vector
	}{
		{c2, root(5, 2), impl.Vector{2, 3}, impl.Vector{4, 1}, impl.Vector{2, 0, 3}, impl.Vector{4, 1}},
		{c2, fields(5, 3), impl.Vector{1, 2, 3}, impl.Vector{4, 1}, impl.Vector{1, 0, 2, 0, 3}, impl.Vector{4, 1, 4, 1, 4, 1}},
		{skew, fields(31, 2), impl.Vector{30, 7}, impl.Vector{1, 2, 3, 4}, impl.Vector{30, 0, 0, 0, 7}, impl.Vector{1, 2, 3, 4, 1, 2, 3, 4}},
		{on2, matrices(31), impl.Vector{5, 6, 7, 8}, impl.Vector{9, 10}, impl.Vector{5, 5, 6, 6, 7, 7, 8, 8}, impl.Vector{9, 10, 0, 0, 0, 0, 9, 10}},
		{on2, fields(31, 1), impl.Vector{5}, impl.Vector{9, 10}, impl.Vector{5, 5}, impl.Vector{9, 10}},
	}
	for _, x := range tests {
		if got, code := impl.EmbedLeft(x.h, x.a, x.v); got != x.left || code != impl.ErrNone {
			t.Errorf("EmbedLeft(%v, %v, %v) = %v, %d, not %v", x.h, x.a, x.v, got, code, x.left)
		}
		if got, code := impl.EmbedRight(x.h, x.a, x.w); got != x.right || code != impl.ErrNone {
			t.Errorf("EmbedRight(%v, %v, %v) = %v, %d, not %v", x.h, x.a, x.w, got, code, x.right)
		}
	}
}
