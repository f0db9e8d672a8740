package tests

import (
	"testing"

	"loop.example/g01230/impl"
)

// refusesAction calls all functions of module algebras, which have to return a code.
func refusesAction(t *testing.T, name string, x hopfAction, want int64) {
	t.Helper()
	ok, code := impl.IsModuleAlgebra(x.h, x.a, x.m)
	if ok || code != want {
		t.Errorf("%s: IsModuleAlgebra gives %v, %d, not code %d", name, ok, code, want)
	}
	smash, code := impl.SmashProduct(x.h, x.a, x.m)
	hasNone(t, name+": SmashProduct", smash, code, want)
	constants, code := impl.ConstantsOf(x.h, x.a, x.m)
	if len(constants) != 0 || code != want {
		t.Errorf("%s: ConstantsOf gives %v, %d, not code %d", name, constants, code, want)
	}
}

// refusesEmbeddings calls both embeddings with vectors of a and of h, which have to return a code.
func refusesEmbeddings(t *testing.T, name string, h impl.Hopf, a impl.Algebra, v, w impl.Vector, want int64) {
	t.Helper()
	left, code := impl.EmbedLeft(h, a, v)
	hasNone(t, name+": EmbedLeft", left, code, want)
	right, code := impl.EmbedRight(h, a, w)
	hasNone(t, name+": EmbedRight", right, code, want)
}

// refusesComodule calls all functions that take a comodule c, which is none of h.
func refusesComodule(t *testing.T, name string, h impl.Hopf, c impl.Comodule) {
	t.Helper()
	if impl.IsComodule(h, c) {
		t.Errorf("%s: IsComodule", name)
	}
	coinvariants, code := impl.CoinvariantsOf(h, c)
	isRefused(t, name+": CoinvariantsOf", len(coinvariants) == 0, code)
	m, code := impl.ModuleOfComodule(h, c)
	hasNone(t, name+": ModuleOfComodule", m, code, impl.ErrInvalid)
}

// notHopfs have no form, or fail an axiom.
func notHopfs() []badHopf {
	list := badHopfs()
	for _, h := range smallHopfs() {
		wrong := sumOf(h.Prime, h.Antipode[0], 1, basis(h.Size-1))
		list = append(list, badHopf{"another Antipode", 6, changed(h, func(h *impl.Hopf) { h.Antipode[0] = wrong })})
	}
	return list
}

// Other Primes, other Dims and too great Sizes do not matter where h is none.
func TestSmashProductsOfWhatIsNoHopfAlgebra(t *testing.T) {
	for _, x := range notHopfs() {
		adjoint, code := impl.AdjointModule(x.h)
		hasNone(t, x.name+": AdjointModule", adjoint, code, impl.ErrInvalid)
		regular, code := impl.RegularComodule(x.h)
		hasNone(t, x.name+": RegularComodule", regular, code, impl.ErrInvalid)
		for _, a := range []impl.Algebra{algebraIn(x.h), fields(5, 1), fields(31, 8)} {
			for _, m := range modulesForNone(x.h) {
				refusesAction(t, x.name, hopfAction{x.h, a, m}, impl.ErrInvalid)
			}
			for _, v := range []impl.Vector{{}, {1}, {255}} {
				refusesEmbeddings(t, x.name, x.h, a, v, v, impl.ErrInvalid)
			}
		}
		for _, c := range comodulesForNone(x.h) {
			refusesComodule(t, x.name, x.h, c)
		}
		for _, m := range modulesForNone(x.h) {
			c, code := impl.ComoduleOfModule(x.h, m)
			hasNone(t, x.name+": ComoduleOfModule", c, code, impl.ErrInvalid)
		}
	}
}

func TestSmashProductsOfWhatIsNoAlgebra(t *testing.T) {
	for _, x := range badAlgebras() {
		for _, p := range []int64{5, 31} {
			c1, c3, eight := groupHopf(cyclic(p, 1)), groupHopf(cyclic(p, 3)), groupHopf(quaternionGroup(p))
			for _, h := range []impl.Hopf{c1, c3, eight} {
				for _, dim := range []int64{1, 2, 3, 8} {
					refusesAction(t, x.name, hopfAction{h, x.a, plainTrivial(h, dim)}, impl.ErrInvalid)
				}
				for _, v := range []impl.Vector{{}, {1}, {255}} {
					refusesEmbeddings(t, x.name, h, x.a, v, v, impl.ErrInvalid)
				}
				refusesEmbeddings(t, x.name, h, x.a, x.a.Unit, h.Unit, impl.ErrInvalid)
			}
		}
	}
}

func TestSmashProductsOfWhatIsNoModule(t *testing.T) {
	for _, x := range badModules() {
		for _, a := range []impl.Algebra{fields(5, 1), fields(31, 8), fields(x.h.Prime, 4), algebraIn(x.h)} {
			refusesAction(t, x.name, hopfAction{x.h, a, x.m}, impl.ErrInvalid)
		}
		c, code := impl.ComoduleOfModule(x.h, x.m)
		hasNone(t, x.name+": ComoduleOfModule", c, code, impl.ErrInvalid)
	}
	for _, x := range badComodules() {
		refusesComodule(t, x.name, x.h, x.c)
	}
}

// Comodules and modules of one Hopf algebra mostly are none of another one with the same size.
func TestComodulesOfOtherHopfAlgebras(t *testing.T) {
	c4, klein := groupHopf(cyclic(5, 4)), plainTensor(groupHopf(cyclic(5, 2)), groupHopf(cyclic(5, 2)))
	sweedler, functions := sweedlerHopf(5), plainDualHopf(klein)
	list := []impl.Hopf{c4, sweedler, functions, plainDualHopf(c4), plainDualHopf(groupHopf(cyclic(31, 5)))}
	for i, h := range list {
		for j, k := range list {
			if i != j {
				refusesComodule(t, "the regular comodule of another one", h, plainRegularComodule(k))
			}
		}
	}
	// The coproducts of all groups of four are the same.
	if !impl.IsComodule(c4, plainRegularComodule(klein)) {
		t.Error("the group algebras of both groups of four have the same comodules")
	}
}

// ErrInvalid comes first for all arguments, then ErrRange, ErrState and ErrLimit.
func TestPrimesAndDimsOfModuleAlgebras(t *testing.T) {
	for at, x := range someActions() {
		if at%3 != 0 {
			continue
		}
		other := int64(31)
		if x.h.Prime == 31 {
			other = 2
		}
		for _, size := range []int64{1, x.a.Size, 8} {
			refusesAction(t, "another Prime", hopfAction{x.h, fields(other, size), x.m}, impl.ErrRange)
			refusesEmbeddings(t, "another Prime", x.h, fields(other, size), basis(0), basis(0), impl.ErrRange)
		}
		for _, size := range []int64{1, x.a.Size - 1, x.a.Size + 1, 8} {
			if size >= 1 && size <= 8 && size != x.a.Size {
				refusesAction(t, "another Dim", hopfAction{x.h, truncated(x.h.Prime, size), x.m}, impl.ErrRange)
			}
		}
	}
	// The regular module of a group exchanges fields, and keeps no products of the group.
	h := groupHopf(dihedral(31, 4))
	if checkAction(t, hopfAction{h, algebraIn(h), plainRegular(h)}) {
		t.Error("the regular module of a group is a module algebra")
	}
	smash, code := impl.SmashProduct(h, fields(31, 8), plainRegular(h))
	hasNone(t, "SmashProduct beyond the limit", smash, code, impl.ErrLimit)
	refusesAction(t, "another Prime of 8", hopfAction{h, fields(29, 8), plainRegular(h)}, impl.ErrRange)
	refusesAction(t, "no Hopf algebra and another Prime", hopfAction{changed(h, func(h *impl.Hopf) { h.Antipode[1] = basis(1) }), fields(29, 8), plainRegular(h)}, impl.ErrInvalid)
	refusesAction(t, "no algebra and another Prime", hopfAction{h, changed(fields(29, 8), func(a *impl.Algebra) { a.Unit[3] = 2 }), plainRegular(h)}, impl.ErrInvalid)
	refusesAction(t, "no module and another Prime", hopfAction{h, fields(29, 8), impl.Module{Dim: 8}}, impl.ErrInvalid)
	refusesAction(t, "no module and another Dim", hopfAction{h, fields(31, 7), impl.Module{Dim: 8}}, impl.ErrInvalid)
}

// Vectors that are none come before other Primes and too great Sizes.
func TestVectorsThatAreNoneForEmbeddings(t *testing.T) {
	three := []impl.Algebra{cyclic(5, 3), fields(5, 3), truncated(5, 3)}
	for _, v := range badVectors() {
		for _, h := range []impl.Hopf{groupHopf(cyclic(5, 1)), groupHopf(cyclic(5, 2)), lineHopf(5, 1), groupHopf(cyclic(31, 8))} {
			for _, a := range three {
				got, code := impl.EmbedLeft(h, a, v)
				hasNone(t, "EmbedLeft", got, code, impl.ErrInvalid)
			}
		}
		for _, a := range []impl.Algebra{fields(5, 1), fields(5, 2), fields(5, 8), matrices(31)} {
			got, code := impl.EmbedRight(groupHopf(cyclic(5, 3)), a, v)
			hasNone(t, "EmbedRight", got, code, impl.ErrInvalid)
		}
	}
	for at, h := range integralHopfs() {
		p, size := h.Prime, int64(at%8)+1
		for _, q := range []int64{p, 2, 31} {
			a := cyclic(q, size)
			refusesEmbeddings(t, "no vectors", h, a, impl.Vector{byte(q)}, impl.Vector{byte(p)}, impl.ErrInvalid)
			refusesEmbeddings(t, "no last entry", h, a, impl.Vector{7: 255}, impl.Vector{7: 255}, impl.ErrInvalid)
			if h.Size < 8 && size < 8 {
				refusesEmbeddings(t, "vectors behind", h, a, basis(size), basis(h.Size), impl.ErrInvalid)
			}
		}
	}
	// What is a vector of the one is none of the other one.
	c2, a := groupHopf(cyclic(5, 2)), fields(5, 4)
	refusesEmbeddings(t, "exchanged", c2, fields(5, 1), basis(1), basis(2), impl.ErrInvalid)
	embeddedLeft(t, c2, a, basis(3))
	embeddedRight(t, c2, a, basis(1))
	embeddedRight(t, c2, fields(5, 1), basis(1))
}

func TestListsOfSmashProductsAreNewMemory(t *testing.T) {
	for at, x := range someActions() {
		if at%5 == 0 {
			stays(t, "ConstantsOf", func() ([]impl.Vector, int64) { return impl.ConstantsOf(x.h, x.a, x.m) })
		}
	}
	for at, x := range someComodules() {
		if at%5 == 0 {
			stays(t, "CoinvariantsOf", func() ([]impl.Vector, int64) { return impl.CoinvariantsOf(x.h, x.c) })
		}
	}
}
