package tests

import (
	"slices"
	"testing"

	"loop.example/g01230/impl"
)

// isRefused sees that a function returns ErrInvalid, and that nothing is beside it.
func isRefused(t *testing.T, name string, nothing bool, code int64) {
	t.Helper()
	if !nothing || code != impl.ErrInvalid {
		t.Errorf("%s: code %d, and zero values: %v", name, code, nothing)
	}
}

// checkRefused calls all functions that take a module m, which is none of h.
func checkRefused(t *testing.T, name string, h impl.Hopf, m impl.Module) {
	t.Helper()
	if impl.IsModule(h, m) {
		t.Errorf("%s: IsModule", name)
	}
	dual, code := impl.DualModule(h, m)
	hasNone(t, name+": DualModule", dual, code, impl.ErrInvalid)
	character, code := impl.CharacterOf(h, m)
	isRefused(t, name+": CharacterOf", character == impl.Vector{}, code)
	invariants, code := impl.InvariantsOf(h, m)
	isRefused(t, name+": InvariantsOf", len(invariants) == 0, code)
	for _, v := range []impl.Vector{{}, {1}, {255}} {
		image, code := impl.ActOn(h, m, v, v)
		isRefused(t, name+": ActOn", image == impl.Vector{}, code)
		sub, code := impl.SubmoduleOf(h, m, v)
		isRefused(t, name+": SubmoduleOf", len(sub) == 0, code)
		for _, list := range [][]impl.Vector{nil, {v}, {v, v}} {
			ok, code := impl.IsSubmodule(h, m, list)
			isRefused(t, name+": IsSubmodule", !ok, code)
			quotient, code := impl.QuotientModule(h, m, list)
			hasNone(t, name+": QuotientModule", quotient, code, impl.ErrInvalid)
		}
	}
}

// checkRefusedPair calls all functions that take two modules, which are not both modules of h. A sum
// and a tensor product would be too large with many of them.
func checkRefusedPair(t *testing.T, name string, h impl.Hopf, m, k impl.Module) {
	t.Helper()
	sum, code := impl.SumModule(h, m, k)
	hasNone(t, name+": SumModule", sum, code, impl.ErrInvalid)
	tensor, code := impl.TensorModule(h, m, k)
	hasNone(t, name+": TensorModule", tensor, code, impl.ErrInvalid)
	for _, f := range []impl.Linear{{}, {{1}}, {{255}}} {
		ok, code := impl.IsModuleMap(h, m, k, f)
		isRefused(t, name+": IsModuleMap", !ok, code)
	}
	dimension, code := impl.DimensionOfMaps(h, m, k)
	isRefused(t, name+": DimensionOfMaps", dimension == 0, code)
}

func TestModulesOfWhatIsNoHopfAlgebra(t *testing.T) {
	list := badHopfs()
	for _, h := range smallHopfs() {
		wrong := sumOf(h.Prime, h.Antipode[0], 1, basis(h.Size-1))
		list = append(list, badHopf{"another Antipode", 6, changed(h, func(h *impl.Hopf) { h.Antipode[0] = wrong })})
	}
	for _, x := range list {
		regular, code := impl.RegularModule(x.h)
		hasNone(t, x.name+": RegularModule", regular, code, impl.ErrInvalid)
		for _, m := range []int64{1, 8} {
			trivial, code := impl.TrivialModule(x.h, m)
			hasNone(t, x.name+": TrivialModule", trivial, code, impl.ErrInvalid)
		}
		modules := modulesForNone(x.h)
		last := modules[len(modules)-1]
		checkRefusedPair(t, x.name, x.h, last, last)
		for _, m := range modules {
			checkRefused(t, x.name, x.h, m)
			checkRefusedPair(t, x.name, x.h, m, modules[0])
		}
	}
}

func TestFunctionsOfModulesThatAreNone(t *testing.T) {
	for _, x := range badModules() {
		checkRefused(t, x.name, x.h, x.m)
		checkRefusedPair(t, x.name, x.h, x.m, x.m)
		for _, dim := range []int64{1, 8} {
			good := plainTrivial(x.h, dim)
			checkRefusedPair(t, x.name+", the first one", x.h, x.m, good)
			checkRefusedPair(t, x.name+", the second one", x.h, good, x.m)
		}
	}
}

// Modules of one Hopf algebra mostly are none of another one with the same size.
func TestModulesOfOtherHopfAlgebras(t *testing.T) {
	c4, klein := groupHopf(cyclic(5, 4)), plainTensor(groupHopf(cyclic(5, 2)), groupHopf(cyclic(5, 2)))
	sweedler, functions := sweedlerHopf(5), plainDualHopf(c4)
	list := []impl.Hopf{c4, klein, sweedler, functions, sweedlerHopf(31), groupHopf(cyclic(5, 3))}
	for i, h := range list {
		for j, k := range list {
			if i != j {
				checkRefused(t, "the regular module of another one", h, plainRegular(k))
				checkRefusedPair(t, "with the regular module of another one", h, plainRegular(h), plainRegular(k))
			}
		}
	}
}

// checkNoVector calls the functions that take vectors of m with one that is none.
func checkNoVector(t *testing.T, h impl.Hopf, m impl.Module, v impl.Vector) {
	t.Helper()
	image, code := impl.ActOn(h, m, h.Unit, v)
	isRefused(t, "ActOn on no vector", image == impl.Vector{}, code)
	sub, code := impl.SubmoduleOf(h, m, v)
	isRefused(t, "SubmoduleOf no vector", len(sub) == 0, code)
	// With these the space would be no submodule, or have all vectors, which is ErrState.
	whole := plainIdentity(m.Dim)
	for _, list := range [][]impl.Vector{{v}, {{}, v}, {basis(0), v}, {v, basis(0)}, append(slices.Clone(whole[:m.Dim]), v)} {
		ok, code := impl.IsSubmodule(h, m, list)
		isRefused(t, "IsSubmodule with no vector", !ok, code)
		quotient, code := impl.QuotientModule(h, m, list)
		hasNone(t, "QuotientModule with no vector", quotient, code, impl.ErrInvalid)
	}
}

func TestVectorsThatAreNoneForModules(t *testing.T) {
	h := groupHopf(cyclic(5, 3))
	for _, v := range badVectors() {
		checkNoVector(t, h, plainRegular(h), v)
		image, code := impl.ActOn(h, plainRegular(h), v, basis(0))
		isRefused(t, "ActOn of no vector", image == impl.Vector{}, code)
	}
	for at, x := range someModules() {
		if at%5 != 0 {
			continue
		}
		checkNoVector(t, x.h, x.m, changed(impl.Vector{}, func(v *impl.Vector) { v[0] = byte(x.h.Prime) }))
		if x.m.Dim < 8 {
			checkNoVector(t, x.h, x.m, basis(x.m.Dim))
			checkNoVector(t, x.h, x.m, basis(7))
		}
		for _, a := range []impl.Vector{{byte(x.h.Prime)}, {7: byte(x.h.Prime)}, {255}} {
			image, code := impl.ActOn(x.h, x.m, a, basis(0))
			isRefused(t, "ActOn of no vector", image == impl.Vector{}, code)
		}
		if x.h.Size < 8 {
			image, code := impl.ActOn(x.h, x.m, basis(x.h.Size), basis(0))
			isRefused(t, "ActOn of a vector behind", image == impl.Vector{}, code)
		}
	}
}

// The Dims tell what maps there are: from three basis elements to vectors of two.
func TestModuleMapsThatAreNoMaps(t *testing.T) {
	h := sweedlerHopf(5)
	three, two := plainSumModule(planeOf(5), plainTrivial(h, 1)), planeOf(5)
	for _, f := range mapsThatAreNone() {
		ok, code := impl.IsModuleMap(h, three, two, f)
		isRefused(t, "IsModuleMap", !ok, code)
	}
	for _, f := range []impl.Linear{{{0, 0, 1}}, {{}, {4, 4, 4}}, {{}, {0, 4, 0}, {0, 0, 3}}} {
		ok, code := impl.IsModuleMap(h, three, two, f)
		isRefused(t, "IsModuleMap to a smaller one", !ok, code)
	}
	for _, f := range []impl.Linear{{{}, {}, {1}}, {{1}, {0, 1}, {0, 0, 1}}, {{0, 0, 0, 1}}, {7: {1}}} {
		ok, code := impl.IsModuleMap(h, two, three, f)
		isRefused(t, "IsModuleMap to a larger one", !ok, code)
	}
	if ok, code := impl.IsModuleMap(h, two, three, impl.Linear{{1, 0, 4}, {0, 1}}); !ok || code != impl.ErrNone {
		t.Errorf("IsModuleMap into a sum: %v, %d", ok, code)
	}
	if ok, code := impl.IsModuleMap(h, three, two, impl.Linear{{1}, {0, 1}, {0, 0}}); !ok || code != impl.ErrNone {
		t.Errorf("IsModuleMap out of a sum: %v, %d", ok, code)
	}
}

// Results of earlier calls stay as they are, whatever is done with those of later ones.
func TestListsOfModulesAreNewMemory(t *testing.T) {
	for _, x := range someModules() {
		list := invariantsIn(t, x.h, x.m)
		before := slices.Clone(list)
		again, _ := impl.InvariantsOf(x.h, x.m)
		for i := range again {
			again[i] = impl.Vector{99}
		}
		again = append(again, impl.Vector{99})
		if !slices.Equal(list, before) {
			t.Fatalf("InvariantsOf(%v, %v) was %v, and is %v", x.h, x.m, before, list)
		}
	}
}
