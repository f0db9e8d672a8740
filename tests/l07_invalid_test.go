package tests

import (
	"slices"
	"testing"

	"loop.example/g01230/impl"
)

// refusesList calls all functions that take a list, because of which, or of h, they return ErrInvalid.
func refusesList(t *testing.T, name string, h impl.Hopf, list []impl.Vector) {
	t.Helper()
	keepsList(t, name, list, func(given []impl.Vector) {
		ok, code := impl.IsSubHopf(h, given)
		isRefused(t, name+": IsSubHopf", !ok, code)
		space, code := impl.GeneratedSub(h, given)
		isRefused(t, name+": GeneratedSub", len(space) == 0, code)
		sub, code := impl.SubHopf(h, given)
		isRefused(t, name+": SubHopf", sub == impl.Hopf{}, code)
		ok, code = impl.IsHopfIdeal(h, given)
		isRefused(t, name+": IsHopfIdeal", !ok, code)
		quotient, code := impl.QuotientHopf(h, given)
		isRefused(t, name+": QuotientHopf", quotient == impl.Hopf{}, code)
		ok, code = impl.IsNormalSub(h, given)
		isRefused(t, name+": IsNormalSub", !ok, code)
		ideal, code := impl.IdealOfSub(h, given)
		isRefused(t, name+": IdealOfSub", len(ideal) == 0, code)
	})
}

// refusesVectors calls the functions that take vectors.
func refusesVectors(t *testing.T, name string, h impl.Hopf, pairs ...[2]impl.Vector) {
	t.Helper()
	for _, x := range pairs {
		for _, right := range []bool{false, true} {
			image, code := impl.AdjointAction(h, x[0], x[1], right)
			isRefused(t, name+": AdjointAction", image == impl.Vector{}, code)
		}
	}
}

func TestSubsOfWhatIsNoHopfAlgebra(t *testing.T) {
	list := badHopfs()
	for _, h := range someHopfs() {
		wrong := sumOf(h.Prime, h.Antipode[0], 1, basis(h.Size-1))
		list = append(list, badHopf{"another Antipode", 6, changed(h, func(h *impl.Hopf) { h.Antipode[0] = wrong })})
	}
	for _, x := range list {
		augmentation, code := impl.AugmentationIdeal(x.h)
		isRefused(t, x.name+": AugmentationIdeal", len(augmentation) == 0, code)
		for _, v := range []impl.Vector{{}, {1}, {255}, x.h.Unit} {
			legs, code := impl.LegsOf(x.h, v)
			isRefused(t, x.name+": LegsOf", len(legs) == 0, code)
			refusesVectors(t, x.name, x.h, [2]impl.Vector{v, v}, [2]impl.Vector{{}, v}, [2]impl.Vector{v, {}})
			refusesList(t, x.name, x.h, []impl.Vector{v})
			refusesList(t, x.name, x.h, []impl.Vector{x.h.Unit, {}, v})
		}
		refusesList(t, x.name, x.h, nil)
		whole := plainIdentity(8)
		refusesList(t, x.name, x.h, whole[:min(max(x.h.Size, 0), 8)])
	}
}

// refusesVector calls all functions with a vector that is none for a Hopf algebra h, alone and among
// others. Without it, lists are those of sub Hopf algebras, of ideals, or of neither.
func refusesVector(t *testing.T, h impl.Hopf, v impl.Vector) {
	t.Helper()
	legs, code := impl.LegsOf(h, v)
	isRefused(t, "LegsOf", len(legs) == 0, code)
	good := basis(h.Size - 1)
	refusesVectors(t, "vectors", h, [2]impl.Vector{v, good}, [2]impl.Vector{good, v}, [2]impl.Vector{v, v}, [2]impl.Vector{{}, v}, [2]impl.Vector{v, {}})
	for _, list := range [][]impl.Vector{{}, {h.Unit}, {good}, wholeSpace(h), plainAugmented(h, wholeSpace(h))} {
		refusesList(t, "the last vector", h, append(slices.Clone(list), v))
		refusesList(t, "the first vector", h, append([]impl.Vector{v}, list...))
		refusesList(t, "a vector in between", h, slices.Concat(list, []impl.Vector{v}, list))
	}
}

func TestVectorsThatAreNoneForSubs(t *testing.T) {
	for _, v := range badVectors() {
		refusesVector(t, groupHopf(cyclic(5, 3)), v)
	}
	for at, h := range someHopfs() {
		if at%3 != 0 {
			continue
		}
		p, n := byte(h.Prime), h.Size
		list := []impl.Vector{{p}, {7: p}, {255}, changed(impl.Vector{}, func(v *impl.Vector) { v[n-1] = p + 1 })}
		if n < 8 {
			list = append(list, basis(n), basis(7))
		}
		for _, v := range list {
			refusesVector(t, h, v)
		}
	}
}

// Spaces that are none give ErrState, and ErrInvalid comes ahead of that.
func TestStatesOfSubs(t *testing.T) {
	for _, h := range integralHopfs() {
		for _, list := range [][]impl.Vector{nil, {{}}} {
			sub, code := impl.SubHopf(h, list)
			if sub != (impl.Hopf{}) || code != impl.ErrState {
				t.Errorf("SubHopf(%v, %v) = %v, %d", h, list, sub, code)
			}
			ideal, code := impl.IdealOfSub(h, list)
			isNoIdeal(t, ideal, code, impl.ErrState)
		}
		for _, list := range [][]impl.Vector{{h.Unit}, wholeSpace(h), {h.Unit, basis(h.Size - 1)}} {
			q, code := impl.QuotientHopf(h, list)
			if q != (impl.Hopf{}) || code != impl.ErrState {
				t.Errorf("QuotientHopf(%v, %v) = %v, %d", h, list, q, code)
			}
			if ok, code := impl.IsHopfIdeal(h, list); ok || code != impl.ErrNone {
				t.Errorf("IsHopfIdeal(%v, %v) = %v, %d", h, list, ok, code)
			}
		}
	}
}

// stays sees that a list of a result is the same after that of a second call was written over.
func stays(t *testing.T, name string, call func() ([]impl.Vector, int64)) {
	t.Helper()
	list, _ := call()
	before := slices.Clone(list)
	again, code := call()
	for i := range again {
		again[i] = impl.Vector{99}
	}
	_ = append(again, impl.Vector{99})
	last, _ := call()
	if !slices.Equal(list, before) || !slices.Equal(last, before) || code != impl.ErrNone {
		t.Errorf("%s was %v, and is %v, and then %v, %d", name, before, list, last, code)
	}
}

func TestListsOfSubsAreNewMemory(t *testing.T) {
	for _, h := range integralHopfs() {
		whole := wholeSpace(h)
		stays(t, "LegsOf", func() ([]impl.Vector, int64) { return impl.LegsOf(h, basis(h.Size-1)) })
		stays(t, "AugmentationIdeal", func() ([]impl.Vector, int64) { return impl.AugmentationIdeal(h) })
		for _, list := range [][]impl.Vector{{h.Unit}, whole} {
			stays(t, "GeneratedSub", func() ([]impl.Vector, int64) { return impl.GeneratedSub(h, list) })
			stays(t, "IdealOfSub", func() ([]impl.Vector, int64) { return impl.IdealOfSub(h, list) })
		}
		if !slices.Equal(whole, wholeSpace(h)) {
			t.Errorf("results for %v share the memory of the list %v", h, whole)
		}
	}
}
