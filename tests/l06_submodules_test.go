package tests

import (
	"slices"
	"testing"

	"loop.example/g01230/impl"
)

func TestSubmodulesAreLeast(t *testing.T) {
	var s numbers
	seen := map[string]int{}
	for _, x := range someModules() {
		p, d := x.h.Prime, x.m.Dim
		list := []impl.Vector{{}, basis(0), basis(d - 1), s.vector(p, d), s.vector(2, d)}
		for _, v := range append(list, invariantsIn(t, x.h, x.m)...) {
			got, code := impl.SubmoduleOf(x.h, x.m, v)
			if want := closureIn(x.h, x.m, []impl.Vector{v}); !slices.Equal(got, want) || code != impl.ErrNone {
				t.Errorf("SubmoduleOf(%v, %v, %v) = %v, %d, not %v", x.h, x.m, v, got, code, want)
			}
			switch int64(len(got)) {
			case 0:
				seen["zeros"]++
			case d:
				seen["whole"]++
			default:
				seen["part"]++
			}
			if ok, code := impl.IsSubmodule(x.h, x.m, got); !ok || code != impl.ErrNone {
				t.Errorf("IsSubmodule(%v, %v, %v) = %v, %d", x.h, x.m, got, ok, code)
			}
		}
	}
	if seen["zeros"] < 100 || seen["whole"] < 100 || seen["part"] < 100 {
		t.Errorf("submodules are %v", seen)
	}
}

func TestSubmodulesThatAreKnown(t *testing.T) {
	c8, sweedler, c4 := groupHopf(cyclic(31, 8)), sweedlerHopf(5), groupHopf(cyclic(2, 4))
	tests := []struct {
		h    impl.Hopf
		m    impl.Module
		v    impl.Vector
		want []impl.Vector
	}{
		{c8, plainRegular(c8), impl.Vector{}, nil},
		{c8, plainTrivial(c8, 8), impl.Vector{0, 30, 0, 1}, []impl.Vector{{0, 1, 0, 30}}},
		{c8, plainRegular(c8), impl.Vector{1, 0, 1, 0, 1, 0, 1}, []impl.Vector{{1, 0, 1, 0, 1, 0, 1}, {0, 1, 0, 1, 0, 1, 0, 1}}},
		{c4, plainRegular(c4), impl.Vector{1, 1}, []impl.Vector{{1, 0, 0, 1}, {0, 1, 0, 1}, {0, 0, 1, 1}}},
		{c4, plainRegular(c4), impl.Vector{1}, []impl.Vector{basis(0), basis(1), basis(2), basis(3)}},
		{sweedler, planeOf(5), impl.Vector{0, 3}, []impl.Vector{{0, 1}}},
		{sweedler, planeOf(5), impl.Vector{3, 3}, []impl.Vector{{1}, {0, 1}}},
	}
	for _, x := range tests {
		got, code := impl.SubmoduleOf(x.h, x.m, x.v)
		if !slices.Equal(got, x.want) || code != impl.ErrNone {
			t.Errorf("SubmoduleOf(%v, %v, %v) = %v, %d", x.h, x.m, x.v, got, code)
		}
		for i := range got {
			got[i] = impl.Vector{99}
		}
		if again, _ := impl.SubmoduleOf(x.h, x.m, x.v); !slices.Equal(again, x.want) {
			t.Errorf("SubmoduleOf(%v, %v, %v) = %v the second time", x.h, x.m, x.v, again)
		}
	}
}

// withSpare returns a list behind which there is memory that is not its own, and all of that.
func withSpare(list []impl.Vector) ([]impl.Vector, []impl.Vector) {
	whole := slices.Clone(list)
	for range 8 * (len(list) + 8) {
		whole = append(whole, impl.Vector{9, 9, 9})
	}
	return whole[:len(list)], whole
}

// checkSubmodule calls IsSubmodule with spare capacity, and sees that nothing of it is changed.
func checkSubmodule(t *testing.T, h impl.Hopf, m impl.Module, list []impl.Vector, want bool) {
	t.Helper()
	given, whole := withSpare(list)
	before := slices.Clone(whole)
	if got, code := impl.IsSubmodule(h, m, given); got != want || code != impl.ErrNone {
		t.Errorf("IsSubmodule(%v, %v, %v) = %v, %d", h, m, list, got, code)
	}
	if !slices.Equal(whole, before) {
		t.Errorf("IsSubmodule changed %v to %v", before, whole)
	}
}

func TestIsSubmoduleForEverySmallSpace(t *testing.T) {
	seen := map[bool]int{}
	for _, x := range smallModules(9) {
		all := everyVector(x.h.Prime, x.m.Dim)
		for _, v := range all {
			for _, w := range all {
				span := spanOf(x.h.Prime, []impl.Vector{v, w})
				want := true
				for i := range x.h.Size {
					want = want && span[plainImage(x.h.Prime, x.m.Acts[i], v)] && span[plainImage(x.h.Prime, x.m.Acts[i], w)]
				}
				seen[want]++
				if got, code := impl.IsSubmodule(x.h, x.m, []impl.Vector{v, w}); got != want || code != impl.ErrNone {
					t.Errorf("IsSubmodule(%v, %v, %v and %v) = %v, %d", x.h, x.m, v, w, got, code)
				}
			}
		}
	}
	if seen[true] < 100 || seen[false] < 100 {
		t.Errorf("spaces: %v", seen)
	}
}

func TestIsSubmoduleForSomeSpaces(t *testing.T) {
	var s numbers
	seen := map[bool]int{}
	for _, x := range someModules() {
		d := x.m.Dim
		for size := range int64(3) {
			list := invariantsIn(t, x.h, x.m)
			for range size {
				list = append(list, basis(s.below(d)), s.vector(2, d))
			}
			space, _ := impl.ReduceVectors(x.h.Prime, d, list)
			want := slices.Equal(space, closureIn(x.h, x.m, list))
			seen[want]++
			checkSubmodule(t, x.h, x.m, list, want)
		}
	}
	if seen[true] < 100 || seen[false] < 100 {
		t.Errorf("spaces: %v", seen)
	}
}

func TestIsSubmoduleAtTheEdges(t *testing.T) {
	c8, sweedler := groupHopf(cyclic(31, 8)), sweedlerHopf(5)
	regular := plainRegular(c8)
	var all, many []impl.Vector
	for i := range int64(8) {
		all = append(all, basis(i))
	}
	for range 100 {
		many = append(many, impl.Vector{1, 30, 1, 30, 1, 30, 1, 30}, impl.Vector{2, 2, 2, 2, 2, 2, 2, 2})
	}
	checkSubmodule(t, c8, regular, nil, true)
	checkSubmodule(t, c8, regular, []impl.Vector{}, true)
	checkSubmodule(t, c8, regular, []impl.Vector{{}, {}}, true)
	checkSubmodule(t, c8, regular, all, true)
	checkSubmodule(t, c8, regular, append(all, all...), true)
	checkSubmodule(t, c8, regular, all[:7], false)
	checkSubmodule(t, c8, regular, all[:1], false)
	checkSubmodule(t, c8, regular, many, true)
	checkSubmodule(t, c8, regular, append(many, basis(7)), false)
	checkSubmodule(t, c8, plainTrivial(c8, 8), all[3:5], true)
	checkSubmodule(t, sweedler, planeOf(5), []impl.Vector{{1}}, false)
	checkSubmodule(t, sweedler, planeOf(5), []impl.Vector{{0, 2}, {0, 3}, {}}, true)
	checkSubmodule(t, sweedler, planeOf(5), []impl.Vector{{1, 2}, {3, 3}}, true)
	one := groupHopf(cyclic(2, 1))
	checkSubmodule(t, one, plainTrivial(one, 1), nil, true)
	checkSubmodule(t, one, plainTrivial(one, 1), []impl.Vector{{1}, {1}, {1}}, true)
	// The last one of the e(i) alone leads these out of their space.
	c2 := groupHopf(cyclic(31, 2))
	checkSubmodule(t, c2, plainRegular(c2), []impl.Vector{{1}}, false)
	checkSubmodule(t, c2, plainSumModule(plainRegular(c2), plainTrivial(c2, 6)), []impl.Vector{{1}, basis(7)}, false)
	d3 := groupHopf(dihedral(2, 3))
	checkSubmodule(t, d3, pointModules()[0].m, []impl.Vector{{1, 1, 1}}, true)
	checkSubmodule(t, d3, pointModules()[0].m, []impl.Vector{{1, 1}, {0, 1, 1}}, true)
	checkSubmodule(t, d3, pointModules()[0].m, []impl.Vector{{1, 1}}, false)
}

// checkQuotient sees that there is a quotient just by submodules that are not the whole module.
// What vectors are led to in it is told by the projection, which has to be a module map.
func checkQuotient(t *testing.T, h impl.Hopf, m impl.Module, list []impl.Vector) int64 {
	t.Helper()
	given, whole := withSpare(list)
	before := slices.Clone(whole)
	got, code := impl.QuotientModule(h, m, given)
	if !slices.Equal(whole, before) {
		t.Errorf("QuotientModule changed %v to %v", before, whole)
	}
	space, _ := impl.ReduceVectors(h.Prime, m.Dim, list)
	if int64(len(space)) == m.Dim || !slices.Equal(space, closureIn(h, m, list)) {
		hasNone(t, "QuotientModule", got, code, impl.ErrState)
		return code
	}
	f := projection(h.Prime, m.Dim, space)
	if got.Dim != m.Dim-int64(len(space)) || code != impl.ErrNone || !plainIsModule(h, got) {
		t.Errorf("QuotientModule(%v, %v, %v) = %v, %d", h, m, list, got, code)
	}
	if ok, code := impl.IsModuleMap(h, m, got, f); !ok || code != impl.ErrNone || !plainModuleMap(h, m, got, f) {
		t.Errorf("%v leads %v of %v not to its quotient %v", f, m, h, got)
	}
	for _, v := range space {
		if plainImage(h.Prime, f, v) != (impl.Vector{}) {
			t.Errorf("%v leads %v not to zeros", f, v)
		}
	}
	return code
}

// Promise 6: quotients of modules are modules.
func TestQuotientsAreModules(t *testing.T) {
	var s numbers
	seen := map[int64]int{}
	for _, x := range someModules() {
		p, d := x.h.Prime, x.m.Dim
		list := invariantsIn(t, x.h, x.m)
		seen[checkQuotient(t, x.h, x.m, list)]++
		if len(list) > 0 {
			seen[checkQuotient(t, x.h, x.m, []impl.Vector{list[0]})]++
			seen[checkQuotient(t, x.h, x.m, []impl.Vector{{}, list[len(list)-1], list[0], list[0]})]++
		}
		for _, v := range []impl.Vector{basis(0), basis(d - 1), s.vector(p, d), s.vector(2, d)} {
			sub, _ := impl.SubmoduleOf(x.h, x.m, v)
			seen[checkQuotient(t, x.h, x.m, sub)]++
			seen[checkQuotient(t, x.h, x.m, []impl.Vector{v})]++
		}
		same, code := impl.QuotientModule(x.h, x.m, nil)
		isMadeModule(t, "QuotientModule by zeros", x.h, same, code, x.m)
	}
	if seen[impl.ErrNone] < 1000 || seen[impl.ErrState] < 1000 {
		t.Errorf("quotients have the codes %v", seen)
	}
}

func TestQuotientsThatAreKnown(t *testing.T) {
	c2, c4, sweedler, d3 := groupHopf(cyclic(3, 2)), groupHopf(cyclic(31, 4)), sweedlerHopf(5), groupHopf(dihedral(31, 3))
	minus := impl.Module{Dim: 1, Acts: [8]impl.Linear{{{1}}, {{2}}}}
	points := pointModules()[8].m
	tests := []struct {
		h    impl.Hopf
		m    impl.Module
		list []impl.Vector
		want impl.Module
	}{
		{c2, plainRegular(c2), []impl.Vector{{1, 1}}, minus},
		{c2, plainRegular(c2), []impl.Vector{{2, 2}, {1, 1}, {}}, minus},
		{c2, plainRegular(c2), []impl.Vector{{1, 2}}, plainTrivial(c2, 1)},
		{c2, plainRegular(c2), []impl.Vector{}, plainRegular(c2)},
		{c2, plainRegular(c2), []impl.Vector{{}, {}, {}}, plainRegular(c2)},
		{c4, plainRegular(c4), []impl.Vector{{1, 1, 1, 1}}, impl.Module{Dim: 3, Acts: [8]impl.Linear{
			{basis(0), basis(1), basis(2)},
			{basis(1), basis(2), {30, 30, 30}},
			{basis(2), {30, 30, 30}, basis(0)},
			{{30, 30, 30}, basis(0), basis(1)},
		}}},
		{c4, plainRegular(c4), []impl.Vector{{1, 0, 1}, {0, 1, 0, 1}}, impl.Module{Dim: 2, Acts: [8]impl.Linear{
			{{1}, {0, 1}}, {{0, 1}, {30}}, {{30}, {0, 30}}, {{0, 30}, {1}},
		}}},
		{sweedler, planeOf(5), []impl.Vector{{0, 3}}, plainTrivial(sweedler, 1)},
		{c4, plainTrivial(c4, 8), []impl.Vector{basis(0), basis(3), {0, 0, 1, 0, 1}}, plainTrivial(c4, 5)},
		{d3, points, []impl.Vector{{1, 30}, {0, 1, 30}}, plainTrivial(d3, 1)},
	}
	for _, x := range tests {
		got, code := impl.QuotientModule(x.h, x.m, x.list)
		isMadeModule(t, "QuotientModule", x.h, got, code, x.want)
		checkQuotient(t, x.h, x.m, x.list)
	}
}

func TestQuotientsByWholeModulesAndByNoSubmodules(t *testing.T) {
	c8, one, sweedler := groupHopf(cyclic(31, 8)), groupHopf(cyclic(2, 1)), sweedlerHopf(5)
	var all []impl.Vector
	for i := range int64(8) {
		all = append(all, basis(i))
	}
	tests := []struct {
		h    impl.Hopf
		m    impl.Module
		list []impl.Vector
	}{
		{c8, plainRegular(c8), all},
		{c8, plainTrivial(c8, 8), append(all, all...)},
		{c8, plainRegular(c8), all[:1]},
		{c8, plainRegular(c8), all[1:]},
		{one, plainTrivial(one, 1), []impl.Vector{{}, {1}}},
		{sweedler, planeOf(5), []impl.Vector{{1, 1}}},
		{sweedler, planeOf(5), []impl.Vector{{1, 1}, {1, 2}}},
	}
	for _, x := range tests {
		got, code := impl.QuotientModule(x.h, x.m, x.list)
		hasNone(t, "QuotientModule", got, code, impl.ErrState)
	}
}
