package tests

import (
	"fmt"
	"math"
	"slices"
	"sync"

	"loop.example/g01230/impl"
)

// plainAct returns a v by the definition, without any check.
func plainAct(p int64, m impl.Module, a, v impl.Vector) impl.Vector {
	var sum impl.Vector
	for i := range a {
		for j := range v {
			if factor := int64(a[i]) * int64(v[j]); factor != 0 {
				sum = sumOf(p, sum, factor, m.Acts[i][j])
			}
		}
	}
	return sum
}

// plainIsModule checks the form and both axioms for a Hopf algebra h.
func plainIsModule(h impl.Hopf, m impl.Module) bool {
	if m.Dim < 1 || m.Dim > 8 {
		return false
	}
	for i := range int64(8) {
		for j := range int64(8) {
			for k, x := range m.Acts[i][j] {
				inside := i < h.Size && j < m.Dim && int64(k) < m.Dim
				if int64(x) >= h.Prime || !inside && x != 0 {
					return false
				}
			}
		}
	}
	for r := range m.Dim {
		if plainAct(h.Prime, m, h.Unit, basis(r)) != basis(r) {
			return false
		}
		for i := range h.Size {
			for j := range h.Size {
				first := plainAct(h.Prime, m, h.Mul[i][j], basis(r))
				if first != plainAct(h.Prime, m, basis(i), m.Acts[j][r]) {
					return false
				}
			}
		}
	}
	return true
}

func plainTrivial(h impl.Hopf, dim int64) impl.Module {
	m := impl.Module{Dim: dim}
	for i := range h.Size {
		for j := range dim {
			m.Acts[i][j][j] = h.Counit[i]
		}
	}
	return m
}

func plainRegular(h impl.Hopf) impl.Module {
	return impl.Module{Dim: h.Size, Acts: h.Mul}
}

// formModule has the Dim 1, e(i) being led to the entry i of a form.
func formModule(h impl.Hopf, form impl.Vector) impl.Module {
	m := impl.Module{Dim: 1}
	for i := range h.Size {
		m.Acts[i][0][0] = form[i]
	}
	return m
}

func plainSumModule(m, k impl.Module) impl.Module {
	both := impl.Module{Dim: m.Dim + k.Dim, Acts: m.Acts}
	for i := range k.Acts {
		for j := range k.Dim {
			for l := range k.Dim {
				both.Acts[i][m.Dim+j][m.Dim+l] = k.Acts[i][j][l]
			}
		}
	}
	return both
}

func plainTensorModule(h impl.Hopf, m, k impl.Module) impl.Module {
	both := impl.Module{Dim: m.Dim * k.Dim}
	for i := range h.Size {
		for from := range both.Dim {
			for to := range both.Dim {
				sum := int64(0)
				for j := range h.Size {
					for l := range h.Size {
						first := m.Acts[j][from/k.Dim][to/k.Dim]
						second := k.Acts[l][from%k.Dim][to%k.Dim]
						sum += int64(h.Com[i][j][l]) * int64(first) * int64(second)
					}
				}
				both.Acts[i][from][to] = byte(sum % h.Prime)
			}
		}
	}
	return both
}

// plainDualModule has at i, j, l the value of e(i) f(j) for v(l), which is that of f(j) for S(e(i)) v(l).
func plainDualModule(h impl.Hopf, m impl.Module) impl.Module {
	dual := impl.Module{Dim: m.Dim}
	for i := range h.Size {
		for j := range m.Dim {
			for l := range m.Dim {
				dual.Acts[i][j][l] = plainAct(h.Prime, m, h.Antipode[i], basis(l))[j]
			}
		}
	}
	return dual
}

// shearedModule is the same module with v(s) + v(t) in the place of v(s).
func shearedModule(p int64, m impl.Module, s, t int64) impl.Module {
	told := func(v impl.Vector) impl.Vector {
		v[t] = byte((int64(v[t]) + p - int64(v[s])) % p)
		return v
	}
	for i, f := range m.Acts {
		f[s] = sumOf(p, f[s], 1, f[t])
		for j := range f {
			m.Acts[i][j] = told(f[j])
		}
	}
	return m
}

// closureIn adds what the e(i) make of vectors until there is nothing new.
func closureIn(h impl.Hopf, m impl.Module, list []impl.Vector) []impl.Vector {
	space, _ := impl.ReduceVectors(h.Prime, m.Dim, list)
	for {
		more := slices.Clone(space)
		for i := range h.Size {
			for _, v := range space {
				more = append(more, plainImage(h.Prime, m.Acts[i], v))
			}
		}
		more, _ = impl.ReduceVectors(h.Prime, m.Dim, more)
		if len(more) == len(space) {
			return space
		}
		space = more
	}
}

// partOf is the submodule that a reduced list spans, with its vectors as basis.
func partOf(h impl.Hopf, m impl.Module, list []impl.Vector) impl.Module {
	part := impl.Module{Dim: int64(len(list))}
	for i := range h.Size {
		for j, v := range list {
			image := plainImage(h.Prime, m.Acts[i], v)
			for k, w := range list {
				part.Acts[i][j][k] = image[firstOf(w)]
			}
		}
	}
	return part
}

// projection leads the vectors of a reduced list to zeros, and the v(i) that are no first places of
// it to a basis.
func projection(p, dim int64, list []impl.Vector) impl.Linear {
	var f impl.Linear
	at := int64(0)
	for place := range dim {
		if !slices.ContainsFunc(list, func(v impl.Vector) bool { return int64(firstOf(v)) == place }) {
			f[place] = basis(at)
			at++
		}
	}
	for _, v := range list {
		rest := v
		rest[firstOf(v)] = 0
		f[firstOf(v)] = timesNumber(p, p-1, plainImage(p, f, rest))
	}
	return f
}

// restOf is the quotient by a reduced list of a submodule, whose basis is led to by the projection.
func restOf(h impl.Hopf, m impl.Module, list []impl.Vector) impl.Module {
	rest := impl.Module{Dim: m.Dim - int64(len(list))}
	f := projection(h.Prime, m.Dim, list)
	for i := range h.Size {
		at := 0
		for place := range m.Dim {
			if !slices.ContainsFunc(list, func(v impl.Vector) bool { return int64(firstOf(v)) == place }) {
				rest.Acts[i][at] = plainImage(h.Prime, f, m.Acts[i][place])
				at++
			}
		}
	}
	return rest
}

// formsOf returns forms that lead the Unit to 1 and products to products, the Counit among them.
func formsOf(h impl.Hopf) []impl.Vector {
	modular, _ := impl.ModularForm(h)
	others, _ := impl.GroupLikes(coalgebraIn(plainDualHopf(h)))
	list := []impl.Vector{h.Counit}
	for _, form := range append(others, modular) {
		if !slices.Contains(list, form) {
			list = append(list, form)
		}
	}
	return list
}

// pointModules lets groups move the corners of a figure or the numbers of a cycle.
func pointModules() []hopfModule {
	points := func(h impl.Hopf, n int64, move func(i, x int64) int64) hopfModule {
		m := impl.Module{Dim: n}
		for i := range h.Size {
			for x := range n {
				m.Acts[i][x][move(i, x)] = 1
			}
		}
		return hopfModule{h, m}
	}
	figure := func(n int64) func(i, x int64) int64 {
		return func(i, x int64) int64 {
			if i >= n {
				x = n - x
			}
			return (i + x) % n
		}
	}
	var list []hopfModule
	for _, p := range []int64{2, 3, 31} {
		list = append(list,
			points(groupHopf(dihedral(p, 3)), 3, figure(3)), points(groupHopf(dihedral(p, 4)), 4, figure(4)),
			points(groupHopf(cyclic(p, 8)), 4, func(i, x int64) int64 { return (i + x) % 4 }),
			points(groupHopf(cyclic(p, 6)), 5, func(i, x int64) int64 {
				if x < 2 {
					return (i + x) % 2
				}
				return 2 + (i+x-2)%3
			}))
	}
	return list
}

// hopfModule is a module with its Hopf algebra.
type hopfModule struct {
	h impl.Hopf
	m impl.Module
}

// modulesOf returns modules that are trivial, regular, parts of these, sums, and others.
func modulesOf(h impl.Hopf) []impl.Module {
	var s numbers
	regular := plainRegular(h)
	list := []impl.Module{plainTrivial(h, 1), plainTrivial(h, 8), regular, plainDualModule(h, regular)}
	if h.Size > 1 {
		other := shearedModule(h.Prime, regular, 0, h.Size-1)
		list = append(list, shearedModule(h.Prime, other, h.Size-1, (h.Size-1)/2))
	}
	if h.Size < 8 {
		list = append(list, plainSumModule(plainTrivial(h, 8-h.Size), regular))
	}
	for i, form := range formsOf(h)[1:] {
		if i < 2 {
			one := formModule(h, form)
			list = append(list, one, shearedModule(h.Prime, plainSumModule(one, plainTrivial(h, 2)), 1, 0))
		}
	}
	right, _ := impl.RightIntegral(h)
	left, _ := impl.LeftIntegral(h)
	for _, v := range []impl.Vector{left, right, sumOf(h.Prime, right, 1, left), s.vector(h.Prime, h.Size)} {
		space := closureIn(h, regular, []impl.Vector{v})
		if int64(len(space)) < h.Size && len(space) > 0 {
			list = append(list, partOf(h, regular, space), restOf(h, regular, space))
		}
	}
	var different []impl.Module
	for _, m := range list {
		if !slices.Contains(different, m) {
			different = append(different, m)
		}
	}
	return different
}

// someModules are modules of all kinds of Hopf algebras, made once for all tests.
var someModules = sync.OnceValue(func() []hopfModule {
	list := pointModules()
	for _, h := range integralHopfs() {
		for _, m := range modulesOf(h) {
			list = append(list, hopfModule{h, m})
		}
	}
	return list
})

// smallModules have so few vectors that all of them can be tried.
func smallModules(most int64) []hopfModule {
	var small []hopfModule
	for _, x := range someModules() {
		if countVectors(x.h.Prime, x.m.Dim) <= most {
			small = append(small, x)
		}
	}
	return small
}

// modulePair has two modules of one Hopf algebra.
type modulePair struct {
	h    impl.Hopf
	m, k impl.Module
}

// modulePairs has all pairs of modules for each third one of the Hopf algebras.
var modulePairs = sync.OnceValue(func() []modulePair {
	var list []modulePair
	for at, h := range integralHopfs() {
		if at%3 != 0 {
			continue
		}
		modules := modulesOf(h)
		for _, m := range modules {
			for _, k := range modules {
				list = append(list, modulePair{h, m, k})
			}
		}
	}
	return list
})

// badModule has a name, and what is no module of a Hopf algebra.
type badModule struct {
	name string
	h    impl.Hopf
	m    impl.Module
}

// shapelessModules have not the form of a module.
func shapelessModules() []badModule {
	h := groupHopf(cyclic(5, 3))
	good := plainSumModule(plainRegular(h), plainTrivial(h, 1))
	acts := func(name string, change func(m *impl.Module)) badModule {
		return badModule{name, h, changed(good, change)}
	}
	list := []badModule{
		{"zero value", h, impl.Module{}},
		{"a Dim alone", h, impl.Module{Dim: 1}},
		acts("Acts have the Prime", func(m *impl.Module) { m.Acts[2][3][0] = 5 }),
		acts("Acts are equal modulo the Prime", func(m *impl.Module) { m.Acts[0][0][0] = 6 }),
		acts("Acts have 255", func(m *impl.Module) { m.Acts[1][2][3] = 255 }),
		acts("a map behind the Size", func(m *impl.Module) { m.Acts[3] = m.Acts[0] }),
		acts("the last map", func(m *impl.Module) { m.Acts[7][0][0] = 1 }),
		acts("an image behind the Dim", func(m *impl.Module) { m.Acts[0][4][0] = 1 }),
		acts("an image and its entry behind the Dim", func(m *impl.Module) { m.Acts[0][4][4] = 1 }),
		acts("an entry behind the Dim", func(m *impl.Module) { m.Acts[0][0][4] = 1 }),
		acts("the last entry", func(m *impl.Module) { m.Acts[2][7][7] = 1 }),
	}
	for _, dim := range []int64{math.MinInt64, -4, -1, 0, 3, 5, 9, 4 + 1<<32, math.MaxInt64} {
		list = append(list, acts(fmt.Sprint("Dim ", dim), func(m *impl.Module) { m.Dim = dim }))
	}
	for _, dim := range []int64{0, 7, 9, 8 + 1<<32} {
		k := groupHopf(quaternionGroup(31))
		list = append(list, badModule{fmt.Sprint("Dim ", dim), k, changed(plainRegular(k), func(m *impl.Module) { m.Dim = dim })})
	}
	return list
}

// brokenModules have the form of a module, but are none.
func brokenModules() []badModule {
	sweedler, c3, c1 := sweedlerHopf(5), groupHopf(cyclic(5, 3)), groupHopf(cyclic(31, 1))
	d4 := groupHopf(dihedral(31, 4))
	fromRight := impl.Module{Dim: 8}
	for i := range 8 {
		for j := range 8 {
			fromRight.Acts[i][j] = d4.Mul[j][i]
		}
	}
	return []badModule{
		{"maps of zeros", c3, impl.Module{Dim: 3}},
		{"maps of zeros of 1", c1, impl.Module{Dim: 1}},
		{"maps of zeros of 8", d4, impl.Module{Dim: 8}},
		{"another number for the Unit", c1, impl.Module{Dim: 1, Acts: [8]impl.Linear{{{30}}}}},
		{"half of the Unit", c3, plainSumModule(plainTrivial(c3, 1), impl.Module{Dim: 1})},
		{"half of the Unit of 8", d4, plainSumModule(plainTrivial(d4, 7), impl.Module{Dim: 1})},
		{"a number of another order", c3, impl.Module{Dim: 1, Acts: [8]impl.Linear{{{1}}, {{2}}, {{4}}}}},
		{"products turned round", d4, fromRight},
		{"x as the identity", sweedler, impl.Module{Dim: 1, Acts: [8]impl.Linear{{{1}}, {{1}}, {{1}}, {{1}}}}},
		{"x and g commute", sweedler, impl.Module{Dim: 2, Acts: [8]impl.Linear{
			{{1}, {0, 1}}, {{1}, {0, 1}}, {{}, {1}}, {{}, {1}},
		}}},
		{"the last product", sweedler, changed(plainRegular(sweedler), func(m *impl.Module) { m.Acts[3][3][0] = 1 })},
		{"the Unit at the end", d4, changed(plainRegular(d4), func(m *impl.Module) { m.Acts[0][7] = basis(6) })},
	}
}

func badModules() []badModule {
	return append(shapelessModules(), brokenModules()...)
}
