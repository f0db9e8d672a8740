package tests

import (
	"fmt"
	"math"
	"slices"
	"sync"

	"loop.example/g01230/impl"
)

// plainKeepsProduct compares, for e(i), x and y, both sides of the axiom about products.
func plainKeepsProduct(h impl.Hopf, a impl.Algebra, m impl.Module, i, x, y int64) bool {
	var sum impl.Vector
	for j := range h.Size {
		for k := range h.Size {
			if factor := int64(h.Com[i][j][k]); factor != 0 {
				sum = sumOf(h.Prime, sum, factor, plainProduct(a, m.Acts[j][x], m.Acts[k][y]))
			}
		}
	}
	return plainImage(h.Prime, m.Acts[i], a.Mul[x][y]) == sum
}

func plainKeepsProducts(h impl.Hopf, a impl.Algebra, m impl.Module) bool {
	for i := range h.Size {
		for x := range a.Size {
			for y := range a.Size {
				if !plainKeepsProduct(h, a, m, i, x, y) {
					return false
				}
			}
		}
	}
	return true
}

func plainKeepsUnit(h impl.Hopf, a impl.Algebra, m impl.Module) bool {
	for i := range h.Size {
		if plainImage(h.Prime, m.Acts[i], a.Unit) != timesNumber(h.Prime, int64(h.Counit[i]), a.Unit) {
			return false
		}
	}
	return true
}

// plainSmash takes each product of basis elements by the definition, for at most 8 of them.
func plainSmash(h impl.Hopf, a impl.Algebra, m impl.Module) impl.Algebra {
	p, n := h.Prime, h.Size
	smash := impl.Algebra{Prime: p, Size: n * a.Size, Unit: plainHash(h, a.Unit, h.Unit)}
	for from := range smash.Size {
		for to := range smash.Size {
			x, i, y, j := from/n, from%n, to/n, to%n
			for k := range n {
				for l := range n {
					first := plainProduct(a, basis(x), m.Acts[k][y])
					factor := int64(h.Com[i][k][l])
					smash.Mul[from][to] = sumOf(p, smash.Mul[from][to], factor, plainHash(h, first, h.Mul[l][j]))
				}
			}
		}
	}
	return smash
}

// plainHash is v # w.
func plainHash(h impl.Hopf, v, w impl.Vector) impl.Vector {
	var both impl.Vector
	for x := range v {
		for i := range h.Size {
			if v[x] != 0 && w[i] != 0 {
				both[h.Size*int64(x)+i] = byte(int64(v[x]) * int64(w[i]) % h.Prime)
			}
		}
	}
	return both
}

func plainAdjointModule(h impl.Hopf) impl.Module {
	m := impl.Module{Dim: h.Size}
	for i := range h.Size {
		for j := range h.Size {
			m.Acts[i][j] = plainAdjoint(h, basis(i), basis(j), false)
		}
	}
	return m
}

// plainCoassociative compares both sums for all i, j, k and l.
func plainCoassociative(h impl.Hopf, c impl.Comodule) bool {
	for i := range c.Dim {
		for j := range c.Dim {
			for k := range h.Size {
				for l := range h.Size {
					first, second := int64(0), int64(0)
					for a := range c.Dim {
						first += int64(c.Co[i][a][l]) * int64(c.Co[a][j][k])
					}
					for a := range h.Size {
						second += int64(c.Co[i][j][a]) * int64(h.Com[a][k][l])
					}
					if first%h.Prime != second%h.Prime {
						return false
					}
				}
			}
		}
	}
	return true
}

func plainCounital(h impl.Hopf, c impl.Comodule) bool {
	for i := range c.Dim {
		for j := range c.Dim {
			if plainCounit(coalgebraIn(h), c.Co[i][j]) != int64(basis(i)[j]) {
				return false
			}
		}
	}
	return true
}

// plainIsComodule checks the form and both axioms for a Hopf algebra h.
func plainIsComodule(h impl.Hopf, c impl.Comodule) bool {
	if c.Dim < 1 || c.Dim > 8 {
		return false
	}
	for i := range int64(8) {
		for j := range int64(8) {
			for k, x := range c.Co[i][j] {
				inside := i < c.Dim && j < c.Dim && int64(k) < h.Size
				if int64(x) >= h.Prime || !inside && x != 0 {
					return false
				}
			}
		}
	}
	return plainCoassociative(h, c) && plainCounital(h, c)
}

// plainCoaction returns the table of what v leads to.
func plainCoaction(p int64, c impl.Comodule, v impl.Vector) impl.Linear {
	var table impl.Linear
	for i := range v {
		table = sumOfTables(p, table, int64(v[i]), c.Co[i])
	}
	return table
}

func plainCoinvariant(h impl.Hopf, c impl.Comodule, v impl.Vector) bool {
	return plainCoaction(h.Prime, c, v) == plainPair(h.Prime, v, h.Unit)
}

// plainDualOfComodule has the numbers of a comodule in the places of its dual module, whatever these
// are, and plainComoduleOf takes them back.
func plainDualOfComodule(c impl.Comodule) impl.Module {
	m := impl.Module{Dim: c.Dim}
	for i := range 8 {
		for j := range 8 {
			for k := range 8 {
				m.Acts[k][i][j] = c.Co[i][j][k]
			}
		}
	}
	return m
}

func plainComoduleOf(m impl.Module) impl.Comodule {
	c := impl.Comodule{Dim: m.Dim}
	for i := range 8 {
		for j := range 8 {
			for k := range 8 {
				c.Co[i][j][k] = m.Acts[k][i][j]
			}
		}
	}
	return c
}

func plainRegularComodule(h impl.Hopf) impl.Comodule {
	return impl.Comodule{Dim: h.Size, Co: h.Com}
}

func plainTrivialComodule(h impl.Hopf, dim int64) impl.Comodule {
	c := impl.Comodule{Dim: dim}
	for i := range dim {
		c.Co[i][i] = h.Unit
	}
	return c
}

// hopfAction is a module with its Hopf algebra and an algebra on which it may act.
type hopfAction struct {
	h impl.Hopf
	a impl.Algebra
	m impl.Module
}

// fields is the product of n fields.
func fields(p, n int64) impl.Algebra {
	return plainDualAlgebra(sets(p, n))
}

// root has the basis 1 and y, where y y is a number.
func root(p, square int64) impl.Algebra {
	a := truncated(p, 2)
	a.Mul[1][1][0] = byte(square)
	return a
}

// graded lets the functions on the group algebra h act on an algebra whose basis elements have degrees
// in the group.
func graded(h impl.Hopf, a impl.Algebra, degrees ...int64) hopfAction {
	m := impl.Module{Dim: a.Size}
	for x, degree := range degrees {
		m.Acts[degree][x] = basis(int64(x))
	}
	return hopfAction{plainDualHopf(h), a, m}
}

// moved lets a cyclic group act by the powers of a map that leads e(x) to e(images[x]).
func moved(n int64, a impl.Algebra, images ...int64) hopfAction {
	m := impl.Module{Dim: a.Size, Acts: [8]impl.Linear{plainIdentity(a.Size)}}
	for i := range n - 1 {
		for x, place := range images {
			m.Acts[i+1][x] = m.Acts[i][place]
		}
	}
	return hopfAction{groupHopf(cyclic(a.Prime, n)), a, m}
}

// derived lets the powers of x in a line act by those of a map.
func derived(k int64, a impl.Algebra, x impl.Linear) hopfAction {
	m := impl.Module{Dim: a.Size, Acts: [8]impl.Linear{plainIdentity(a.Size)}}
	for i := range a.Prime - 1 {
		for y := range a.Size {
			m.Acts[i+1][y] = plainImage(a.Prime, x, m.Acts[i][y])
		}
	}
	return hopfAction{lineHopf(a.Prime, k), a, m}
}

// derivedActions have the derivation of powers, and the one that multiplies them by their degrees.
func derivedActions(p int64) []hopfAction {
	var down, same impl.Linear
	for y := range p {
		same[y][y] = byte(y)
		if y > 0 {
			down[y][y-1] = byte(y)
		}
	}
	a := truncated(p, p)
	return []hopfAction{derived(0, a, down), derived(1, a, same)}
}

// knownActions are module algebras of many kinds.
func knownActions() []hopfAction {
	var list []hopfAction
	for _, p := range []int64{2, 3, 5, 31} {
		minus := byte(p - 1)
		c2, skew := groupHopf(cyclic(p, 2)), sweedlerHopf(p)
		signs := impl.Module{Dim: 4, Acts: [8]impl.Linear{plainIdentity(4), {{1}, {0, 1}, {0, 0, minus}, {0, 0, 0, minus}}}}
		// g leads y to - y, and x leads y to 1.
		down := impl.Module{Dim: 2, Acts: [8]impl.Linear{{{1}, {0, 1}}, {{1}, {0, minus}}, {{}, {1}}, {{}, {1}}}}
		list = append(list,
			moved(2, fields(p, 2), 1, 0), moved(3, fields(p, 3), 1, 2, 0), moved(2, fields(p, 8), 1, 0, 3, 2, 4, 5, 7, 6),
			moved(2, cyclic(p, 3), 0, 2, 1), moved(2, cyclic(p, 4), 0, 3, 2, 1), moved(4, cyclic(p, 5), 0, 2, 4, 1, 3), moved(2, cyclic(p, 5), 0, 4, 3, 2, 1),
			moved(2, dihedral(p, 3), 0, 2, 1, 3, 5, 4), moved(2, matrices(p), 3, 2, 1, 0),
			hopfAction{c2, quaternions(p), signs},
			hopfAction{skew, root(p, 1), down}, hopfAction{skew, root(p, p-1), down}, hopfAction{skew, root(p, 0), down},
			graded(c2, root(p, p-1), 0, 1), graded(c2, matrices(p), 0, 1, 1, 0), graded(c2, triangles(p), 0, 1, 0),
			graded(groupHopf(cyclic(p, 3)), cyclic(p, 3), 0, 1, 2),
			graded(groupHopf(cyclic(p, 8)), truncated(p, 8), 0, 1, 2, 3, 4, 5, 6, 7),
			graded(groupHopf(dihedral(p, 3)), dihedral(p, 3), 0, 1, 2, 3, 4, 5),
			graded(groupHopf(quaternionGroup(p)), cyclic(p, 4), 0, 1, 4, 5),
		)
	}
	for _, p := range []int64{2, 3, 5, 7} {
		list = append(list, derivedActions(p)...)
	}
	return list
}

// ownActions are the trivial modules of a Hopf algebra with algebras of several sizes, the adjoint
// module, and that of the dual with f(k) leading e(i) to the sum of Com[i][j][k] e(j).
func ownActions(h impl.Hopf) []hopfAction {
	list := []hopfAction{
		{h, algebraIn(h), plainAdjointModule(h)},
		{plainDualHopf(h), algebraIn(h), plainDualOfComodule(plainRegularComodule(h))},
	}
	for _, a := range []impl.Algebra{fields(h.Prime, 1), truncated(h.Prime, 8/h.Size), triangles(h.Prime), cyclic(h.Prime, 8)} {
		list = append(list, hopfAction{h, a, plainTrivial(h, a.Size)})
	}
	return list
}

// withOtherBases adds the same module algebras with other bases of the algebras.
func withOtherBases(list []hopfAction) []hopfAction {
	for _, x := range list {
		if last := x.a.Size - 1; last > 0 {
			a, m := sheared(x.a, 0, last), shearedModule(x.h.Prime, x.m, 0, last)
			list = append(list, hopfAction{x.h, sheared(a, last, last/2), shearedModule(x.h.Prime, m, last, last/2)})
		}
	}
	return list
}

// someActions are module algebras, made once for all tests.
var someActions = sync.OnceValue(func() []hopfAction {
	list := withOtherBases(knownActions())
	for at, h := range integralHopfs() {
		own := ownActions(h)
		if at%4 == 0 {
			own = withOtherBases(own)
		}
		list = append(list, own...)
	}
	return list
})

// otherActions are modules with algebras, which mostly are no module algebras.
var otherActions = sync.OnceValue(func() []hopfAction {
	var list []hopfAction
	for at, x := range someModules() {
		p, dim := x.h.Prime, x.m.Dim
		algebras := []impl.Algebra{fields(p, dim), truncated(p, dim), cyclic(p, dim)}
		if dim == x.h.Size {
			algebras = append(algebras, algebraIn(x.h), plainDualAlgebra(coalgebraIn(x.h)))
		}
		list = append(list, hopfAction{x.h, algebras[at%len(algebras)], x.m})
	}
	for at, x := range someActions() {
		n, last := x.h.Size, x.a.Size-1
		if last == 0 {
			continue
		}
		switch at % 4 {
		case 0:
			x.m = shearedModule(x.h.Prime, x.m, 0, last)
		case 1:
			x.a = sheared(x.a, last, 0)
		case 2:
			x.m = plainDualModule(x.h, x.m)
		case 3:
			x.m.Acts[0], x.m.Acts[n-1] = x.m.Acts[n-1], x.m.Acts[0]
		}
		if plainIsModule(x.h, x.m) {
			list = append(list, x)
		}
	}
	return list
})

// comodulesOf returns comodules that are regular, trivial, those of a group-like vector, and those
// that come from modules of the dual.
func comodulesOf(h impl.Hopf) []impl.Comodule {
	list := []impl.Comodule{plainRegularComodule(h), plainTrivialComodule(h, 1), plainTrivialComodule(h, 3), plainTrivialComodule(h, 8)}
	for _, v := range []impl.Vector{basis(1), basis(h.Size - 1)} {
		if plainGroupLike(coalgebraIn(h), v) {
			list = append(list, impl.Comodule{Dim: 1, Co: impl.Table{{v}}})
		}
	}
	for _, m := range modulesOf(plainDualHopf(h)) {
		if c := plainComoduleOf(m); !slices.Contains(list, c) {
			list = append(list, c)
		}
	}
	return list
}

// hopfComodule is a comodule with its Hopf algebra.
type hopfComodule struct {
	h impl.Hopf
	c impl.Comodule
}

// someComodules are comodules of all kinds of Hopf algebras, made once for all tests.
var someComodules = sync.OnceValue(func() []hopfComodule {
	var list []hopfComodule
	for _, h := range integralHopfs() {
		for _, c := range comodulesOf(h) {
			list = append(list, hopfComodule{h, c})
		}
	}
	return list
})

// badComodule has a name, and what is no comodule of a Hopf algebra.
type badComodule struct {
	name string
	h    impl.Hopf
	c    impl.Comodule
}

// shapelessComodules have not the form of a comodule.
func shapelessComodules() []badComodule {
	h := groupHopf(cyclic(5, 3))
	good := plainComoduleOf(plainSumModule(plainRegular(plainDualHopf(h)), plainTrivial(plainDualHopf(h), 1)))
	numbers := func(name string, change func(c *impl.Comodule)) badComodule {
		return badComodule{name, h, changed(good, change)}
	}
	list := []badComodule{
		{"zero value", h, impl.Comodule{}},
		{"a Dim alone", h, impl.Comodule{Dim: 1}},
		numbers("Co has the Prime", func(c *impl.Comodule) { c.Co[3][2][0] = 5 }),
		numbers("Co is equal modulo the Prime", func(c *impl.Comodule) { c.Co[3][3][0] = 6 }),
		numbers("Co has 255", func(c *impl.Comodule) { c.Co[1][2][2] = 255 }),
		numbers("the first index behind the Dim", func(c *impl.Comodule) { c.Co[4][0][0] = 1 }),
		numbers("the second index behind the Dim", func(c *impl.Comodule) { c.Co[0][4][0] = 1 }),
		numbers("both behind the Dim", func(c *impl.Comodule) { c.Co[4][4] = impl.Vector{1} }),
		numbers("the last index behind the Size", func(c *impl.Comodule) { c.Co[0][0][3] = 1 }),
		numbers("the last index at the Dim", func(c *impl.Comodule) { c.Co[0][0][4] = 1 }),
		numbers("the last place", func(c *impl.Comodule) { c.Co[7][7][7] = 1 }),
		numbers("behind the Dim has the Prime", func(c *impl.Comodule) { c.Co[5][5][0] = 5 }),
	}
	for _, dim := range []int64{math.MinInt64, -4, -1, 0, 3, 5, 9, 4 + 1<<32, math.MaxInt64} {
		list = append(list, numbers(fmt.Sprint("Dim ", dim), func(c *impl.Comodule) { c.Dim = dim }))
	}
	for _, dim := range []int64{0, 7, 9, 8 + 1<<32} {
		k := groupHopf(quaternionGroup(31))
		list = append(list, badComodule{fmt.Sprint("Dim ", dim), k, changed(plainRegularComodule(k), func(c *impl.Comodule) { c.Dim = dim })})
	}
	return list
}

// brokenComodule has the form of a comodule, but fails one axiom or both.
type brokenComodule struct {
	badComodule
	coassociative, counital bool
}

func brokenComodules() []brokenComodule {
	c1, c3, skew, eight := groupHopf(cyclic(31, 1)), groupHopf(cyclic(5, 3)), sweedlerHopf(5), groupHopf(dihedral(31, 4))
	broken := func(name string, h impl.Hopf, c impl.Comodule, coassociative, counital bool) brokenComodule {
		return brokenComodule{badComodule{name, h, c}, coassociative, counital}
	}
	lone := func(dim, i int64) impl.Comodule {
		return impl.Comodule{Dim: dim, Co: impl.Table{{basis(i)}}}
	}
	return []brokenComodule{
		broken("numbers of zeros of 1", c1, impl.Comodule{Dim: 1}, true, false),
		broken("numbers of zeros of 3", c3, impl.Comodule{Dim: 3}, true, false),
		broken("numbers of zeros of 8", eight, impl.Comodule{Dim: 8}, true, false),
		broken("one part of zeros", c3, lone(2, 1), true, false),
		broken("seven parts of zeros", eight, lone(8, 7), true, false),
		broken("group-like parts that are not independent", c3, impl.Comodule{Dim: 2, Co: impl.Table{{basis(1)}, {basis(1)}}}, true, false),
		broken("a sum of group-like vectors", c3, impl.Comodule{Dim: 1, Co: impl.Table{{{3, 3}}}}, false, true),
		broken("the Unit and a primitive vector", skew, impl.Comodule{Dim: 1, Co: impl.Table{{{1, 0, 1}}}}, false, true),
		broken("a primitive vector at another place", skew, impl.Comodule{Dim: 2, Co: impl.Table{{{0, 1}, {0, 0, 1}}, {{}, {1}}}}, false, true),
		broken("a number more at the end", eight, changed(plainRegularComodule(eight), func(c *impl.Comodule) {
			c.Co[7][6] = impl.Vector{1, 30}
		}), false, true),
		broken("twice the Unit", c1, impl.Comodule{Dim: 1, Co: impl.Table{{{2}}}}, false, false),
		broken("the vector x", skew, impl.Comodule{Dim: 1, Co: impl.Table{{{0, 0, 1}}}}, false, false),
		broken("the coproduct turned round", skew, changed(plainRegularComodule(skew), func(c *impl.Comodule) {
			for i := range 4 {
				for j := range 4 {
					for k := range 4 {
						c.Co[i][j][k] = skew.Com[i][k][j]
					}
				}
			}
		}), false, true),
	}
}

func badComodules() []badComodule {
	list := shapelessComodules()
	for _, x := range brokenComodules() {
		list = append(list, x.badComodule)
	}
	return list
}

// comodulesForNone has what would be comodules if h were a Hopf algebra.
func comodulesForNone(h impl.Hopf) []impl.Comodule {
	return []impl.Comodule{plainRegularComodule(h), {Dim: 1, Co: impl.Table{{h.Unit}}}, plainTrivialComodule(h, 8), {}}
}
