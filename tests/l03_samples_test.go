package tests

import "loop.example/g01230/impl"

// algebraIn and coalgebraIn take the fields without any check.
func algebraIn(h impl.Hopf) impl.Algebra {
	return impl.Algebra{Prime: h.Prime, Size: h.Size, Unit: h.Unit, Mul: h.Mul}
}

func coalgebraIn(h impl.Hopf) impl.Coalgebra {
	return impl.Coalgebra{Prime: h.Prime, Size: h.Size, Counit: h.Counit, Com: h.Com}
}

func bothOf(a impl.Algebra, c impl.Coalgebra, antipode impl.Linear) impl.Hopf {
	return impl.Hopf{
		Prime: a.Prime, Size: a.Size, Unit: a.Unit, Mul: a.Mul,
		Counit: c.Counit, Com: c.Com, Antipode: antipode,
	}
}

// plainImage returns what f makes of v.
func plainImage(p int64, f impl.Linear, v impl.Vector) impl.Vector {
	var sum impl.Vector
	for i := range v {
		sum = sumOf(p, sum, int64(v[i]), f[i])
	}
	return sum
}

// plainTimes multiplies tables by the definition, for each two products of basis elements.
func plainTimes(a impl.Algebra, f, g impl.Linear) impl.Linear {
	var sum impl.Linear
	for j := range a.Size {
		for k := range a.Size {
			for l := range a.Size {
				for m := range a.Size {
					if factor := int64(f[j][k]) * int64(g[l][m]); factor != 0 {
						sum = sumOfTables(a.Prime, sum, factor, plainPair(a.Prime, a.Mul[j][l], a.Mul[k][m]))
					}
				}
			}
		}
	}
	return sum
}

// plainPairImage returns what f makes of a table, part by part.
func plainPairImage(p int64, f, table impl.Linear) impl.Linear {
	var sum impl.Linear
	for j := range table {
		for k, x := range table[j] {
			sum = sumOfTables(p, sum, int64(x), plainPair(p, f[j], f[k]))
		}
	}
	return sum
}

func plainIdentity(n int64) impl.Linear {
	var f impl.Linear
	for i := range n {
		f[i] = basis(i)
	}
	return f
}

func plainProductsKept(h impl.Hopf) bool {
	a, c := algebraIn(h), coalgebraIn(h)
	for i := range h.Size {
		for j := range h.Size {
			if plainCoproduct(c, h.Mul[i][j]) != plainTimes(a, h.Com[i], h.Com[j]) {
				return false
			}
		}
	}
	return true
}

func plainCounitsKept(h impl.Hopf) bool {
	c := coalgebraIn(h)
	for i := range h.Size {
		for j := range h.Size {
			if plainCounit(c, h.Mul[i][j]) != int64(h.Counit[i])*int64(h.Counit[j])%h.Prime {
				return false
			}
		}
	}
	return plainCounit(c, h.Unit) == 1
}

// plainFails returns the number of the first axiom that does not hold for a shaped h, or 0.
func plainFails(h impl.Hopf) int64 {
	a, c, one := algebraIn(h), coalgebraIn(h), plainIdentity(h.Size)
	unit := plainPair(h.Prime, h.Counit, h.Unit)
	switch {
	case plainFault(a) != nil || !plainUnit(a):
		return 1
	case plainCoFault(c) != nil || !plainCounits(c):
		return 2
	case !plainProductsKept(h):
		return 3
	case plainCoproduct(c, h.Unit) != plainPair(h.Prime, h.Unit, h.Unit):
		return 4
	case !plainCounitsKept(h):
		return 5
	case plainConvolution(c, a, h.Antipode, one) != unit:
		return 6
	case plainConvolution(c, a, one, h.Antipode) != unit:
		return 7
	}
	return 0
}

func plainDualHopf(h impl.Hopf) impl.Hopf {
	dual := impl.Hopf{Prime: h.Prime, Size: h.Size, Unit: h.Counit, Counit: h.Unit}
	for i := range 8 {
		for j := range 8 {
			dual.Antipode[i][j] = h.Antipode[j][i]
			for k := range 8 {
				dual.Mul[j][k][i] = h.Com[i][j][k]
				dual.Com[i][j][k] = h.Mul[j][k][i]
			}
		}
	}
	return dual
}

func plainTensor(h, k impl.Hopf) impl.Hopf {
	p, m := h.Prime, k.Size
	times := func(x, y byte) byte { return byte(int64(x) * int64(y) % p) }
	both := impl.Hopf{Prime: p, Size: h.Size * m}
	for i := range h.Size {
		for j := range m {
			at := m*i + j
			both.Unit[at] = times(h.Unit[i], k.Unit[j])
			both.Counit[at] = times(h.Counit[i], k.Counit[j])
			for r := range both.Size {
				both.Antipode[at][r] = times(h.Antipode[i][r/m], k.Antipode[j][r%m])
				for s := range both.Size {
					both.Mul[at][r][s] = times(h.Mul[i][r/m][s/m], k.Mul[j][r%m][s%m])
					both.Com[at][r][s] = times(h.Com[i][r/m][s/m], k.Com[j][r%m][s%m])
				}
			}
		}
	}
	return both
}

// groupHopf makes the algebra of a group a Hopf algebra.
func groupHopf(a impl.Algebra) impl.Hopf {
	h := bothOf(a, sets(a.Prime, a.Size), impl.Linear{})
	for i := range a.Size {
		for j := range a.Size {
			if a.Mul[i][j] == a.Unit {
				h.Antipode[i][j] = 1
			}
		}
	}
	return h
}

// quaternionGroup has the numbers k + 4 s for 1, i, j, k with the sign s.
func quaternionGroup(p int64) impl.Algebra {
	signed := quaternions(31)
	return groupAlgebra(p, 8, func(i, j int64) int64 {
		sign := i/4 + j/4
		for k, x := range signed.Mul[i%4][j%4] {
			if x == 30 {
				sign++
			}
			if x != 0 {
				return int64(k) + 4*(sign%2)
			}
		}
		panic("a product of quaternions is 0")
	})
}

// monoids have the greater or the lesser number as product, so that only the unit has an inverse.
func monoids(p, n int64) []impl.Hopf {
	greater := groupAlgebra(p, n, func(i, j int64) int64 { return max(i, j) })
	lesser := groupAlgebra(p, n, func(i, j int64) int64 { return min(i, j) })
	lesser.Unit = basis(n - 1)
	return withDuals([]impl.Hopf{
		bothOf(greater, sets(p, n), impl.Linear{}), bothOf(lesser, sets(p, n), impl.Linear{}),
	})
}

// lineHopf has the powers of a primitive x with x^p = k x.
func lineHopf(p, k int64) impl.Hopf {
	h := impl.Hopf{Prime: p, Size: p, Unit: impl.Vector{1}, Counit: impl.Vector{1}}
	for i := range p {
		ways := int64(1)
		for j := range i + 1 {
			h.Com[i][j][i-j] = byte(ways % p)
			ways = ways * (i - j) / (j + 1)
		}
		h.Antipode[i][i] = 1
		if i%2 == 1 {
			h.Antipode[i][i] = byte(p - 1)
		}
		for j := range p {
			if i+j < p {
				h.Mul[i][j][i+j] = 1
			} else {
				h.Mul[i][j][i+j-p+1] = byte(k)
			}
		}
	}
	return h
}

// sweedlerHopf has the basis 1, g, x, gx with xx = 0 and xg = -gx.
func sweedlerHopf(p int64) impl.Hopf {
	a := impl.Algebra{Prime: p, Size: 4, Unit: impl.Vector{1}}
	minus := byte(p - 1)
	for i := range int64(2) {
		for j := range int64(2) {
			a.Mul[i][j][(i+j)%2] = 1
			a.Mul[i][2+j][2+(i+j)%2] = 1
			a.Mul[2+i][j][2+(i+j)%2] = 1
			if j == 1 {
				a.Mul[2+i][j][2+(i+j)%2] = minus
			}
		}
	}
	return bothOf(a, sweedler(p), impl.Linear{basis(0), basis(1), {0, 0, 0, minus}, basis(2)})
}

// doubleHopf has the basis g^a x^b y^c at a + 2 b + 4 c, and x and y are as in sweedlerHopf.
func doubleHopf(p int64) impl.Hopf {
	h := impl.Hopf{Prime: p, Size: 8, Unit: impl.Vector{1}, Counit: impl.Vector{1, 1}}
	for i := range int64(8) {
		for j := range int64(8) {
			a, b, c, d, e, f := i%2, i/2%2, i/4, j%2, j/2%2, j/4
			if b+e < 2 && c+f < 2 {
				sign := (d*(b+c) + e*c) % 2
				h.Mul[i][j][(a+d)%2+2*(b+e)+4*(c+f)] = byte(1 + sign*(p-2))
			}
		}
	}
	minus := byte(p - 1)
	generators := [3]impl.Linear{{{}, basis(1)}, {1: basis(2), 2: basis(0)}, {1: basis(4), 4: basis(0)}}
	antipodes := [3]impl.Vector{basis(1), {3: minus}, {5: minus}}
	algebra := algebraIn(h)
	for i := range 8 {
		h.Com[i], h.Antipode[i] = impl.Linear{basis(0)}, basis(0)
		for place := range 3 {
			if i>>place%2 == 1 {
				h.Com[i] = plainTimes(algebra, h.Com[i], generators[place])
				h.Antipode[i] = plainProduct(algebra, antipodes[place], h.Antipode[i])
			}
		}
	}
	return h
}

// shearedHopf is the same Hopf algebra with e(s) + e(t) in the place of e(s).
func shearedHopf(h impl.Hopf, s, t int64) impl.Hopf {
	p := h.Prime
	place := plainIdentity(h.Size)
	place[s][t] = 1
	told := plainIdentity(h.Size)
	told[s][t] = byte(p - 1)
	a := sheared(algebraIn(h), s, t)
	var c impl.Coalgebra
	var antipode impl.Linear
	for i := range h.Size {
		c.Counit[i] = byte(plainCounit(coalgebraIn(h), place[i]))
		c.Com[i] = plainPairImage(p, told, plainCoproduct(coalgebraIn(h), place[i]))
		antipode[i] = plainImage(p, told, plainImage(p, h.Antipode, place[i]))
	}
	return bothOf(a, c, antipode)
}

// smallHopfs have at most four basis elements.
func smallHopfs() []impl.Hopf {
	list := []impl.Hopf{
		groupHopf(cyclic(2, 1)), groupHopf(cyclic(31, 1)), groupHopf(cyclic(2, 2)), groupHopf(cyclic(3, 2)),
		groupHopf(cyclic(31, 2)), groupHopf(cyclic(2, 3)), groupHopf(cyclic(3, 3)), groupHopf(cyclic(7, 3)),
		groupHopf(cyclic(5, 4)), lineHopf(2, 0), lineHopf(2, 1), lineHopf(3, 0), lineHopf(3, 2),
		sweedlerHopf(2), sweedlerHopf(3), sweedlerHopf(5), sweedlerHopf(31),
		plainTensor(lineHopf(2, 0), lineHopf(2, 1)), plainTensor(groupHopf(cyclic(2, 2)), lineHopf(2, 1)),
		shearedHopf(groupHopf(cyclic(3, 3)), 0, 1), shearedHopf(shearedHopf(sweedlerHopf(5), 0, 2), 3, 1),
	}
	return withDuals(list)
}

func largeHopfs() []impl.Hopf {
	list := []impl.Hopf{
		groupHopf(cyclic(31, 5)), groupHopf(cyclic(31, 7)), groupHopf(cyclic(2, 8)), groupHopf(cyclic(31, 8)), groupHopf(dihedral(2, 3)), groupHopf(dihedral(31, 3)),
		groupHopf(dihedral(2, 4)), groupHopf(dihedral(31, 4)), groupHopf(quaternionGroup(2)),
		groupHopf(quaternionGroup(31)), lineHopf(5, 0), lineHopf(5, 3), lineHopf(7, 0), lineHopf(7, 6),
		doubleHopf(3), doubleHopf(31), plainTensor(sweedlerHopf(31), groupHopf(cyclic(31, 2))),
		plainTensor(groupHopf(cyclic(3, 2)), lineHopf(3, 1)), plainTensor(lineHopf(2, 1), sweedlerHopf(2)),
		shearedHopf(shearedHopf(doubleHopf(31), 0, 5), 7, 1),
		shearedHopf(shearedHopf(shearedHopf(groupHopf(dihedral(31, 4)), 0, 5), 3, 0), 7, 3),
	}
	return withDuals(list)
}

func withDuals(list []impl.Hopf) []impl.Hopf {
	for _, h := range list {
		list = append(list, plainDualHopf(h))
	}
	return list
}

func someHopfs() []impl.Hopf {
	return append(smallHopfs(), largeHopfs()...)
}

// badHopf has a name, and the number of the first axiom that fails, or 0 for what is not shaped.
type badHopf struct {
	name  string
	fails int64
	h     impl.Hopf
}

func shapelessHopfs() []badHopf {
	good := groupHopf(cyclic(5, 3))
	antipode := func(change func(f *impl.Linear)) impl.Hopf {
		return changed(good, func(h *impl.Hopf) { change(&h.Antipode) })
	}
	list := []badHopf{
		{"Antipode has the Prime", 0, antipode(func(f *impl.Linear) { f[2][2] = 5 })},
		{"Antipode is equal modulo the Prime", 0, antipode(func(f *impl.Linear) { f[0][0] = 6 })},
		{"Antipode has 255", 0, antipode(func(f *impl.Linear) { f[1][0] = 255 })},
		{"Antipode behind, last index", 0, antipode(func(f *impl.Linear) { f[0][3] = 1 })},
		{"Antipode behind, first index", 0, antipode(func(f *impl.Linear) { f[3][0] = 1 })},
		{"Antipode behind, last place", 0, antipode(func(f *impl.Linear) { f[7][7] = 1 })},
	}
	for _, x := range shapelessAlgebras() {
		c := coalgebraIn(good)
		list = append(list, badHopf{x.name, 0, bothOf(x.a, c, good.Antipode)})
	}
	for _, x := range shapelessCoalgebras() {
		h := groupHopf(cyclic(5, min(max(x.c.Size, 1), 8)))
		h.Prime, h.Size, h.Counit, h.Com = x.c.Prime, x.c.Size, x.c.Counit, x.c.Com
		list = append(list, badHopf{x.name, 0, h})
	}
	return list
}

// brokenHopfs have the form of a Hopf algebra, but are none.
func brokenHopfs() []badHopf {
	idempotents := plainDual(plainDualAlgebra(sets(31, 8)))
	identity8, identity2 := plainIdentity(8), plainIdentity(2)
	list := []badHopf{
		{"not coassociative", 2, changed(sweedlerHopf(5), func(h *impl.Hopf) { h.Com[3][2][2] = 1 })},
		{"another Counit", 2, changed(sweedlerHopf(5), func(h *impl.Hopf) { h.Counit[2] = 1 })},
		{"coproducts of products", 3, bothOf(truncated(5, 2), powers(5, 2), impl.Linear{{1}, {0, 4}})},
		{"coproducts of products of 8", 3, bothOf(cyclic(31, 8), powers(31, 8), identity8)},
		{"coproduct of the Unit", 4, bothOf(plainDualAlgebra(sets(5, 2)), sets(5, 2), identity2)},
		{"coproduct of the Unit of 8", 4, bothOf(plainDualAlgebra(sets(31, 8)), idempotents, identity8)},
		{"Counits of products", 5, bothOf(truncated(2, 2), sets(2, 2), identity2)},
		{"Counits of products of 8", 5, bothOf(truncated(31, 8), sets(31, 8), identity8)},
		{"Antipode of zeros", 6, changed(groupHopf(cyclic(2, 1)), func(h *impl.Hopf) { h.Antipode = impl.Linear{} })},
		{"the identity as Antipode", 6, changed(sweedlerHopf(31), func(h *impl.Hopf) { h.Antipode = plainIdentity(4) })},
		{"Antipode of others at the end", 6, changed(doubleHopf(31), func(h *impl.Hopf) { h.Antipode[7][7] = 30 })},
		{"Antipode back", 6, changed(sweedlerHopf(3), func(h *impl.Hopf) { h.Antipode[2], h.Antipode[3] = impl.Vector{0, 0, 0, 1}, impl.Vector{0, 0, 2} })},
	}
	for _, n := range []int64{2, 8} {
		for _, h := range monoids(31, n) {
			list = append(list, badHopf{"no antipode", 6, h})
		}
	}
	for _, x := range brokenAlgebras() {
		list = append(list, badHopf{x.name, 1, bothOf(x.a, sets(x.a.Prime, x.a.Size), impl.Linear{})})
	}
	for _, x := range brokenCoalgebras() {
		h := groupHopf(cyclic(x.c.Prime, x.c.Size))
		list = append(list, badHopf{x.name, 2, bothOf(algebraIn(h), x.c, h.Antipode)})
	}
	return list
}

func badHopfs() []badHopf {
	return append(shapelessHopfs(), brokenHopfs()...)
}

// plainDualAlgebra has the numbers of any tables in the places of the dual, whatever these are.
func plainDualAlgebra(c impl.Coalgebra) impl.Algebra {
	a := impl.Algebra{Prime: c.Prime, Size: c.Size, Unit: c.Counit}
	for i := range 8 {
		for j := range 8 {
			for k := range 8 {
				a.Mul[j][k][i] = c.Com[i][j][k]
			}
		}
	}
	return a
}
