package tests

import "loop.example/g01230/impl"

// plainCoproduct takes the coproduct by the definition, without any check.
func plainCoproduct(c impl.Coalgebra, v impl.Vector) impl.Linear {
	var table impl.Linear
	for j := range c.Size {
		for k := range c.Size {
			sum := int64(0)
			for i := range c.Size {
				sum += int64(v[i]) * int64(c.Com[i][j][k])
			}
			table[j][k] = byte(sum % c.Prime)
		}
	}
	return table
}

func plainCounit(c impl.Coalgebra, v impl.Vector) int64 {
	sum := int64(0)
	for i := range c.Size {
		sum += int64(v[i]) * int64(c.Counit[i])
	}
	return sum % c.Prime
}

// plainPair returns the table of v (x) w.
func plainPair(p int64, v, w impl.Vector) impl.Linear {
	var table impl.Linear
	for j := range v {
		for k := range w {
			table[j][k] = byte(int64(v[j]) * int64(w[k]) % p)
		}
	}
	return table
}

func sumOfTables(p int64, f impl.Linear, factor int64, g impl.Linear) impl.Linear {
	for i := range f {
		f[i] = sumOf(p, f[i], factor, g[i])
	}
	return f
}

func plainCoFault(c impl.Coalgebra) []int64 {
	for i := range c.Size {
		for j := range c.Size {
			for k := range c.Size {
				for l := range c.Size {
					first, second := int64(0), int64(0)
					for a := range c.Size {
						first += int64(c.Com[i][a][l]) * int64(c.Com[a][j][k])
						second += int64(c.Com[i][j][a]) * int64(c.Com[a][k][l])
					}
					if first%c.Prime != second%c.Prime {
						return []int64{i, j, k, l}
					}
				}
			}
		}
	}
	return nil
}

// plainCounits reports whether the Counit is one on both sides.
func plainCounits(c impl.Coalgebra) bool {
	for i := range c.Size {
		var first, second impl.Vector
		for j := range c.Size {
			for k := range c.Size {
				first = sumOf(c.Prime, first, int64(c.Counit[j])*int64(c.Com[i][j][k]), basis(k))
				second = sumOf(c.Prime, second, int64(c.Counit[k])*int64(c.Com[i][j][k]), basis(j))
			}
		}
		if first != basis(i) || second != basis(i) {
			return false
		}
	}
	return true
}

func plainGroupLike(c impl.Coalgebra, v impl.Vector) bool {
	return plainCounit(c, v) == 1 && plainCoproduct(c, v) == plainPair(c.Prime, v, v)
}

// plainConvolution convolves by the definition.
func plainConvolution(c impl.Coalgebra, a impl.Algebra, f, g impl.Linear) impl.Linear {
	var sums impl.Linear
	for i := range c.Size {
		for j := range c.Size {
			for k := range c.Size {
				sums[i] = sumOf(a.Prime, sums[i], int64(c.Com[i][j][k]), plainProduct(a, f[j], g[k]))
			}
		}
	}
	return sums
}

// plainDual has the numbers of any tables in the places of the dual, whatever these are.
func plainDual(a impl.Algebra) impl.Coalgebra {
	c := impl.Coalgebra{Prime: a.Prime, Size: a.Size, Counit: a.Unit}
	for i := range 8 {
		for j := range 8 {
			for k := range 8 {
				c.Com[i][j][k] = a.Mul[j][k][i]
			}
		}
	}
	return c
}

// sets has a basis of group-like vectors.
func sets(p, n int64) impl.Coalgebra {
	c := impl.Coalgebra{Prime: p, Size: n}
	for i := range n {
		c.Counit[i] = 1
		c.Com[i][i][i] = 1
	}
	return c
}

// powers leads e(i) to all e(j) (x) e(i - j).
func powers(p, n int64) impl.Coalgebra {
	c := impl.Coalgebra{Prime: p, Size: n, Counit: impl.Vector{1}}
	for i := range n {
		for j := range i + 1 {
			c.Com[i][j][i-j] = 1
		}
	}
	return c
}

// sweedler has the basis 1, g, x, gx with 1 and g group-like, x (1, g)- and gx (g, 1)-primitive.
func sweedler(p int64) impl.Coalgebra {
	c := impl.Coalgebra{Prime: p, Size: 4, Counit: impl.Vector{1, 1}}
	c.Com[0][0][0] = 1
	c.Com[1][1][1] = 1
	c.Com[2][2][0], c.Com[2][1][2] = 1, 1
	c.Com[3][3][1], c.Com[3][0][3] = 1, 1
	return c
}

// smallCoalgebras have so few vectors that all of them can be tried.
func smallCoalgebras() []impl.Coalgebra {
	list := []impl.Coalgebra{
		sets(2, 1), sets(31, 1), sets(2, 8), sets(3, 4), sets(31, 2), powers(2, 8), powers(5, 3),
		powers(31, 2), sweedler(2), sweedler(3), sweedler(5),
	}
	for _, a := range smallAlgebras() {
		list = append(list, plainDual(a))
	}
	return list
}

func someCoalgebras() []impl.Coalgebra {
	list := append(smallCoalgebras(), sets(31, 8), powers(31, 8), powers(29, 7), sweedler(31))
	for _, a := range largeAlgebras() {
		list = append(list, plainDual(a))
	}
	return list
}

// badCoalgebra has a name, and a coalgebra that is none.
type badCoalgebra struct {
	name string
	c    impl.Coalgebra
}

// shapelessCoalgebras have not the form of a coalgebra.
func shapelessCoalgebras() []badCoalgebra {
	list := []badCoalgebra{
		{"Com has the Prime", changed(sets(2, 1), func(c *impl.Coalgebra) { c.Com[0][0][0] = 2 })},
		{"Com is equal modulo the Prime", changed(sets(2, 1), func(c *impl.Coalgebra) { c.Com[0][0][0] = 3 })},
		{"Counit is equal modulo the Prime", changed(sets(31, 8), func(c *impl.Coalgebra) { c.Counit[7] = 32 })},
		{"Counit behind", changed(sets(31, 7), func(c *impl.Coalgebra) { c.Counit[7] = 1 })},
		{"one more behind", changed(sets(31, 7), func(c *impl.Coalgebra) { c.Com[7][7][7] = 1 })},
		{"Size is too small", changed(sets(5, 8), func(c *impl.Coalgebra) { c.Size = 7 })},
		{"Size is too great", changed(sets(5, 8), func(c *impl.Coalgebra) { c.Size = 9 })},
		{"no prime", changed(powers(31, 8), func(c *impl.Coalgebra) { c.Prime = 33 })},
	}
	for _, x := range shapelessAlgebras() {
		list = append(list, badCoalgebra{x.name + " (of the dual)", plainDual(x.a)})
	}
	return list
}

// brokenCoalgebras have the form of a coalgebra, but are none.
func brokenCoalgebras() []badCoalgebra {
	fromLeft := impl.Coalgebra{Prime: 5, Size: 2, Counit: impl.Vector{1, 1}}
	fromRight := fromLeft
	for i := range 2 {
		fromLeft.Com[i][0][i] = 1
		fromRight.Com[i][i][0] = 1
	}
	list := []badCoalgebra{
		{"not coassociative", changed(sweedler(5), func(c *impl.Coalgebra) { c.Com[3][2][2] = 1 })},
		{"not coassociative at the end", changed(powers(31, 8), func(c *impl.Coalgebra) { c.Com[7][7][7] = 1 })},
		{"Counit of zeros", changed(sets(5, 3), func(c *impl.Coalgebra) { c.Counit = impl.Vector{} })},
		{"another Counit", changed(powers(5, 3), func(c *impl.Coalgebra) { c.Counit = impl.Vector{0, 1} })},
		{"twice the Counit", changed(powers(5, 3), func(c *impl.Coalgebra) { c.Counit = impl.Vector{2} })},
		{"half of a Counit", changed(sweedler(3), func(c *impl.Coalgebra) { c.Counit = impl.Vector{1} })},
		{"Counit from the left alone", fromLeft},
		{"Counit from the right alone", fromRight},
		{"coproducts of zeros", impl.Coalgebra{Prime: 2, Size: 1, Counit: impl.Vector{1}}},
	}
	for _, x := range brokenAlgebras() {
		list = append(list, badCoalgebra{x.name + " (of the dual)", plainDual(x.a)})
	}
	return list
}

func badCoalgebras() []badCoalgebra {
	return append(shapelessCoalgebras(), brokenCoalgebras()...)
}
