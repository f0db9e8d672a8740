package tests

import (
	"math"

	"loop.example/g01230/impl"
)

// numbers is a fixed sequence of numbers that look arbitrary.
type numbers struct{ state uint64 }

func (s *numbers) below(n int64) int64 {
	s.state = s.state*6364136223846793005 + 1442695040888963407
	return int64(s.state>>33) % n
}

func (s *numbers) vector(p, n int64) impl.Vector {
	var v impl.Vector
	for i := range n {
		v[i] = byte(s.below(p))
	}
	return v
}

// everyVector returns all vectors for p and n in lexicographic order.
func everyVector(p, n int64) []impl.Vector {
	list := []impl.Vector{{}}
	for i := range n {
		var longer []impl.Vector
		for _, v := range list {
			for x := range p {
				v[i] = byte(x)
				longer = append(longer, v)
			}
		}
		list = longer
	}
	return list
}

// countVectors is the number of all vectors for p and n.
func countVectors(p, n int64) int64 {
	count := int64(1)
	for range n {
		count *= p
	}
	return count
}

func basis(i int64) impl.Vector {
	var v impl.Vector
	v[i] = 1
	return v
}

func sumOf(p int64, v impl.Vector, factor int64, w impl.Vector) impl.Vector {
	for i := range v {
		v[i] = byte((int64(v[i]) + factor*int64(w[i])) % p)
	}
	return v
}

// plainProduct multiplies by the definition, without any check.
func plainProduct(a impl.Algebra, v, w impl.Vector) impl.Vector {
	var sum impl.Vector
	for i := range a.Size {
		for j := range a.Size {
			if factor := int64(v[i]) * int64(w[j]); factor != 0 {
				sum = sumOf(a.Prime, sum, factor, a.Mul[i][j])
			}
		}
	}
	return sum
}

func plainFault(a impl.Algebra) []int64 {
	for i := range a.Size {
		for j := range a.Size {
			for k := range a.Size {
				left := plainProduct(a, a.Mul[i][j], basis(k))
				right := plainProduct(a, basis(i), a.Mul[j][k])
				if left != right {
					return []int64{i, j, k}
				}
			}
		}
	}
	return nil
}

func plainUnit(a impl.Algebra) bool {
	for i := range a.Size {
		if plainProduct(a, a.Unit, basis(i)) != basis(i) || plainProduct(a, basis(i), a.Unit) != basis(i) {
			return false
		}
	}
	return true
}

// groupAlgebra has the products that times tells for the numbers of a group with the unit 0.
func groupAlgebra(p, n int64, times func(i, j int64) int64) impl.Algebra {
	a := impl.Algebra{Prime: p, Size: n, Unit: impl.Vector{1}}
	for i := range n {
		for j := range n {
			a.Mul[i][j][times(i, j)] = 1
		}
	}
	return a
}

func cyclic(p, n int64) impl.Algebra {
	return groupAlgebra(p, n, func(i, j int64) int64 { return (i + j) % n })
}

// dihedral is the group algebra of the rotations r and the mirrors r + n.
func dihedral(p, n int64) impl.Algebra {
	return groupAlgebra(p, 2*n, func(i, j int64) int64 {
		r, s, q, t := i%n, i/n, j%n, j/n
		if s == 1 {
			q = n - q
		}
		return (r+q)%n + n*((s+t)%2)
	})
}

// truncated has the powers of x below n as basis, and higher ones are 0.
func truncated(p, n int64) impl.Algebra {
	a := impl.Algebra{Prime: p, Size: n, Unit: impl.Vector{1}}
	for i := range n {
		for j := range n - i {
			a.Mul[i][j][i+j] = 1
		}
	}
	return a
}

// matrices has tables of two rows; triangles leaves out those with a number below the diagonal.
func matrices(p int64) impl.Algebra {
	a := impl.Algebra{Prime: p, Size: 4, Unit: impl.Vector{1, 0, 0, 1}}
	for i := range 2 {
		for j := range 2 {
			for k := range 2 {
				a.Mul[2*i+j][2*j+k][2*i+k] = 1
			}
		}
	}
	return a
}

func triangles(p int64) impl.Algebra {
	a := impl.Algebra{Prime: p, Size: 3, Unit: impl.Vector{1, 0, 1}}
	a.Mul[0][0] = impl.Vector{1}
	a.Mul[0][1] = impl.Vector{0, 1}
	a.Mul[1][2] = impl.Vector{0, 1}
	a.Mul[2][2] = impl.Vector{0, 0, 1}
	return a
}

// quaternions has the basis 1, i, j, k.
func quaternions(p int64) impl.Algebra {
	a := impl.Algebra{Prime: p, Size: 4, Unit: impl.Vector{1}}
	minus := byte(p - 1)
	for i := range int64(4) {
		a.Mul[0][i], a.Mul[i][0] = basis(i), basis(i)
	}
	for i := range 3 {
		x, y, z := 1+i, 1+(i+1)%3, 1+(i+2)%3
		a.Mul[x][x][0] = minus
		a.Mul[x][y][z] = 1
		a.Mul[y][x][z] = minus
	}
	return a
}

// sheared is the same algebra with e(s) + e(t) in the place of e(s).
func sheared(a impl.Algebra, s, t int64) impl.Algebra {
	place := func(i int64) impl.Vector {
		if i == s {
			return sumOf(a.Prime, basis(s), 1, basis(t))
		}
		return basis(i)
	}
	told := func(v impl.Vector) impl.Vector {
		v[t] = byte((int64(v[t]) + a.Prime - int64(v[s])) % a.Prime)
		return v
	}
	other := impl.Algebra{Prime: a.Prime, Size: a.Size, Unit: told(a.Unit)}
	for i := range a.Size {
		for j := range a.Size {
			other.Mul[i][j] = told(plainProduct(a, place(i), place(j)))
		}
	}
	return other
}

// smallAlgebras have so few vectors that all of them can be tried.
func smallAlgebras() []impl.Algebra {
	return []impl.Algebra{
		cyclic(2, 1), cyclic(31, 1), cyclic(2, 2), cyclic(3, 2), cyclic(31, 2), cyclic(5, 3),
		truncated(2, 3), truncated(3, 4), triangles(2), triangles(3), matrices(2), matrices(3),
		quaternions(3), cyclic(2, 8), dihedral(2, 3), dihedral(2, 4), truncated(2, 8),
		sheared(cyclic(3, 3), 0, 1), sheared(matrices(3), 1, 0),
		sheared(sheared(quaternions(3), 0, 2), 3, 0),
	}
}

func largeAlgebras() []impl.Algebra {
	return []impl.Algebra{
		cyclic(31, 8), dihedral(31, 3), dihedral(31, 4), truncated(29, 8), matrices(31),
		quaternions(31), sheared(sheared(dihedral(31, 4), 0, 5), 7, 1),
		sheared(sheared(truncated(23, 7), 0, 6), 3, 2),
	}
}

func someAlgebras() []impl.Algebra {
	return append(smallAlgebras(), largeAlgebras()...)
}

// badAlgebra has a name, and an algebra that is none.
type badAlgebra struct {
	name string
	a    impl.Algebra
}

func changed[T any](x T, change func(x *T)) T {
	change(&x)
	return x
}

// shapelessAlgebras have not the form of an algebra.
func shapelessAlgebras() []badAlgebra {
	list := []badAlgebra{{"zero value", impl.Algebra{}}}
	for _, p := range []int64{math.MinInt64, -5, 0, 1, 4, 9, 25, 32, 37, 5 + 1<<32, math.MaxInt64} {
		list = append(list, badAlgebra{"Prime", changed(cyclic(5, 3), func(a *impl.Algebra) { a.Prime = p })})
	}
	for _, n := range []int64{math.MinInt64, -1, 0, 9, 3 + 1<<32, math.MaxInt64} {
		list = append(list, badAlgebra{"Size", changed(cyclic(5, 8), func(a *impl.Algebra) { a.Size = n })})
	}
	return append(list,
		badAlgebra{"Unit has the Prime", changed(cyclic(5, 3), func(a *impl.Algebra) { a.Unit[1] = 5 })},
		badAlgebra{"Unit is equal modulo the Prime", changed(cyclic(5, 3), func(a *impl.Algebra) { a.Unit[0] = 6 })},
		badAlgebra{"Unit has 255", changed(cyclic(5, 3), func(a *impl.Algebra) { a.Unit[2] = 255 })},
		badAlgebra{"Unit behind", changed(cyclic(5, 3), func(a *impl.Algebra) { a.Unit[3] = 1 })},
		badAlgebra{"Mul has the Prime", changed(cyclic(5, 3), func(a *impl.Algebra) { a.Mul[2][2][0] = 5 })},
		badAlgebra{"Mul is equal modulo the Prime", changed(cyclic(5, 3), func(a *impl.Algebra) { a.Mul[0][0][0] = 6 })},
		badAlgebra{"Mul behind, last index", changed(cyclic(5, 3), func(a *impl.Algebra) { a.Mul[0][0][3] = 1 })},
		badAlgebra{"Mul behind, second index", changed(cyclic(5, 3), func(a *impl.Algebra) { a.Mul[0][3][0] = 1 })},
		badAlgebra{"Mul behind, first index", changed(cyclic(5, 3), func(a *impl.Algebra) { a.Mul[3][0][0] = 1 })},
		badAlgebra{"Mul behind, last place", changed(cyclic(5, 3), func(a *impl.Algebra) { a.Mul[7][7][7] = 1 })},
	)
}

// brokenAlgebras have the form of an algebra, but are none.
func brokenAlgebras() []badAlgebra {
	rightZeros := impl.Algebra{Prime: 5, Size: 2, Unit: impl.Vector{1}}
	leftZeros := rightZeros
	for i := range int64(2) {
		for j := range int64(2) {
			rightZeros.Mul[i][j] = basis(j)
			leftZeros.Mul[i][j] = basis(i)
		}
	}
	return []badAlgebra{
		{"not associative", changed(cyclic(5, 3), func(a *impl.Algebra) { a.Mul[1][1] = impl.Vector{0, 1} })},
		{"not associative at the end", changed(truncated(31, 8), func(a *impl.Algebra) { a.Mul[7][7][6] = 1 })},
		{"Unit of zeros", changed(cyclic(5, 3), func(a *impl.Algebra) { a.Unit = impl.Vector{} })},
		{"another Unit", changed(cyclic(5, 3), func(a *impl.Algebra) { a.Unit = impl.Vector{0, 1} })},
		{"twice the Unit", changed(cyclic(5, 3), func(a *impl.Algebra) { a.Unit = impl.Vector{2} })},
		{"half of a Unit", changed(matrices(3), func(a *impl.Algebra) { a.Unit = impl.Vector{1} })},
		{"Unit from the left alone", rightZeros},
		{"Unit from the right alone", leftZeros},
		{"products of zeros", impl.Algebra{Prime: 2, Size: 1, Unit: impl.Vector{1}}},
	}
}

func badAlgebras() []badAlgebra {
	return append(shapelessAlgebras(), brokenAlgebras()...)
}

// badVectors are none for p = 5 and n = 3.
func badVectors() []impl.Vector {
	return []impl.Vector{
		{5}, {0, 0, 5}, {0, 255}, {6, 1, 1}, {0, 0, 0, 1}, {1, 1, 1, 0, 0, 0, 0, 1}, {0, 0, 0, 5},
	}
}
