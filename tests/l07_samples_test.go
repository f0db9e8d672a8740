package tests

import (
	"fmt"
	"slices"
	"sync"

	"loop.example/g01230/impl"
)

// spaceIn is the reduced list of what a list spans.
func spaceIn(h impl.Hopf, list []impl.Vector) []impl.Vector {
	space, _ := impl.ReduceVectors(h.Prime, h.Size, list)
	return space
}

// plainHas reports whether the space of a reduced list has a vector.
func plainHas(p int64, space []impl.Vector, v impl.Vector) bool {
	for _, w := range space {
		v = sumOf(p, v, p-int64(v[firstOf(w)]), w)
	}
	return v == impl.Vector{}
}

func plainHasAll(p int64, space, list []impl.Vector) bool {
	return !slices.ContainsFunc(list, func(v impl.Vector) bool { return !plainHas(p, space, v) })
}

// plainLegs returns the rows and the columns of the coproduct of v.
func plainLegs(h impl.Hopf, v impl.Vector) []impl.Vector {
	table := plainCoproduct(coalgebraIn(h), v)
	var legs []impl.Vector
	for j := range h.Size {
		var right, left impl.Vector
		for k := range h.Size {
			right[k], left[k] = table[j][k], table[k][j]
		}
		legs = append(legs, right, left)
	}
	return legs
}

// plainSubNeeds returns all that a sub Hopf algebra with the vectors of a list has to have.
func plainSubNeeds(h impl.Hopf, list []impl.Vector) []impl.Vector {
	needs := []impl.Vector{h.Unit}
	for _, v := range list {
		needs = append(needs, plainImage(h.Prime, h.Antipode, v))
		needs = append(needs, plainLegs(h, v)...)
		for _, w := range list {
			needs = append(needs, plainProduct(algebraIn(h), v, w))
		}
	}
	return needs
}

func plainIsSub(h impl.Hopf, space []impl.Vector) bool {
	return plainHasAll(h.Prime, space, plainSubNeeds(h, space))
}

// plainGenerated adds what is needed until there is nothing new.
func plainGenerated(h impl.Hopf, list []impl.Vector) []impl.Vector {
	space := spaceIn(h, list)
	for !plainIsSub(h, space) {
		space = spaceIn(h, append(plainSubNeeds(h, space), space...))
	}
	return space
}

// tableSpace is a space of tables, by the places of the first numbers other than 0 of some that span
// it.
type tableSpace struct {
	p    int64
	kept map[[2]int]impl.Linear
}

// rest takes away from a table what the space has of it.
func (s tableSpace) rest(f impl.Linear) impl.Linear {
	for j := range f {
		for k := range f[j] {
			if g, ok := s.kept[[2]int{j, k}]; ok {
				f = sumOfTables(s.p, f, s.p-int64(f[j][k]), g)
			}
		}
	}
	return f
}

func (s tableSpace) add(f impl.Linear) {
	f = s.rest(f)
	for j := range f {
		for k, x := range f[j] {
			if x != 0 {
				s.kept[[2]int{j, k}] = sumOfTables(s.p, impl.Linear{}, plainPower(s.p, int64(x), s.p-2), f)
				return
			}
		}
	}
}

// plainIsIdeal checks each condition of Hopf ideals by its definition.
func plainIsIdeal(h impl.Hopf, space []impl.Vector) bool {
	sums := tableSpace{h.Prime, map[[2]int]impl.Linear{}}
	for _, v := range space {
		for j := range h.Size {
			sums.add(plainPair(h.Prime, basis(j), v))
			sums.add(plainPair(h.Prime, v, basis(j)))
		}
	}
	for _, v := range space {
		if plainCounit(coalgebraIn(h), v) != 0 || !plainHas(h.Prime, space, plainImage(h.Prime, h.Antipode, v)) {
			return false
		}
		if sums.rest(plainCoproduct(coalgebraIn(h), v)) != (impl.Linear{}) {
			return false
		}
		for i := range h.Size {
			first, second := plainProduct(algebraIn(h), basis(i), v), plainProduct(algebraIn(h), v, basis(i))
			if !plainHas(h.Prime, space, first) || !plainHas(h.Prime, space, second) {
				return false
			}
		}
	}
	return true
}

// plainAdjoint sums up over the numbers of the coproduct.
func plainAdjoint(h impl.Hopf, v, w impl.Vector, right bool) impl.Vector {
	a, table := algebraIn(h), plainCoproduct(coalgebraIn(h), v)
	var sum impl.Vector
	for j := range h.Size {
		for k := range h.Size {
			first, second := basis(j), h.Antipode[k]
			if right {
				first, second = h.Antipode[j], basis(k)
			}
			if x := int64(table[j][k]); x != 0 {
				sum = sumOf(h.Prime, sum, x, plainProduct(a, plainProduct(a, first, w), second))
			}
		}
	}
	return sum
}

func plainIsNormal(h impl.Hopf, space []impl.Vector) bool {
	var needs []impl.Vector
	for i := range h.Size {
		for _, v := range space {
			needs = append(needs, plainAdjoint(h, basis(i), v, false), plainAdjoint(h, basis(i), v, true))
		}
	}
	return plainIsSub(h, space) && plainHasAll(h.Prime, space, needs)
}

// plainAugmented spans the vectors with the Counit 0 of a space in which not all have it.
func plainAugmented(h impl.Hopf, space []impl.Vector) []impl.Vector {
	var list []impl.Vector
	for _, v := range space {
		for _, w := range space {
			first := timesNumber(h.Prime, plainCounit(coalgebraIn(h), w), v)
			list = append(list, sumOf(h.Prime, first, h.Prime-plainCounit(coalgebraIn(h), v), w))
		}
	}
	return spaceIn(h, list)
}

// leftMultiples spans all products of vectors of h and of a list, rightMultiples those in the other
// order.
func leftMultiples(h impl.Hopf, list []impl.Vector) []impl.Vector {
	var products []impl.Vector
	for i := range h.Size {
		for _, v := range list {
			products = append(products, plainProduct(algebraIn(h), basis(i), v))
		}
	}
	return spaceIn(h, products)
}

func rightMultiples(h impl.Hopf, list []impl.Vector) []impl.Vector {
	var products []impl.Vector
	for i := range h.Size {
		for _, v := range list {
			products = append(products, plainProduct(algebraIn(h), v, basis(i)))
		}
	}
	return spaceIn(h, products)
}

// powersIn spans all powers of a vector.
func powersIn(h impl.Hopf, v impl.Vector) []impl.Vector {
	list := []impl.Vector{h.Unit}
	for i := range h.Size {
		list = append(list, plainProduct(algebraIn(h), list[i], v))
	}
	return spaceIn(h, list)
}

// complementOf spans the vectors of the dual that have the value 0 for all vectors of a list.
func complementOf(h impl.Hopf, list []impl.Vector) []impl.Vector {
	space := spaceIn(h, list)
	var others []impl.Vector
	for place := range h.Size {
		if slices.ContainsFunc(space, func(w impl.Vector) bool { return int64(firstOf(w)) == place }) {
			continue
		}
		v := basis(place)
		for _, w := range space {
			v[firstOf(w)] = byte((h.Prime - int64(w[place])) % h.Prime)
		}
		others = append(others, v)
	}
	return spaceIn(h, others)
}

func wholeSpace(h impl.Hopf) []impl.Vector {
	whole := plainIdentity(h.Size)
	return slices.Clone(whole[:h.Size])
}

// hopfSpace is a list of vectors of a Hopf algebra, which spans a space.
type hopfSpace struct {
	h    impl.Hopf
	list []impl.Vector
}

// spacesOf returns sub Hopf algebras, subalgebras, subcoalgebras, ideals of all kinds and others.
func spacesOf(h impl.Hopf) [][]impl.Vector {
	var s numbers
	p, n, dual := h.Prime, h.Size, plainDualHopf(h)
	left, _ := impl.LeftIntegral(h)
	lists := [][]impl.Vector{nil, {h.Unit}, wholeSpace(h), plainAugmented(h, wholeSpace(h)), {left}, {basis(n - 1)}}
	for _, v := range []impl.Vector{basis(0), basis(1 % n), basis(n / 2), basis(n - 1), left, s.vector(p, n), s.vector(2, n)} {
		sub := plainGenerated(h, []impl.Vector{v})
		ideal := complementOf(h, plainGenerated(dual, []impl.Vector{v}))
		augmented := plainAugmented(h, sub)
		coalgebra, _ := impl.LeastSubcoalgebra(coalgebraIn(h), v)
		lists = append(lists, []impl.Vector{v}, sub, augmented, ideal, append([]impl.Vector{v}, ideal...),
			leftMultiples(h, augmented), rightMultiples(h, augmented), leftMultiples(h, rightMultiples(h, augmented)),
			leftMultiples(h, []impl.Vector{v}), leftMultiples(h, rightMultiples(h, []impl.Vector{v})),
			complementOf(h, []impl.Vector{v}), powersIn(h, v), coalgebra, sub[:len(sub)-1], append([]impl.Vector{v}, h.Unit))
	}
	seen := map[string]bool{}
	var different [][]impl.Vector
	for _, list := range lists {
		space := spaceIn(h, list)
		if key := fmt.Sprint(space); !seen[key] {
			seen[key] = true
			different = append(different, space)
		}
	}
	return different
}

// someSpaces are spaces of all kinds of Hopf algebras, made once for all tests.
var someSpaces = sync.OnceValue(func() []hopfSpace {
	var list []hopfSpace
	for _, h := range integralHopfs() {
		for _, space := range spacesOf(h) {
			list = append(list, hopfSpace{h, space})
		}
	}
	return list
})

// everySpace returns the reduced lists of all spaces of vectors for p and n.
func everySpace(p, n int64) [][]impl.Vector {
	spaces := [][]impl.Vector{nil}
	for place := n - 1; place >= 0; place-- {
		longer := slices.Clone(spaces)
		for _, space := range spaces {
			for _, v := range startsAt(p, n, place, space) {
				longer = append(longer, append([]impl.Vector{v}, space...))
			}
		}
		spaces = longer
	}
	return spaces
}

// startsAt returns the vectors that can stand ahead of a reduced list, with 1 at a place as the first
// entry.
func startsAt(p, n, place int64, space []impl.Vector) []impl.Vector {
	list := []impl.Vector{basis(place)}
	for at := place + 1; at < n; at++ {
		if slices.ContainsFunc(space, func(v impl.Vector) bool { return int64(firstOf(v)) == at }) {
			continue
		}
		var longer []impl.Vector
		for _, v := range list {
			for x := range p {
				v[at] = byte(x)
				longer = append(longer, v)
			}
		}
		list = longer
	}
	return list
}

// countSpaces counts the spaces of vectors for p and n by the rule of Goldman and Rota; large counts
// are not exact.
func countSpaces(p, n int64) float64 {
	count, next, power := 1.0, 2.0, 1.0
	for range n {
		power *= float64(p)
		count, next = next, 2*next+(power-1)*count
	}
	return count
}

// hopfsWithFewSpaces have at most so many spaces that all of them can be tried.
func hopfsWithFewSpaces(most float64) []impl.Hopf {
	var few []impl.Hopf
	for _, h := range integralHopfs() {
		if countSpaces(h.Prime, h.Size) <= most {
			few = append(few, h)
		}
	}
	return few
}

// subgroupOf returns the least subgroup with some numbers, in ascending order.
func subgroupOf(table [][]int64, members ...int64) []int64 {
	members = append(members, 0)
	for at := 0; at < len(members); at++ {
		for _, other := range slices.Clone(members) {
			for _, number := range []int64{table[members[at]][other], table[other][members[at]]} {
				if !slices.Contains(members, number) {
					members = append(members, number)
				}
			}
		}
	}
	slices.Sort(members)
	return slices.Compact(members)
}

// isNormalSubgroup takes each number around each member.
func isNormalSubgroup(table [][]int64, members []int64) bool {
	for i := range table {
		inverse := slices.Index(table[i], 0)
		for _, number := range members {
			if !slices.Contains(members, table[table[i][number]][inverse]) {
				return false
			}
		}
	}
	return true
}

// vectorsAt returns the basis vectors with some numbers.
func vectorsAt(members []int64) []impl.Vector {
	var list []impl.Vector
	for _, number := range members {
		list = append(list, basis(number))
	}
	return list
}

// sumsOverCosets returns, for each number, the sum of all its products with members, in this order.
func sumsOverCosets(table [][]int64, members []int64) []impl.Vector {
	sums := make([]impl.Vector, len(table))
	for i := range table {
		for _, number := range members {
			sums[i][table[i][number]] = 1
		}
	}
	return sums
}
