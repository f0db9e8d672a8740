package tests

import "loop.example/g01230/impl"

// skewKind tells a Hopf algebra with the basis g^a x^b at a + n b, in which g has the order n, g x
// is q x g, x x is factor times (g^(2k) - 1), and x has the coproduct g^k (x) x + x (x) 1.
type skewKind struct{ p, n, q, k, factor int64 }

// skewKinds have a g whose order may be 4, so that its inverse is another one.
func skewKinds() []skewKind {
	return []skewKind{
		{3, 2, 2, 1, 0}, {3, 4, 2, 1, 0}, {3, 4, 2, 3, 0}, {5, 4, 4, 1, 0}, {5, 4, 4, 3, 0}, {31, 4, 30, 1, 0},
		{3, 4, 2, 1, 1}, {5, 4, 4, 3, 2}, {31, 4, 30, 1, 30},
		{5, 4, 2, 2, 0}, {5, 4, 3, 2, 0}, {13, 4, 5, 2, 0}, {29, 4, 12, 2, 0}, {2, 3, 1, 1, 0}, {2, 4, 1, 1, 1}, {2, 4, 1, 2, 0},
	}
}

func skewHopf(x skewKind) impl.Hopf {
	p, n := x.p, x.n
	h := impl.Hopf{Prime: p, Size: 2 * n, Unit: impl.Vector{1}}
	for i := range 2 * n {
		for j := range 2 * n {
			h.Mul[i][j] = skewProduct(x, i, j)
		}
	}
	for a := range n {
		h.Counit[a] = 1
		h.Com[a][a][a] = 1
		h.Com[a+n][(a+x.k)%n][a+n], h.Com[a+n][a+n][a] = 1, 1
		h.Antipode[a][(n-a)%n] = 1
		// S(g^a x) = - g^(-k) x g^(-a) = - q^a g^(-k - a) x.
		h.Antipode[a+n][n+(2*n-x.k-a)%n] = byte((p - 1) * plainPower(p, x.q, a) % p)
	}
	return h
}

func skewProduct(x skewKind, i, j int64) impl.Vector {
	p, n := x.p, x.n
	a, b, c, d := i%n, i/n, j%n, j/n
	var v impl.Vector
	// x to the power b passes g to the power c.
	factor := plainPower(p, plainPower(p, x.q, p-2), b*c)
	if b+d < 2 {
		v[(a+c)%n+n*(b+d)] = byte(factor)
		return v
	}
	v = sumOf(p, v, factor*x.factor, basis((a+c+2*x.k)%n))
	return sumOf(p, v, (p-1)*factor*x.factor, basis((a+c)%n))
}

func plainPower(p, x, k int64) int64 {
	power := int64(1)
	for range k {
		power = power * x % p
	}
	return power
}

// affineHopf has the basis 1, x, y, xy modulo 2 with primitive x and y, x x = x, y y = 0 and
// y x = x y + y. It is cocommutative, but not unimodular.
func affineHopf() impl.Hopf {
	return impl.Hopf{
		Prime: 2, Size: 4, Unit: impl.Vector{1}, Counit: impl.Vector{1},
		Mul: impl.Table{
			{{1}, {0, 1}, {0, 0, 1}, {0, 0, 0, 1}}, {{0, 1}, {0, 1}, {0, 0, 0, 1}, {0, 0, 0, 1}},
			{{0, 0, 1}, {0, 0, 1, 1}}, {{0, 0, 0, 1}},
		},
		Com: impl.Table{
			{{1}}, {{0, 1}, {1}}, {{0, 0, 1}, {}, {1}}, {{0, 0, 0, 1}, {0, 0, 1}, {0, 1}, {1}},
		},
		Antipode: impl.Linear{{1}, {0, 1}, {0, 0, 1}, {0, 0, 1, 1}},
	}
}

// integralHopfs has Hopf algebras that are unimodular or not, semisimple or not, and cosemisimple or
// not.
func integralHopfs() []impl.Hopf {
	list := []impl.Hopf{affineHopf(), plainTensor(affineHopf(), groupHopf(cyclic(2, 2))), plainTensor(affineHopf(), lineHopf(2, 1))}
	for _, x := range skewKinds() {
		h := skewHopf(x)
		list = append(list, h, shearedHopf(shearedHopf(h, 0, h.Size-1), h.Size-1, 1))
	}
	return append(someHopfs(), withDuals(list)...)
}

// namedHopf is a known Hopf algebra with its name.
type namedHopf struct {
	name string
	h    impl.Hopf
}

// everyNamedHopf has all names with all of their primes.
func everyNamedHopf() []namedHopf {
	var list []namedHopf
	for _, p := range primes() {
		for _, name := range allNames() {
			if h, code := impl.KnownHopf(name, p); code == impl.ErrNone {
				list = append(list, namedHopf{name, h})
			}
		}
	}
	return list
}

func everyHopfForIntegrals() []impl.Hopf {
	list := integralHopfs()
	for _, x := range everyNamedHopf() {
		list = append(list, x.h)
	}
	return list
}

// triable returns those Hopf algebras that have so few vectors that all of them can be tried.
func triable(list []impl.Hopf) []impl.Hopf {
	var small []impl.Hopf
	for _, h := range list {
		if countVectors(h.Prime, h.Size) <= 1000 {
			small = append(small, h)
		}
	}
	return small
}

func timesNumber(p, x int64, v impl.Vector) impl.Vector {
	return sumOf(p, impl.Vector{}, x, v)
}

// plainLeft reports whether t is a left integral, by the definition.
func plainLeft(h impl.Hopf, t impl.Vector) bool {
	for i := range h.Size {
		if plainProduct(algebraIn(h), basis(i), t) != timesNumber(h.Prime, int64(h.Counit[i]), t) {
			return false
		}
	}
	return true
}

// plainRight reports whether t is a right integral, by the definition.
func plainRight(h impl.Hopf, t impl.Vector) bool {
	for i := range h.Size {
		if plainProduct(algebraIn(h), t, basis(i)) != timesNumber(h.Prime, int64(h.Counit[i]), t) {
			return false
		}
	}
	return true
}

// isFirstOfSpace reports whether v is the vector of the reduced list of its multiples.
func isFirstOfSpace(v impl.Vector) bool {
	for _, x := range v {
		if x != 0 {
			return x == 1
		}
	}
	return false
}

// plainValue returns the value for v of a vector of the dual.
func plainValue(p int64, form, v impl.Vector) int64 {
	sum := int64(0)
	for i := range v {
		sum += int64(form[i]) * int64(v[i])
	}
	return sum % p
}

// plainTrace returns the trace of S taken twice.
func plainTrace(h impl.Hopf) int64 {
	sum := int64(0)
	for i := range h.Size {
		for j := range h.Size {
			sum += int64(h.Antipode[i][j]) * int64(h.Antipode[j][i])
		}
	}
	return sum % h.Prime
}
