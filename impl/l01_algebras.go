package impl

import (
	"slices"
	"strconv"
	"strings"
)

// Vector has the entries of a vector, and 0 behind them.
type Vector [8]byte

// Linear has the images of the basis elements, and vectors of zeros behind them.
type Linear [8]Vector

// Table has a vector for each pair of basis elements, and zeros for all other pairs.
type Table [8]Linear

// Error codes of all chapters.
const (
	ErrNone = iota
	ErrInvalid
	ErrRange
	ErrLimit
	ErrNotFound
	ErrState
	ErrSyntax
)

// Limits of chapter 1.
const (
	MaxSize  = 8
	MaxPrime = 31

	maxPower = 100
)

// Algebra is described in chapter 1.
type Algebra struct {
	Prime int64
	Size  int64
	Unit  Vector
	Mul   Table
}

// IsPrime reports whether p is a prime.
func IsPrime(p int64) bool {
	if p < 2 || p > MaxPrime {
		return false
	}
	for d := int64(2); d*d <= p; d++ {
		if p%d == 0 {
			return false
		}
	}
	return true
}

// IsVector reports whether p is a prime, n is in 1..MaxSize, and v is a vector for them.
func IsVector(p int64, n int64, v Vector) bool {
	if !isField(p, n) {
		return false
	}
	for i, x := range v {
		if int64(x) >= p || int64(i) >= n && x != 0 {
			return false
		}
	}
	return true
}

// IsAlgebra reports whether a is an algebra.
func IsAlgebra(a Algebra) bool {
	return isShapedAlgebra(a) && faultIn(a) == nil && hasUnit(a)
}

// FirstFault returns the first list {i, j, k}, in lexicographic order, for which (e(i) e(j)) e(k)
// is not e(i) (e(j) e(k)), and ErrNone. Errors: ErrInvalid if Prime, Size, Unit and Mul are not as
// told for algebras, but for associativity and the unit; ErrNotFound if there is none.
func FirstFault(a Algebra) ([]int64, int64) {
	if !isShapedAlgebra(a) {
		return nil, ErrInvalid
	}
	fault := faultIn(a)
	if fault == nil {
		return nil, ErrNotFound
	}
	return fault, ErrNone
}

// MultiplyVectors returns the product of v and w, and ErrNone.
func MultiplyVectors(a Algebra, v Vector, w Vector) (Vector, int64) {
	if !isAlgebraWith(a, v, w) {
		return Vector{}, ErrInvalid
	}
	return product(a, v, w), ErrNone
}

// PowerOf returns the power of v with k factors, for k in 0..100, and ErrNone.
func PowerOf(a Algebra, v Vector, k int64) (Vector, int64) {
	if !isAlgebraWith(a, v) {
		return Vector{}, ErrInvalid
	}
	if k < 0 || k > maxPower {
		return Vector{}, ErrRange
	}
	power := a.Unit
	for range k {
		power = product(a, power, v)
	}
	return power, ErrNone
}

// InverseOf returns the inverse of v, and ErrNone. Errors: ErrNotFound if there is none.
func InverseOf(a Algebra, v Vector) (Vector, int64) {
	if !isAlgebraWith(a, v) {
		return Vector{}, ErrInvalid
	}
	back, ok := inverseMap(a.Prime, a.Size, leftTable(a, v))
	if !ok {
		return Vector{}, ErrNotFound
	}
	w := apply(a.Prime, back, a.Unit)
	// v (w v) is v, and v x is v for x = Unit alone, so that w v is the Unit like v w.
	return w, ErrNone
}

// CentreOf returns the reduced list of the centre, and ErrNone.
func CentreOf(a Algebra) ([]Vector, int64) {
	if !IsAlgebra(a) {
		return nil, ErrInvalid
	}
	images := make([][]byte, a.Size)
	for i := range images {
		for j := range a.Size {
			difference := addMultiple(a.Prime, a.Mul[i][j], a.Prime-1, a.Mul[j][i])
			images[i] = append(images[i], difference[:]...)
		}
	}
	return kernelOf(a.Prime, images), ErrNone
}

// IsCommutative reports whether all vectors commute, and returns ErrNone.
func IsCommutative(a Algebra) (bool, int64) {
	if !IsAlgebra(a) {
		return false, ErrInvalid
	}
	return a == opposite(a), ErrNone
}

// LeftTable returns the left table of v, and ErrNone.
func LeftTable(a Algebra, v Vector) (Linear, int64) {
	if !isAlgebraWith(a, v) {
		return Linear{}, ErrInvalid
	}
	return leftTable(a, v), ErrNone
}

// TraceOf returns the trace of the left table of v, and ErrNone.
func TraceOf(a Algebra, v Vector) (int64, int64) {
	if !isAlgebraWith(a, v) {
		return 0, ErrInvalid
	}
	return traceOfMap(a.Prime, leftTable(a, v)), ErrNone
}

// OppositeAlgebra returns the opposite algebra, and ErrNone.
func OppositeAlgebra(a Algebra) (Algebra, int64) {
	if !IsAlgebra(a) {
		return Algebra{}, ErrInvalid
	}
	return opposite(a), ErrNone
}

// ProductAlgebra returns the product of a and b, and ErrNone. Errors: ErrLimit if the Sizes
// together are greater than MaxSize.
func ProductAlgebra(a Algebra, b Algebra) (Algebra, int64) {
	if !areAlgebras(a, b) {
		return Algebra{}, ErrInvalid
	}
	if a.Prime != b.Prime {
		return Algebra{}, ErrRange
	}
	if a.Size+b.Size > MaxSize {
		return Algebra{}, ErrLimit
	}
	both := a
	both.Size += b.Size
	copy(both.Unit[a.Size:], b.Unit[:])
	for i := range b.Size {
		for j := range b.Size {
			copy(both.Mul[a.Size+i][a.Size+j][a.Size:], b.Mul[i][j][:])
		}
	}
	return both, ErrNone
}

// ReduceVectors returns the reduced list of the space that vectors for p and n span, and ErrNone.
// Errors: ErrInvalid if p and n are not as told, or one of them is no vector.
func ReduceVectors(p int64, n int64, list []Vector) ([]Vector, int64) {
	if !isField(p, n) || !areVectors(p, n, list...) {
		return nil, ErrInvalid
	}
	return reduced(p, list), ErrNone
}

// VectorText returns the text of a vector for p and n, and ErrNone.
func VectorText(p int64, n int64, v Vector) (string, int64) {
	if !IsVector(p, n, v) {
		return "", ErrInvalid
	}
	parts := make([]string, n)
	for i := range parts {
		parts[i] = strconv.Itoa(int(v[i]))
	}
	return strings.Join(parts, ","), ErrNone
}

// ParseVector returns the vector for p and n with a text, and ErrNone. Errors: ErrInvalid if p and
// n are not as told; ErrSyntax if there is none.
func ParseVector(p int64, n int64, text string) (Vector, int64) {
	if !isField(p, n) {
		return Vector{}, ErrInvalid
	}
	parts := strings.Split(text, ",")
	if int64(len(parts)) != n {
		return Vector{}, ErrSyntax
	}
	var v Vector
	for i, part := range parts {
		x, ok := parseNumber(p, part)
		if !ok {
			return Vector{}, ErrSyntax
		}
		v[i] = x
	}
	return v, ErrNone
}

// isField reports whether there are vectors for p and n.
func isField(p int64, n int64) bool {
	return IsPrime(p) && n >= 1 && n <= MaxSize
}

func areVectors(p int64, n int64, list ...Vector) bool {
	for _, v := range list {
		if !IsVector(p, n, v) {
			return false
		}
	}
	return true
}

// isLinear reports whether f leads the first vectors of a basis to vectors for p and n.
func isLinear(p int64, from int64, n int64, f Linear) bool {
	for i, image := range f {
		if !IsVector(p, n, image) || int64(i) >= from && image != (Vector{}) {
			return false
		}
	}
	return true
}

// isTable reports whether t has count linear maps for p and n, and others of zeros behind them.
func isTable(p int64, count int64, n int64, t Table) bool {
	for i, f := range t {
		if !isLinear(p, n, n, f) || int64(i) >= count && f != (Linear{}) {
			return false
		}
	}
	return true
}

// isShapedAlgebra leaves associativity and the unit open.
func isShapedAlgebra(a Algebra) bool {
	return IsVector(a.Prime, a.Size, a.Unit) && isTable(a.Prime, a.Size, a.Size, a.Mul)
}

func isAlgebraWith(a Algebra, list ...Vector) bool {
	return IsAlgebra(a) && areVectors(a.Prime, a.Size, list...)
}

// areAlgebras checks equal ones only once, since a check takes much longer than a comparison.
func areAlgebras(list ...Algebra) bool {
	checked := map[Algebra]bool{}
	for _, a := range list {
		if checked[a] {
			continue
		}
		if !IsAlgebra(a) {
			return false
		}
		checked[a] = true
	}
	return true
}

// faultIn returns the first fault of a shaped algebra, or nil.
func faultIn(a Algebra) []int64 {
	right := flipTable(a.Mul)
	for i := range a.Size {
		for j := range a.Size {
			for k := range a.Size {
				first := apply(a.Prime, right[k], a.Mul[i][j])
				if first != apply(a.Prime, a.Mul[i], a.Mul[j][k]) {
					return []int64{i, j, k}
				}
			}
		}
	}
	return nil
}

// hasUnit reports whether the Unit of a shaped algebra is a unit on both sides.
func hasUnit(a Algebra) bool {
	right := flipTable(a.Mul)
	for i := range a.Size {
		e := basisVector(i)
		if apply(a.Prime, right[i], a.Unit) != e || apply(a.Prime, a.Mul[i], a.Unit) != e {
			return false
		}
	}
	return true
}

func basisVector(i int64) Vector {
	var e Vector
	e[i] = 1
	return e
}

// addMultiple returns v plus the product of factor and w.
func addMultiple(p int64, v Vector, factor int64, w Vector) Vector {
	addToRow(p, v[:], factor, w[:])
	return v
}

// apply returns what f makes of v.
func apply(p int64, f Linear, v Vector) Vector {
	var sum Vector
	for i, x := range v {
		if x != 0 {
			sum = addMultiple(p, sum, int64(x), f[i])
		}
	}
	return sum
}

func product(a Algebra, v Vector, w Vector) Vector {
	return apply(a.Prime, leftTable(a, v), w)
}

func leftTable(a Algebra, v Vector) Linear {
	return sumOfMaps(a.Prime, a.Mul, v)
}

// sumOfMaps returns the sum of v[i] times the map i of a table.
func sumOfMaps(p int64, t Table, v Vector) Linear {
	var sum Linear
	for i, x := range v {
		if x != 0 {
			sum = addMap(p, sum, int64(x), t[i])
		}
	}
	return sum
}

// addMap returns f plus the product of factor and g.
func addMap(p int64, f Linear, factor int64, g Linear) Linear {
	for i, image := range g {
		f[i] = addMultiple(p, f[i], factor, image)
	}
	return f
}

func traceOfMap(p int64, f Linear) int64 {
	sum := int64(0)
	for i, image := range f {
		sum += int64(image[i])
	}
	return sum % p
}

// flipTable returns the table in which the row k multiplies by e(k) from the right.
func flipTable(t Table) Table {
	var flipped Table
	for i, f := range t {
		for j, v := range f {
			flipped[j][i] = v
		}
	}
	return flipped
}

func opposite(a Algebra) Algebra {
	a.Mul = flipTable(a.Mul)
	return a
}

// reduced returns the reduced list of the space of vectors for p.
func reduced(p int64, list []Vector) []Vector {
	rows := make([][]byte, len(list))
	for i, v := range list {
		rows[i] = slices.Clone(v[:])
	}
	rows = reduceRows(p, rows)
	vectors := make([]Vector, len(rows))
	for i, row := range rows {
		vectors[i] = Vector(row)
	}
	return vectors
}

// inverseMap returns the linear map that takes f, from vectors of the size n to such ones, back.
func inverseMap(p int64, n int64, f Linear) (Linear, bool) {
	images := make([][]byte, n)
	for i := range images {
		images[i] = f[i][:]
	}
	var back Linear
	for i, row := range reduceRows(p, graphOf(images)) {
		if Vector(row[:MaxSize]) != basisVector(int64(i)) {
			return Linear{}, false
		}
		back[i] = Vector(row[MaxSize:])
	}
	return back, true
}

// kernelOf returns the reduced list of the vectors that lead to zeros alone, if e(i) leads to
// images[i]; there is at least one image, and all are equally long.
func kernelOf(p int64, images [][]byte) []Vector {
	width := len(images[0])
	var kernel []Vector
	for _, row := range reduceRows(p, graphOf(images)) {
		if firstPlace(row) >= width {
			kernel = append(kernel, Vector(row[width:]))
		}
	}
	return kernel
}

// graphOf returns new rows with e(i) behind the image of e(i). Sums of rows keep each image beside
// the vector that leads to it, so that a reduced list of them tells inverses and kernels.
func graphOf(images [][]byte) [][]byte {
	rows := make([][]byte, len(images))
	for i, image := range images {
		e := basisVector(int64(i))
		rows[i] = slices.Concat(image, e[:])
	}
	return rows
}

// reduceRows makes a reduced list of rows that are equally long, in their own memory.
func reduceRows(p int64, rows [][]byte) [][]byte {
	done := 0
	for place := 0; done < len(rows) && place < len(rows[done]); place++ {
		at := rowWithEntry(rows[done:], place)
		if at < 0 {
			continue
		}
		rows[done], rows[done+at] = rows[done+at], rows[done]
		divideRow(p, rows[done], rows[done][place])
		for i, row := range rows {
			if i != done && row[place] != 0 {
				addToRow(p, row, p-int64(row[place]), rows[done])
			}
		}
		done++
	}
	return rows[:done]
}

// rowWithEntry returns the index of the first row that has not 0 at a place, or -1.
func rowWithEntry(rows [][]byte, place int) int {
	for i, row := range rows {
		if row[place] != 0 {
			return i
		}
	}
	return -1
}

// firstPlace returns the place of the first entry other than 0, or the length of the row.
func firstPlace(row []byte) int {
	for place, x := range row {
		if x != 0 {
			return place
		}
	}
	return len(row)
}

// addToRow adds factor times other to a row that is equally long, in the memory of the row.
func addToRow(p int64, row []byte, factor int64, other []byte) {
	for i, x := range other {
		// Most entries of tables are 0, and remainders take much longer than comparisons.
		if x != 0 {
			row[i] = byte((int64(row[i]) + factor*int64(x)) % p)
		}
	}
}

// divideRow divides a row by a number other than 0, in the memory of the row.
func divideRow(p int64, row []byte, by byte) {
	factor := inverseNumber(p, int64(by))
	for i, x := range row {
		row[i] = byte(factor * int64(x) % p)
	}
}

// inverseNumber returns the number whose product with x, a number modulo p other than 0, is 1.
func inverseNumber(p int64, x int64) int64 {
	inverse := int64(1)
	for inverse*x%p != 1 {
		inverse++
	}
	return inverse
}

// parseNumber takes only the one text that a number modulo p has: strconv alone takes more of them.
func parseNumber(p int64, text string) (byte, bool) {
	x, err := strconv.ParseUint(text, 10, 8)
	if err != nil || int64(x) >= p || strconv.FormatUint(x, 10) != text {
		return 0, false
	}
	return byte(x), true
}
