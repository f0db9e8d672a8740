package tests

import (
	"math"
	"slices"
	"testing"

	"loop.example/g01230/impl"
)

// checkTable sees that a result has the rows that it should have, and is a group table.
func checkTable(t *testing.T, name string, got [][]int64, code int64, want [][]int64) {
	t.Helper()
	if !sameTables(got, want) || code != impl.ErrNone {
		t.Errorf("%s = %v, %d, not %v", name, got, code, want)
	}
	if !impl.IsGroupTable(got) || !plainGroupTable(got) {
		t.Errorf("%s is no group table: %v", name, got)
	}
	checkRowsAreApart(t, name, got)
}

// checkRowsAreApart writes into all memory of each row, and sees that no other row changes.
func checkRowsAreApart(t *testing.T, name string, table [][]int64) {
	t.Helper()
	before := copyOfTable(table)
	for i, row := range table {
		whole := row[:cap(row)]
		for j := range whole {
			whole[j] = -7
		}
		for k := range table {
			if k != i && !slices.Equal(table[k], before[k]) {
				t.Errorf("%s: the rows %d and %d share memory", name, i, k)
			}
		}
		copy(row, before[i])
	}
}

func TestCyclicTables(t *testing.T) {
	for n := int64(1); n <= 8; n++ {
		got, code := impl.CyclicTable(n)
		checkTable(t, "CyclicTable", got, code, tableBy(n, func(i, j int64) int64 { return (i + j) % n }))
	}
	got, code := impl.CyclicTable(1)
	checkTable(t, "CyclicTable(1)", got, code, [][]int64{{0}})
	got, code = impl.CyclicTable(4)
	checkTable(t, "CyclicTable(4)", got, code, [][]int64{{0, 1, 2, 3}, {1, 2, 3, 0}, {2, 3, 0, 1}, {3, 0, 1, 2}})
}

func TestCyclicTablesThatAreNone(t *testing.T) {
	for _, n := range []int64{math.MinInt64, -8, -1, 0, 9, 10, 64, 1 << 32, 1<<32 + 3, math.MaxInt64} {
		if got, code := impl.CyclicTable(n); len(got) != 0 || code != impl.ErrRange {
			t.Errorf("CyclicTable(%d) = %v, %d", n, got, code)
		}
	}
}

func TestDihedralTables(t *testing.T) {
	got, code := impl.DihedralTable(3)
	checkTable(t, "DihedralTable(3)", got, code, [][]int64{
		{0, 1, 2, 3, 4, 5}, {1, 2, 0, 4, 5, 3}, {2, 0, 1, 5, 3, 4},
		{3, 5, 4, 0, 2, 1}, {4, 3, 5, 1, 0, 2}, {5, 4, 3, 2, 1, 0},
	})
	got, code = impl.DihedralTable(4)
	checkTable(t, "DihedralTable(4)", got, code, [][]int64{
		{0, 1, 2, 3, 4, 5, 6, 7}, {1, 2, 3, 0, 5, 6, 7, 4}, {2, 3, 0, 1, 6, 7, 4, 5}, {3, 0, 1, 2, 7, 4, 5, 6},
		{4, 7, 6, 5, 0, 3, 2, 1}, {5, 4, 7, 6, 1, 0, 3, 2}, {6, 5, 4, 7, 2, 1, 0, 3}, {7, 6, 5, 4, 3, 2, 1, 0},
	})
}

// The number r + n s turns the corners x of a figure to r + x, or to r - x if s is 1.
func TestDihedralTablesTurnFigures(t *testing.T) {
	for _, n := range []int64{3, 4} {
		turned := func(i, x int64) int64 {
			if i >= n {
				x = n - x
			}
			return (i + x) % n
		}
		table, _ := impl.DihedralTable(n)
		for i := range 2 * n {
			for j := range 2 * n {
				for x := range n {
					if turned(table[i][j], x) != turned(i, turned(j, x)) {
						t.Errorf("DihedralTable(%d): %d and %d give %d", n, i, j, table[i][j])
					}
				}
			}
		}
	}
}

func TestDihedralTablesThatAreNone(t *testing.T) {
	for _, n := range []int64{math.MinInt64, -4, -3, -1, 0, 1, 2, 5, 6, 8, 1<<32 + 3, math.MaxInt64} {
		if got, code := impl.DihedralTable(n); len(got) != 0 || code != impl.ErrRange {
			t.Errorf("DihedralTable(%d) = %v, %d", n, got, code)
		}
	}
}

func TestQuaternionTable(t *testing.T) {
	want := [][]int64{
		{0, 1, 2, 3, 4, 5, 6, 7}, {1, 4, 3, 6, 5, 0, 7, 2}, {2, 7, 4, 1, 6, 3, 0, 5}, {3, 2, 5, 4, 7, 6, 1, 0},
		{4, 5, 6, 7, 0, 1, 2, 3}, {5, 0, 7, 2, 1, 4, 3, 6}, {6, 3, 0, 5, 2, 7, 4, 1}, {7, 6, 1, 0, 3, 2, 5, 4},
	}
	checkTable(t, "QuaternionTable", impl.QuaternionTable(), impl.ErrNone, want)
	if !sameTables(want, tableIn(quaternionGroup(31))) {
		t.Errorf("quaternions multiply in another way than %v", want)
	}
}

func TestTablesAreNewMemory(t *testing.T) {
	makers := map[string]func() [][]int64{
		"CyclicTable":     func() [][]int64 { table, _ := impl.CyclicTable(4); return table },
		"DihedralTable":   func() [][]int64 { table, _ := impl.DihedralTable(4); return table },
		"QuaternionTable": impl.QuaternionTable,
	}
	for name, maker := range makers {
		first := maker()
		want := copyOfTable(first)
		for i := range first {
			clear(first[i])
			first[i] = nil
		}
		if again := maker(); !sameTables(again, want) {
			t.Errorf("%s depends on what is done with its results: %v", name, again)
		}
	}
}

// checkGroupTable holds IsGroupTable against the definition, and returns what it is.
func checkGroupTable(t *testing.T, rows [][]int64) bool {
	t.Helper()
	want := plainGroupTable(rows)
	if got := impl.IsGroupTable(rows); got != want {
		t.Errorf("IsGroupTable(%v) = %v", rows, got)
	}
	return want
}

// everyTable goes through all tables of a size with numbers from least up to below end, whose first
// fixed rows and columns are those of a unit.
func everyTable(n, fixed, least, end int64, visit func(rows [][]int64)) {
	rows := tableBy(n, func(i, j int64) int64 {
		if min(i, j) < fixed {
			return i + j
		}
		return least
	})
	for {
		visit(rows)
		i, j := n-1, n-1
		for i >= fixed && rows[i][j] == end-1 {
			rows[i][j] = least
			if j--; j < fixed {
				i, j = i-1, n-1
			}
		}
		if i < fixed {
			return
		}
		rows[i][j]++
	}
}

func TestEverySmallTable(t *testing.T) {
	tests := []struct {
		n, fixed, least, end int64
		tables, groups       int
	}{
		{1, 0, -2, 3, 5, 1},
		{2, 0, -1, 3, 256, 1},
		{3, 0, 0, 3, 19683, 1},
		{3, 1, -1, 4, 625, 1},
		{4, 1, 0, 4, 262144, 4},
	}
	for _, x := range tests {
		tables, groups := 0, 0
		everyTable(x.n, x.fixed, x.least, x.end, func(rows [][]int64) {
			tables++
			if checkGroupTable(t, rows) {
				groups++
			}
		})
		if tables != x.tables || groups != x.groups {
			t.Errorf("of the size %d there are %d tables with %d groups", x.n, tables, groups)
		}
	}
}

func TestGroupTablesAndChangedOnes(t *testing.T) {
	for _, table := range groupTables() {
		if !checkGroupTable(t, table) {
			t.Errorf("sample %v is no group table", table)
		}
		n := int64(len(table))
		for i := range n {
			for j := range n {
				for x := int64(-1); x <= n; x++ {
					rows := copyOfTable(table)
					rows[i][j] = x
					if checkGroupTable(t, rows) != (x == table[i][j]) {
						t.Errorf("%v with %d at %d, %d", table, x, i, j)
					}
				}
			}
		}
	}
}

func TestTablesThatAreNone(t *testing.T) {
	for _, x := range badTables() {
		if checkGroupTable(t, x.rows) {
			t.Errorf("%s: sample %v is a group table", x.name, x.rows)
		}
		if got, code := impl.IsAbelianTable(x.rows); got || code != impl.ErrInvalid {
			t.Errorf("%s: IsAbelianTable(%v) = %v, %d", x.name, x.rows, got, code)
		}
		if got, code := impl.OrdersIn(x.rows); len(got) != 0 || code != impl.ErrInvalid {
			t.Errorf("%s: OrdersIn(%v) = %v, %d", x.name, x.rows, got, code)
		}
		for _, p := range primes() {
			if got, code := impl.GroupHopf(p, x.rows); got != (impl.Hopf{}) || code != impl.ErrInvalid {
				t.Errorf("%s: GroupHopf(%d, %v) = %v, %d", x.name, p, x.rows, got, code)
			}
			if got, code := impl.FunctionsHopf(p, x.rows); got != (impl.Hopf{}) || code != impl.ErrInvalid {
				t.Errorf("%s: FunctionsHopf(%d, %v) = %v, %d", x.name, p, x.rows, got, code)
			}
		}
	}
}

func TestAbelianTables(t *testing.T) {
	var s numbers
	for name, table := range someTables() {
		want := name != "dihedral3" && name != "dihedral4" && name != "quaternion"
		for range 5 {
			if got, code := impl.IsAbelianTable(table); got != want || code != impl.ErrNone {
				t.Errorf("IsAbelianTable of %s, %v, = %v, %d", name, table, got, code)
			}
			table = relabelled(table, &s)
		}
	}
}

func TestProductsOfTablesThatAreKnown(t *testing.T) {
	two, three := [][]int64{{0, 1}, {1, 0}}, [][]int64{{0, 1, 2}, {1, 2, 0}, {2, 0, 1}}
	got, code := impl.ProductOfTables(two, two)
	checkTable(t, "ProductOfTables of 2 and 2", got, code, [][]int64{{0, 1, 2, 3}, {1, 0, 3, 2}, {2, 3, 0, 1}, {3, 2, 1, 0}})
	got, code = impl.ProductOfTables(two, three)
	checkTable(t, "ProductOfTables of 2 and 3", got, code, [][]int64{
		{0, 1, 2, 3, 4, 5}, {1, 2, 0, 4, 5, 3}, {2, 0, 1, 5, 3, 4}, {3, 4, 5, 0, 1, 2}, {4, 5, 3, 1, 2, 0}, {5, 3, 4, 2, 0, 1},
	})
	got, code = impl.ProductOfTables(three, two)
	checkTable(t, "ProductOfTables of 3 and 2", got, code, [][]int64{
		{0, 1, 2, 3, 4, 5}, {1, 0, 3, 2, 5, 4}, {2, 3, 4, 5, 0, 1}, {3, 2, 5, 4, 1, 0}, {4, 5, 0, 1, 2, 3}, {5, 4, 1, 0, 3, 2},
	})
	got, code = impl.ProductOfTables([][]int64{{0}}, [][]int64{{0}})
	checkTable(t, "ProductOfTables of 1 and 1", got, code, [][]int64{{0}})
}

func TestProductsOfAllTables(t *testing.T) {
	sizes := map[int]int{}
	for _, table := range groupTables() {
		for _, other := range groupTables() {
			n, m := int64(len(table)), int64(len(other))
			got, code := impl.ProductOfTables(table, other)
			sizes[int(n*m)]++
			if n*m > 8 {
				if len(got) != 0 || code != impl.ErrLimit {
					t.Errorf("ProductOfTables of %d and %d: %v, %d", n, m, got, code)
				}
				continue
			}
			checkTable(t, "ProductOfTables", got, code, tableBy(n*m, func(i, j int64) int64 {
				return m*table[i/m][j/m] + other[i%m][j%m]
			}))
		}
	}
	for _, size := range []int{1, 2, 3, 4, 5, 6, 7, 8, 9, 10, 12, 64} {
		if sizes[size] == 0 {
			t.Errorf("no product has the size %d", size)
		}
	}
}

// A size that is too great comes behind what is no group table.
func TestProductsOfTablesThatAreNone(t *testing.T) {
	for _, x := range badTables() {
		for _, good := range [][][]int64{{{0}}, tableIn(cyclic(2, 2)), tableIn(dihedral(2, 4))} {
			for _, pair := range [][2][][]int64{{x.rows, good}, {good, x.rows}, {x.rows, x.rows}} {
				if got, code := impl.ProductOfTables(pair[0], pair[1]); len(got) != 0 || code != impl.ErrInvalid {
					t.Errorf("%s: ProductOfTables(%v, %v) = %v, %d", x.name, pair[0], pair[1], got, code)
				}
			}
		}
	}
}

func TestProductsOfTablesAreNewMemory(t *testing.T) {
	one := [][]int64{{0}}
	for _, table := range groupTables() {
		want := copyOfTable(table)
		for _, pair := range [][2][][]int64{{one, table}, {table, one}} {
			got, _ := impl.ProductOfTables(pair[0], pair[1])
			for i := range got {
				for j := range got[i] {
					got[i][j] = -1
				}
			}
			if !sameTables(table, want) || !sameTables(one, [][]int64{{0}}) {
				t.Fatalf("ProductOfTables shares memory with %v", pair)
			}
		}
	}
}

func TestOrdersThatAreKnownInTables(t *testing.T) {
	want := map[string][]int64{
		"cyclic1": {1}, "cyclic2": {1, 2}, "cyclic3": {1, 3, 3}, "cyclic4": {1, 4, 2, 4}, "cyclic5": {1, 5, 5, 5, 5},
		"cyclic6": {1, 6, 3, 2, 3, 6}, "cyclic7": {1, 7, 7, 7, 7, 7, 7}, "cyclic8": {1, 8, 4, 8, 2, 8, 4, 8},
		"klein": {1, 2, 2, 2}, "dihedral3": {1, 3, 3, 2, 2, 2}, "dihedral4": {1, 4, 2, 4, 2, 2, 2, 2},
		"quaternion": {1, 4, 4, 4, 2, 4, 4, 4},
	}
	for name, table := range someTables() {
		if got, code := impl.OrdersIn(table); !slices.Equal(got, want[name]) || code != impl.ErrNone {
			t.Errorf("OrdersIn of %s = %v, %d", name, got, code)
		}
	}
}

func TestOrdersInTables(t *testing.T) {
	for _, table := range groupTables() {
		want := make([]int64, len(table))
		for i := range want {
			for k := int64(1); want[i] == 0; k++ {
				power := int64(0)
				for range k {
					power = table[power][i]
				}
				if power == 0 {
					want[i] = k
				}
			}
		}
		if got, code := impl.OrdersIn(table); !slices.Equal(got, want) || code != impl.ErrNone {
			t.Errorf("OrdersIn(%v) = %v, %d", table, got, code)
		}
	}
}

func TestGroupAlgebrasAndFunctionsAreHopfAlgebras(t *testing.T) {
	for _, table := range groupTables() {
		for _, p := range primes() {
			want := groupHopf(algebraOfTable(p, table))
			group, code := impl.GroupHopf(p, table)
			if group != want || code != impl.ErrNone || !impl.IsHopf(group) {
				t.Errorf("GroupHopf(%d, %v) = %v, %d", p, table, group, code)
			}
			functions, code := impl.FunctionsHopf(p, table)
			if functions != plainDualHopf(want) || code != impl.ErrNone || !impl.IsHopf(functions) {
				t.Errorf("FunctionsHopf(%d, %v) = %v, %d", p, table, functions, code)
			}
		}
	}
}

func TestHopfAlgebrasOfTablesThatAreKnown(t *testing.T) {
	three := [][]int64{{0, 1, 2}, {1, 2, 0}, {2, 0, 1}}
	want := impl.Hopf{
		Prime: 2, Size: 3, Unit: impl.Vector{1}, Counit: impl.Vector{1, 1, 1},
		Mul: impl.Table{
			{{1}, {0, 1}, {0, 0, 1}}, {{0, 1}, {0, 0, 1}, {1}}, {{0, 0, 1}, {1}, {0, 1}},
		},
		Com:      impl.Table{{{1}}, {1: {0, 1}}, {2: {0, 0, 1}}},
		Antipode: impl.Linear{{1}, {0, 0, 1}, {0, 1}},
	}
	if got, code := impl.GroupHopf(2, three); got != want || code != impl.ErrNone {
		t.Errorf("GroupHopf = %v, %d", got, code)
	}
	want = impl.Hopf{
		Prime: 31, Size: 3, Unit: impl.Vector{1, 1, 1}, Counit: impl.Vector{1},
		Mul: impl.Table{{{1}}, {1: {0, 1}}, {2: {0, 0, 1}}},
		Com: impl.Table{
			{{1}, {0, 0, 1}, {0, 1}}, {{0, 1}, {1}, {0, 0, 1}}, {{0, 0, 1}, {0, 1}, {1}},
		},
		Antipode: impl.Linear{{1}, {0, 0, 1}, {0, 1}},
	}
	if got, code := impl.FunctionsHopf(31, three); got != want || code != impl.ErrNone {
		t.Errorf("FunctionsHopf = %v, %d", got, code)
	}
}

// commutes returns whether a Hopf algebra is commutative, and whether it is cocommutative.
func commutes(t *testing.T, h impl.Hopf) (bool, bool) {
	t.Helper()
	a, code := impl.AlgebraOf(h)
	c, other := impl.CoalgebraOf(h)
	commutative, first := impl.IsCommutative(a)
	cocommutative, second := impl.IsCocommutative(c)
	if code != impl.ErrNone || other != impl.ErrNone || first != impl.ErrNone || second != impl.ErrNone {
		t.Errorf("%v: codes %d, %d, %d, %d", h, code, other, first, second)
	}
	return commutative, cocommutative
}

func TestFunctionsAreCommutativeAndGroupAlgebrasCocommutative(t *testing.T) {
	for _, table := range groupTables() {
		abelian, _ := impl.IsAbelianTable(table)
		for _, p := range []int64{2, 3, 31} {
			group, _ := impl.GroupHopf(p, table)
			if commutative, cocommutative := commutes(t, group); commutative != abelian || !cocommutative {
				t.Errorf("GroupHopf(%d, %v): %v, %v", p, table, commutative, cocommutative)
			}
			functions, _ := impl.FunctionsHopf(p, table)
			if commutative, cocommutative := commutes(t, functions); !commutative || cocommutative != abelian {
				t.Errorf("FunctionsHopf(%d, %v): %v, %v", p, table, commutative, cocommutative)
			}
		}
	}
}

// Promise 13: the group-like vectors are the basis, and multiply by the table.
func TestGroupAlgebrasHaveTheGroupAsGroupLikeVectors(t *testing.T) {
	all := 0
	for _, table := range groupTables() {
		for _, p := range primes() {
			h, _ := impl.GroupHopf(p, table)
			c, _ := impl.CoalgebraOf(h)
			var want []impl.Vector
			for i := h.Size - 1; i >= 0; i-- {
				want = append(want, basis(i))
			}
			got, code := impl.GroupLikes(c)
			if code == impl.ErrNone {
				all++
			}
			// Group-like vectors are independent, so that there are no more than the basis has.
			if code == impl.ErrLimit {
				got = groupLikesAmong(t, c, want)
			}
			if !slices.Equal(got, want) {
				t.Errorf("the group-like vectors of GroupHopf(%d, %v) are %v, %d", p, table, got, code)
			}
			checkProductsOfGroup(t, h, table)
		}
	}
	if all < 100 {
		t.Errorf("all group-like vectors are looked for in %d group algebras alone", all)
	}
}

func groupLikesAmong(t *testing.T, c impl.Coalgebra, list []impl.Vector) []impl.Vector {
	t.Helper()
	var found []impl.Vector
	for _, v := range list {
		ok, code := impl.IsGroupLike(c, v)
		if code != impl.ErrNone {
			t.Errorf("IsGroupLike(%v, %v): code %d", c, v, code)
		}
		if ok {
			found = append(found, v)
		}
	}
	return found
}

func checkProductsOfGroup(t *testing.T, h impl.Hopf, table [][]int64) {
	t.Helper()
	a, _ := impl.AlgebraOf(h)
	for i := range table {
		for j, k := range table[i] {
			if got, code := impl.MultiplyVectors(a, basis(int64(i)), basis(int64(j))); got != basis(k) || code != impl.ErrNone {
				t.Errorf("%d and %d of %v give %v, %d", i, j, table, got, code)
			}
		}
	}
}

// What is no prime comes ahead of what is no group table.
func TestGroupAlgebrasOfNoPrimes(t *testing.T) {
	tables := groupTables()
	for _, x := range badTables() {
		tables = append(tables, x.rows)
	}
	for _, table := range tables {
		for _, p := range noPrimes() {
			if got, code := impl.GroupHopf(p, table); got != (impl.Hopf{}) || code != impl.ErrRange {
				t.Errorf("GroupHopf(%d, %v) = %v, %d", p, table, got, code)
			}
			if got, code := impl.FunctionsHopf(p, table); got != (impl.Hopf{}) || code != impl.ErrRange {
				t.Errorf("FunctionsHopf(%d, %v) = %v, %d", p, table, got, code)
			}
		}
	}
}

// hidden lays rows before a spare number each, and before a spare row.
func hidden(table [][]int64) [][]int64 {
	rows := make([][]int64, 0, len(table)+1)
	for _, row := range table {
		rows = append(rows, append(slices.Clone(row), 77)[:len(row)])
	}
	return append(rows, []int64{88})[:len(table)]
}

func TestTablesAreNotChanged(t *testing.T) {
	tables := groupTables()
	for _, x := range badTables() {
		tables = append(tables, x.rows)
	}
	for _, table := range tables {
		rows, other := hidden(table), hidden(table)
		impl.IsGroupTable(rows)
		impl.IsAbelianTable(rows)
		impl.ProductOfTables(rows, [][]int64{{0}})
		impl.ProductOfTables([][]int64{{0}}, rows)
		impl.ProductOfTables(rows, other)
		impl.OrdersIn(rows)
		impl.GroupHopf(3, rows)
		impl.FunctionsHopf(3, rows)
		for _, list := range [][][]int64{rows, other} {
			if !sameTables(list, table) || !slices.Equal(list[:len(table)+1][len(table)], []int64{88}) {
				t.Fatalf("%v becomes %v", table, list)
			}
			for i, row := range list {
				if row[:len(row)+1][len(row)] != 77 {
					t.Fatalf("the capacity behind the row %d of %v is changed", i, table)
				}
			}
		}
	}
}

func TestLines(t *testing.T) {
	for _, p := range []int64{2, 3, 5, 7} {
		for k := range p {
			got, code := impl.LineHopf(p, k)
			isNewHopf(t, "LineHopf", got, code)
			if got != lineHopf(p, k) {
				t.Errorf("LineHopf(%d, %d) = %v", p, k, got)
			}
			checkLine(t, got, p, k)
		}
	}
}

// checkLine sees that e(i) is the power i of x, that x to the power p is k x, and x primitive.
func checkLine(t *testing.T, h impl.Hopf, p, k int64) {
	t.Helper()
	a, _ := impl.AlgebraOf(h)
	for i := range p {
		if got, code := impl.PowerOf(a, basis(1), i); got != basis(i) || code != impl.ErrNone {
			t.Errorf("line of %d and %d: the power %d is %v, %d", p, k, i, got, code)
		}
	}
	if got, code := impl.PowerOf(a, basis(1), p); got != (impl.Vector{0, byte(k)}) || code != impl.ErrNone {
		t.Errorf("line of %d and %d: the power %d is %v, %d", p, k, p, got, code)
	}
	c, _ := impl.CoalgebraOf(h)
	if got, code := impl.PrimitiveSpace(c, h.Unit, h.Unit); !slices.Equal(got, []impl.Vector{{0, 1}}) || code != impl.ErrNone {
		t.Errorf("line of %d and %d: primitive are %v, %d", p, k, got, code)
	}
	if h.Unit != basis(0) || h.Counit != basis(0) || h.Antipode[1] != (impl.Vector{0, byte(p - 1)}) {
		t.Errorf("line of %d and %d: %v", p, k, h)
	}
}

func TestLinesThatAreKnown(t *testing.T) {
	want := impl.Hopf{
		Prime: 2, Size: 2, Unit: impl.Vector{1}, Counit: impl.Vector{1},
		Mul: impl.Table{{{1}, {0, 1}}, {{0, 1}, {0, 1}}}, Com: impl.Table{{{1}}, {{0, 1}, {1}}}, Antipode: impl.Linear{{1}, {0, 1}},
	}
	if got, code := impl.LineHopf(2, 1); got != want || code != impl.ErrNone {
		t.Errorf("LineHopf(2, 1) = %v, %d", got, code)
	}
	want.Mul[1][1] = impl.Vector{}
	if got, code := impl.LineHopf(2, 0); got != want || code != impl.ErrNone {
		t.Errorf("LineHopf(2, 0) = %v, %d", got, code)
	}
	want = impl.Hopf{
		Prime: 3, Size: 3, Unit: impl.Vector{1}, Counit: impl.Vector{1},
		Mul:      impl.Table{{{1}, {0, 1}, {0, 0, 1}}, {{0, 1}, {0, 0, 1}, {0, 2}}, {{0, 0, 1}, {0, 2}, {0, 0, 2}}},
		Com:      impl.Table{{{1}}, {{0, 1}, {1}}, {{0, 0, 1}, {0, 2}, {1}}},
		Antipode: impl.Linear{{1}, {0, 2}, {0, 0, 1}},
	}
	if got, code := impl.LineHopf(3, 2); got != want || code != impl.ErrNone {
		t.Errorf("LineHopf(3, 2) = %v, %d", got, code)
	}
}

func TestLinesThatAreNone(t *testing.T) {
	for _, p := range append(noPrimes(), 11, 13, 17, 19, 23, 29, 31) {
		for _, k := range []int64{-1, 0, 1, 5, p - 1, p, math.MaxInt64} {
			if got, code := impl.LineHopf(p, k); got != (impl.Hopf{}) || code != impl.ErrRange {
				t.Errorf("LineHopf(%d, %d) = %v, %d", p, k, got, code)
			}
		}
	}
	for _, p := range []int64{2, 3, 5, 7} {
		for _, k := range []int64{math.MinInt64, -p, -1, p, p + 1, 2 * p, 256, 1 << 32, math.MaxInt64} {
			if got, code := impl.LineHopf(p, k); got != (impl.Hopf{}) || code != impl.ErrRange {
				t.Errorf("LineHopf(%d, %d) = %v, %d", p, k, got, code)
			}
		}
	}
}

// checkSkew sees what the document tells of the products, coproducts and S of g and x, that is e(at).
func checkSkew(t *testing.T, h impl.Hopf, at int64) {
	t.Helper()
	minus := byte(h.Prime - 1)
	g, x, gx := basis(1), basis(at), basis(at+1)
	var lessGX impl.Vector
	lessGX[at+1] = minus
	products := []struct{ v, w, want impl.Vector }{
		{g, g, basis(0)}, {x, x, impl.Vector{}}, {g, x, gx}, {x, g, lessGX},
	}
	a, _ := impl.AlgebraOf(h)
	for _, y := range products {
		if got, code := impl.MultiplyVectors(a, y.v, y.w); got != y.want || code != impl.ErrNone {
			t.Errorf("modulo %d the product of %v and %v is %v, %d", h.Prime, y.v, y.w, got, code)
		}
	}
	var ofX impl.Linear
	ofX[1][at], ofX[at][0] = 1, 1
	if h.Com[1] != (impl.Linear{1: g}) || h.Com[at] != ofX {
		t.Errorf("modulo %d the coproducts are %v and %v", h.Prime, h.Com[1], h.Com[at])
	}
	if h.Unit != basis(0) || h.Counit != (impl.Vector{1, 1}) {
		t.Errorf("modulo %d Unit and Counit are %v and %v", h.Prime, h.Unit, h.Counit)
	}
	if h.Antipode[1] != g || h.Antipode[at] != lessGX {
		t.Errorf("modulo %d S gives %v and %v", h.Prime, h.Antipode[1], h.Antipode[at])
	}
}

func TestSweedlersAndTheDoubleHopfAlgebra(t *testing.T) {
	for _, p := range primes()[1:] {
		small, code := impl.SweedlerHopf(p)
		isNewHopf(t, "SweedlerHopf", small, code)
		if small != sweedlerHopf(p) {
			t.Errorf("SweedlerHopf(%d) = %v", p, small)
		}
		checkSkew(t, small, 2)
		double, code := impl.DoubleHopf(p)
		isNewHopf(t, "DoubleHopf", double, code)
		if double != doubleHopf(p) {
			t.Errorf("DoubleHopf(%d) = %v", p, double)
		}
		checkSkew(t, double, 2)
		checkSkew(t, double, 4)
	}
}

func TestSweedlersLiesInTheDoubleOne(t *testing.T) {
	for _, p := range []int64{3, 5, 31} {
		small, _ := impl.SweedlerHopf(p)
		double, _ := impl.DoubleHopf(p)
		for _, at := range []int64{2, 4} {
			f := impl.Linear{basis(0), basis(1), basis(at), basis(at + 1)}
			if ok, code := impl.IsHopfMap(small, double, f); !ok || code != impl.ErrNone {
				t.Errorf("modulo %d, %d: %v, %d", p, at, ok, code)
			}
		}
	}
}

func TestBasisOfTheDoubleHopfAlgebra(t *testing.T) {
	for _, p := range []int64{3, 5, 31} {
		h, _ := impl.DoubleHopf(p)
		a, minus := algebraIn(h), byte(p-1)
		words := []struct {
			factors []int64
			want    impl.Vector
		}{
			{[]int64{1, 2}, basis(3)}, {[]int64{1, 4}, basis(5)}, {[]int64{2, 4}, basis(6)}, {[]int64{1, 2, 4}, basis(7)},
			{[]int64{4, 2}, impl.Vector{6: minus}}, {[]int64{4, 2, 1}, impl.Vector{7: minus}}, {[]int64{2, 4, 1}, basis(7)},
			{[]int64{2, 4, 2}, impl.Vector{}}, {[]int64{4, 1, 4}, impl.Vector{}}, {[]int64{1, 4, 1}, impl.Vector{4: minus}},
		}
		for _, x := range words {
			got := basis(0)
			for _, i := range x.factors {
				got, _ = impl.MultiplyVectors(a, got, basis(i))
			}
			if got != x.want {
				t.Errorf("modulo %d the word %v is %v", p, x.factors, got)
			}
		}
		// (g (x) x + x (x) 1) (g (x) y + y (x) 1) is 1 (x) xy + gy (x) x - gx (x) y + xy (x) 1.
		if want := (impl.Linear{0: basis(6), 3: {4: minus}, 5: basis(2), 6: basis(0)}); h.Com[6] != want {
			t.Errorf("modulo %d the coproduct of x y is %v", p, h.Com[6])
		}
		// S(xy) = S(y) S(x) = (-gy) (-gx) = g y g x = - y x = x y.
		if h.Antipode[6] != basis(6) {
			t.Errorf("modulo %d S of x y is %v", p, h.Antipode[6])
		}
	}
}

func TestSweedlersAndTheDoubleOneOfNoPrimes(t *testing.T) {
	for _, p := range append(noPrimes(), 2) {
		if got, code := impl.SweedlerHopf(p); got != (impl.Hopf{}) || code != impl.ErrRange {
			t.Errorf("SweedlerHopf(%d) = %v, %d", p, got, code)
		}
		if got, code := impl.DoubleHopf(p); got != (impl.Hopf{}) || code != impl.ErrRange {
			t.Errorf("DoubleHopf(%d) = %v, %d", p, got, code)
		}
	}
}

func allNames() []string {
	return []string{
		"cyclic1", "cyclic2", "cyclic3", "cyclic4", "cyclic5", "cyclic6", "cyclic7", "cyclic8",
		"dihedral3", "dihedral4", "double", "klein", "line",
		"on-cyclic1", "on-cyclic2", "on-cyclic3", "on-cyclic4", "on-cyclic5", "on-cyclic6", "on-cyclic7", "on-cyclic8",
		"on-dihedral3", "on-dihedral4", "on-klein", "on-quaternion",
		"quaternion", "split", "sweedler",
	}
}

func TestKnownNames(t *testing.T) {
	for range 3 {
		got := impl.KnownNames()
		if !slices.Equal(got, allNames()) || !slices.IsSorted(got) {
			t.Errorf("KnownNames() = %v", got)
		}
		clear(got)
	}
}

// Promise 4: each name gives a Hopf algebra for each prime, or is none for it.
func TestEveryNameWithEveryPrime(t *testing.T) {
	for _, p := range primes() {
		known := knownOnes(p)
		for _, name := range allNames() {
			got, code := impl.KnownHopf(name, p)
			want, ok := known[name]
			if !ok {
				if got != (impl.Hopf{}) || code != impl.ErrRange {
					t.Errorf("KnownHopf(%s, %d) = %v, %d", name, p, got, code)
				}
				continue
			}
			if got != want || code != impl.ErrNone || !impl.IsHopf(got) {
				t.Errorf("KnownHopf(%s, %d) = %v, %d, not %v", name, p, got, code, want)
			}
		}
	}
}

func TestKnownHopfAlgebrasFulfilAllAxioms(t *testing.T) {
	for _, name := range allNames() {
		for _, p := range []int64{2, 3, 5, 7, 31} {
			if h, code := impl.KnownHopf(name, p); code == impl.ErrNone {
				isNewHopf(t, name, h, code)
			}
		}
	}
}

func TestNamesThatAreNoneForPrimes(t *testing.T) {
	tests := []struct {
		name string
		p    int64
		want int64
	}{
		{"line", 2, impl.ErrNone}, {"line", 7, impl.ErrNone}, {"line", 11, impl.ErrRange}, {"line", 31, impl.ErrRange},
		{"split", 2, impl.ErrNone}, {"split", 7, impl.ErrNone}, {"split", 11, impl.ErrRange}, {"split", 31, impl.ErrRange},
		{"sweedler", 2, impl.ErrRange}, {"sweedler", 3, impl.ErrNone}, {"sweedler", 31, impl.ErrNone},
		{"double", 2, impl.ErrRange}, {"double", 3, impl.ErrNone}, {"double", 31, impl.ErrNone},
		{"cyclic8", 2, impl.ErrNone}, {"on-cyclic8", 2, impl.ErrNone}, {"quaternion", 31, impl.ErrNone},
	}
	for _, x := range tests {
		if got, code := impl.KnownHopf(x.name, x.p); code != x.want || (got != impl.Hopf{}) != (code == impl.ErrNone) {
			t.Errorf("KnownHopf(%s, %d) = %v, %d", x.name, x.p, got, code)
		}
	}
	for _, name := range allNames() {
		for _, p := range noPrimes() {
			if got, code := impl.KnownHopf(name, p); got != (impl.Hopf{}) || code != impl.ErrRange {
				t.Errorf("KnownHopf(%s, %d) = %v, %d", name, p, got, code)
			}
		}
	}
}

// A name that is none comes ahead of what is no prime.
func TestNamesThatAreNone(t *testing.T) {
	names := []string{
		"", " ", "-", "on", "on-", "on-on-cyclic1", "on-line", "on-split", "on-sweedler", "on-double", "cyclic", "cyclic0", "cyclic9",
		"cyclic10", "cyclic01", "cyclic-1", "cyclic 1", "cyclic1 ", " cyclic1", "Cyclic1", "CYCLIC1", "cyclic1\x00", "cyclic1\n",
		"dihedral", "dihedral2", "dihedral5", "dihedral34", "klein4", "kleine", "quaternions", "Line", "line0", "splits", "sweedler4",
		"double8", "on_cyclic1", "ON-cyclic1", "oncyclic1", "\xff", "é",
	}
	for _, name := range names {
		for _, p := range append(noPrimes(), primes()...) {
			if got, code := impl.KnownHopf(name, p); got != (impl.Hopf{}) || code != impl.ErrNotFound {
				t.Errorf("KnownHopf(%q, %d) = %v, %d", name, p, got, code)
			}
		}
	}
}
