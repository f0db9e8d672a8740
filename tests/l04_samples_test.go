package tests

import (
	"fmt"
	"math"
	"slices"

	"loop.example/g01230/impl"
)

// tableIn takes the table out of the group algebra of a group.
func tableIn(a impl.Algebra) [][]int64 {
	table := make([][]int64, a.Size)
	for i := range a.Size {
		for j := range a.Size {
			product := a.Mul[i][j]
			table[i] = append(table[i], int64(slices.Index(product[:], 1)))
		}
	}
	return table
}

func algebraOfTable(p int64, table [][]int64) impl.Algebra {
	return groupAlgebra(p, int64(len(table)), func(i, j int64) int64 { return table[i][j] })
}

// someTables has all group tables with names by these.
func someTables() map[string][][]int64 {
	tables := map[string][][]int64{
		"klein":      {{0, 1, 2, 3}, {1, 0, 3, 2}, {2, 3, 0, 1}, {3, 2, 1, 0}},
		"dihedral3":  tableIn(dihedral(2, 3)),
		"dihedral4":  tableIn(dihedral(2, 4)),
		"quaternion": tableIn(quaternionGroup(2)),
	}
	for n := int64(1); n <= 8; n++ {
		tables[fmt.Sprint("cyclic", n)] = tableIn(cyclic(2, n))
	}
	return tables
}

// relabelled has other numbers for the same group, but for the unit.
func relabelled(table [][]int64, s *numbers) [][]int64 {
	n := int64(len(table))
	name := make([]int64, n)
	for i := range n {
		name[i] = i
	}
	for i := n - 1; i > 1; i-- {
		j := 1 + s.below(i)
		name[i], name[j] = name[j], name[i]
	}
	other := copyOfTable(table)
	for i := range table {
		for j := range table {
			other[name[i]][name[j]] = name[table[i][j]]
		}
	}
	return other
}

// groupTables are the ones with names, and others for the same groups.
func groupTables() [][][]int64 {
	var s numbers
	var list [][][]int64
	for _, name := range tableNames() {
		table := someTables()[name]
		list = append(list, table)
		for range 3 {
			list = append(list, relabelled(table, &s))
		}
	}
	return append(list, [][]int64{
		{0, 1, 2, 3, 4, 5, 6, 7}, {1, 0, 3, 2, 5, 4, 7, 6}, {2, 3, 0, 1, 6, 7, 4, 5}, {3, 2, 1, 0, 7, 6, 5, 4},
		{4, 5, 6, 7, 0, 1, 2, 3}, {5, 4, 7, 6, 1, 0, 3, 2}, {6, 7, 4, 5, 2, 3, 0, 1}, {7, 6, 5, 4, 3, 2, 1, 0},
	})
}

func tableNames() []string {
	return []string{
		"cyclic1", "cyclic2", "cyclic3", "cyclic4", "cyclic5", "cyclic6", "cyclic7", "cyclic8",
		"dihedral3", "dihedral4", "klein", "quaternion",
	}
}

func copyOfTable(table [][]int64) [][]int64 {
	rows := make([][]int64, len(table))
	for i, row := range table {
		rows[i] = slices.Clone(row)
	}
	return rows
}

func sameTables(table, other [][]int64) bool {
	return slices.EqualFunc(table, other, slices.Equal[[]int64])
}

// plainGroupTable checks each condition by its definition.
func plainGroupTable(table [][]int64) bool {
	n := int64(len(table))
	if n < 1 || n > 8 {
		return false
	}
	for _, row := range table {
		if int64(len(row)) != n {
			return false
		}
		for _, x := range row {
			if x < 0 || x > n-1 {
				return false
			}
		}
	}
	for i := range n {
		inverse := false
		for j := range n {
			inverse = inverse || table[i][j] == 0 && table[j][i] == 0
			for k := range n {
				if table[table[i][j]][k] != table[i][table[j][k]] {
					return false
				}
			}
		}
		if !inverse || table[0][i] != i || table[i][0] != i {
			return false
		}
	}
	return true
}

// badTable has a name, and rows that are no group table.
type badTable struct {
	name string
	rows [][]int64
}

// tableBy has the products of a rule, whatever these are.
func tableBy(n int64, times func(i, j int64) int64) [][]int64 {
	table := make([][]int64, n)
	for i := range n {
		for j := range n {
			table[i] = append(table[i], times(i, j))
		}
	}
	return table
}

// shapelessTables have not as many numbers in each row as rows, or not as many rows as told.
func shapelessTables() []badTable {
	sum := func(n int64) func(i, j int64) int64 { return func(i, j int64) int64 { return (i + j) % n } }
	list := []badTable{
		{"nil", nil},
		{"no rows", [][]int64{}},
		{"one row of none", [][]int64{{}}},
		{"one row of nil", [][]int64{nil}},
		{"one row of two", [][]int64{{0, 0}}},
		{"two rows of one", [][]int64{{0}, {0}}},
		{"two rows of none", [][]int64{{}, {}}},
		{"a short row at the start", [][]int64{{0}, {1, 0}}},
		{"a short row at the end", [][]int64{{0, 1}, {1}}},
		{"a long row at the start", [][]int64{{0, 1, 0}, {1, 0}}},
		{"a long row at the end", [][]int64{{0, 1}, {1, 0, 1}}},
		{"a row that is missing", [][]int64{{0, 1, 2}, {1, 2, 0}}},
		{"a row that is nil", [][]int64{{0, 1, 2}, nil, {2, 0, 1}}},
		{"9 rows of 8", append(tableBy(8, sum(8)), make([]int64, 8))},
		{"8 rows of 9", tableBy(9, sum(9))[:8]},
		{"7 rows of 8", tableBy(8, sum(8))[:7]},
	}
	for _, n := range []int64{9, 10, 16, 31} {
		list = append(list, badTable{fmt.Sprint("a group of ", n), tableBy(n, sum(n))})
	}
	return list
}

// tablesWithBadNumbers have a number that is none for their size.
func tablesWithBadNumbers() []badTable {
	var list []badTable
	for _, n := range []int64{1, 2, 3, 8} {
		for _, x := range []int64{-1, n, -n, n + 1<<32, math.MinInt64, math.MaxInt64} {
			for _, at := range [][2]int64{{0, 0}, {0, n - 1}, {n - 1, 0}, {n - 1, n - 1}} {
				rows := tableIn(cyclic(2, n))
				rows[at[0]][at[1]] = x
				list = append(list, badTable{fmt.Sprint(x, " at ", at, " of ", n), rows})
			}
		}
	}
	return list
}

// brokenTables have the form of a group table, but are none.
func brokenTables() []badTable {
	list := []badTable{
		// All other conditions hold, and each number is its own inverse.
		{"not associative", [][]int64{{0, 1, 2, 3, 4}, {1, 0, 3, 4, 2}, {2, 4, 0, 1, 3}, {3, 2, 4, 0, 1}, {4, 3, 1, 2, 0}}},
	}
	for _, n := range []int64{3, 5, 8} {
		list = append(list,
			badTable{"another unit", tableBy(n, func(i, j int64) int64 { return (i + j + 1) % n })},
			badTable{"0 from the left alone", tableBy(n, func(i, j int64) int64 { return j })},
			badTable{"0 from the right alone", tableBy(n, func(i, j int64) int64 { return i })},
			badTable{"0 alone", tableBy(n, func(i, j int64) int64 { return 0 })},
			badTable{"the greater number", tableBy(n, func(i, j int64) int64 { return max(i, j) })},
			badTable{"the lesser number", tableBy(n, func(i, j int64) int64 { return min(i, j) })},
			badTable{"products modulo n", tableBy(n, func(i, j int64) int64 { return i * j % n })},
			badTable{"differences", tableBy(n, func(i, j int64) int64 { return (i + (n-1)*j) % n })},
			badTable{"sums up to an end", tableBy(n, func(i, j int64) int64 { return min(i+j, n-1) })},
		)
	}
	lone := func(i, j int64) int64 {
		if i == 0 || j == 0 {
			return i + j
		}
		if i == 7 || j == 7 {
			return 7
		}
		return (i + j) % 7
	}
	return append(list, badTable{"one number without an inverse", tableBy(8, lone)})
}

func badTables() []badTable {
	return slices.Concat(shapelessTables(), tablesWithBadNumbers(), brokenTables())
}

// knownOnes has what KnownHopf has to return for a prime, by names.
func knownOnes(p int64) map[string]impl.Hopf {
	known := map[string]impl.Hopf{}
	for name, table := range someTables() {
		h := groupHopf(algebraOfTable(p, table))
		known[name], known["on-"+name] = h, plainDualHopf(h)
	}
	if p <= 7 {
		known["line"], known["split"] = lineHopf(p, 0), lineHopf(p, 1)
	}
	if p > 2 {
		known["sweedler"], known["double"] = sweedlerHopf(p), doubleHopf(p)
	}
	return known
}

func primes() []int64 {
	return []int64{2, 3, 5, 7, 11, 13, 17, 19, 23, 29, 31}
}

func noPrimes() []int64 {
	return []int64{math.MinInt64, -31, -2, -1, 0, 1, 4, 6, 8, 9, 15, 21, 25, 27, 30, 32, 33, 37, 2 + 1<<32, 1<<61 - 1, math.MaxInt64}
}
