package tests

import (
	"math"
	"slices"
	"sync"
	"testing"

	"loop.example/discretetomography/impl"
)

// tally has the number of images with the same sums, and for each cell, row by row, the number of those in which it is set.
type tally struct {
	many  int
	cells []int
}

// cellsMost is the greatest number of cells of images that are counted.
const cellsMost = 16

// countedShapes returns the shapes of at most CellsMax cells, and uncountedShapes all others.
func countedShapes() []shape {
	return slices.DeleteFunc(allShapes(), func(s shape) bool { return s.h*s.w > cellsMost })
}

func uncountedShapes() []shape {
	return slices.DeleteFunc(allShapes(), func(s shape) bool { return s.h*s.w <= cellsMost })
}

// tallies has a tally for the sums (sumsText) of each image of at most CellsMax cells. The images are looked at one by one.
var tallies = sync.OnceValue(func() map[string]tally {
	all := map[string]tally{}
	for _, s := range countedShapes() {
		for _, a := range allOf(s.h, s.w) {
			text := sumsText(rowSumsOf(a), colSumsOf(a))
			has := all[text]
			if has.many == 0 {
				has.cells = fullOf(s.h*s.w, 0)
			}
			has.many++
			eachCell(a, func(i, j int) {
				if cellOf(a, i, j) {
					has.cells[i*s.w+j]++
				}
			})
			all[text] = has
		}
	}
	return all
})

// tallyOf returns the tally of valid sums of at most CellsMax cells.
func tallyOf(rows []int, cols []int) tally {
	if has := tallies()[sumsText(rows, cols)]; has.many > 0 {
		return has
	}
	return tally{cells: fullOf(len(rows)*len(cols), 0)}
}

// counts tests SumsCount, and that the lists stay.
func counts(t *testing.T, rows []int, cols []int, want int) {
	t.Helper()
	stay(t, rows, cols, func() {
		if many := impl.SumsCount(rows, cols); many != want {
			t.Fatalf("SumsCount of %v and %v is %d instead of %d", rows, cols, many, want)
		}
	})
}

// countsCell tests CellCount, and that the lists stay.
func countsCell(t *testing.T, rows []int, cols []int, i int, j int, want int) {
	t.Helper()
	stay(t, rows, cols, func() {
		if many := impl.CellCount(rows, cols, i, j); many != want {
			t.Fatalf("CellCount of %v, %v and (%d, %d) is %d instead of %d", rows, cols, i, j, many, want)
		}
	})
}

// countsCells tests CellCount of each cell, row by row.
func countsCells(t *testing.T, rows []int, cols []int, want []int) {
	t.Helper()
	for i := range rows {
		for j := range cols {
			countsCell(t, rows, cols, i, j, want[i*len(cols)+j])
		}
	}
}

// countsAll tests CountAll, and that the list stays.
func countsAll(t *testing.T, rows []int, w int, want int) {
	t.Helper()
	stay(t, rows, nil, func() {
		if many := impl.CountAll(rows, w); many != want {
			t.Fatalf("CountAll of %v and %d is %d instead of %d", rows, w, many, want)
		}
	})
}

// cellCounts returns CellCount of each cell, row by row, of sums that must be counted, and tests that the lists stay.
func cellCounts(t *testing.T, rows []int, cols []int) []int {
	t.Helper()
	var list []int
	stay(t, rows, cols, func() {
		for i := range rows {
			for j := range cols {
				many := impl.CellCount(rows, cols, i, j)
				if many < 0 {
					t.Fatalf("CellCount of %v, %v and (%d, %d) is %d", rows, cols, i, j, many)
				}
				list = append(list, many)
			}
		}
	})
	return list
}

// eachCounted calls a function for the sums of eachSums of at most CellsMax cells, those that images have in several orders,
// with SumsCount of them, which must not be -1.
func eachCounted(t *testing.T, visit func(rows []int, cols []int, many int)) {
	t.Helper()
	none, one, several, great := 0, 0, 0, 0
	eachSums(func(rows, cols []int, has bool) {
		cells := len(rows) * len(cols)
		if cells > cellsMost {
			return
		}
		orders := 1
		if has {
			orders = 4
		}
		for n := range orders {
			p, q := mixed(rows, n), mixed(cols, n*n)
			many := impl.SumsCount(p, q)
			switch {
			case many < 0:
				t.Fatalf("SumsCount of %v and %v is %d", p, q, many)
			case many == 0:
				none++
			case many == 1:
				one++
			case cells == cellsMost:
				great++
			default:
				several++
			}
			visit(p, q, many)
		}
	})
	if none < 1000 || one < 1000 || several < 1000 || great < 500 {
		t.Fatalf("%d sums have no image, %d one, %d several, and %d of CellsMax cells, too", none, one, several, great)
	}
}

// knownNone has sums of at most CellsMax cells that no image has.
func knownNone() []sumsPair {
	return []sumsPair{
		// Totals that differ.
		{[]int{1}, []int{0}},
		{[]int{0}, []int{1}},
		{[]int{1, 1}, []int{1, 0}},
		{[]int{2, 1}, []int{1, 1}},
		{[]int{1, 1, 1}, []int{1, 1, 0}},
		{[]int{1, 1, 1}, []int{1, 1, 2}},
		{[]int{2, 2, 2, 2}, []int{2, 2, 2, 1}},
		{[]int{2, 2, 2, 2}, []int{2, 3, 2, 2}},
		{[]int{4, 4, 4, 4}, []int{0, 0, 0, 0}},
		{[]int{4, 4, 4, 4}, []int{4, 4, 4, 3}},
		{[]int{6}, []int{1, 1, 1, 1, 1, 0}},
		{[]int{0, 0, 0, 0, 0, 0}, []int{1}},
		{[]int{3, 3}, []int{2, 2, 1, 1, 1, 0}},
		// Equal totals that are not consistent.
		{[]int{2, 0}, []int{2, 0}},
		{[]int{0, 2}, []int{0, 2}},
		{[]int{2, 0}, []int{0, 2}},
		{[]int{3, 3, 0}, []int{3, 3, 0}},
		{[]int{0, 3, 0}, []int{0, 3, 0}},
		{[]int{3, 1, 1, 3}, []int{4, 4, 0}},
		{[]int{3, 3, 1, 1}, []int{4, 3, 1}},
		{[]int{4, 4, 0, 0}, []int{4, 4, 0, 0}},
		{[]int{4, 0, 0, 0}, []int{4, 0, 0, 0}},
		{[]int{4, 4, 1, 0}, []int{3, 3, 3, 0}},
		{[]int{2, 0, 0, 0, 0, 0}, []int{2, 0}},
		{[]int{6, 0}, []int{2, 2, 2, 0, 0, 0}},
		{[]int{5, 0, 0}, []int{3, 2, 0, 0, 0}},
	}
}

// knownCounts has sums that are counted by hand, with the numbers of images, and of those in which a cell is set, row by row.
func knownCounts() []struct {
	rows, cols []int
	many       int
	cells      []int
} {
	return []struct {
		rows, cols []int
		many       int
		cells      []int
	}{
		// One image.
		{[]int{0}, []int{0}, 1, []int{0}},
		{[]int{1}, []int{1}, 1, []int{1}},
		{[]int{2}, []int{1, 0, 1}, 1, []int{1, 0, 1}},
		{[]int{3}, []int{0, 1, 0, 1, 1, 0}, 1, []int{0, 1, 0, 1, 1, 0}},
		{[]int{1, 0, 1, 1, 0, 1}, []int{4}, 1, []int{1, 0, 1, 1, 0, 1}},
		{[]int{1, 2}, []int{1, 2, 0}, 1, []int{0, 1, 0, 1, 1, 0}},
		{[]int{3, 1, 2}, []int{2, 3, 1}, 1, []int{1, 1, 1, 0, 1, 0, 1, 1, 0}},
		{[]int{0, 0}, []int{0, 0, 0}, 1, fullOf(6, 0)},
		{[]int{3, 3}, []int{2, 2, 2}, 1, fullOf(6, 1)},
		{fullOf(4, 0), fullOf(4, 0), 1, fullOf(16, 0)},
		{fullOf(4, 4), fullOf(4, 4), 1, fullOf(16, 1)},
		{[]int{0, 3, 0}, []int{1, 1, 1}, 1, []int{0, 0, 0, 1, 1, 1, 0, 0, 0}},
		{[]int{4, 0, 3, 1}, []int{3, 2, 2, 1}, 1, []int{1, 1, 1, 1, 0, 0, 0, 0, 1, 1, 1, 0, 1, 0, 0, 0}},
		// Several images, and all cells alike.
		{[]int{1, 1}, []int{1, 1}, 2, fullOf(4, 1)},
		{[]int{1, 1, 1}, []int{1, 1, 1}, 6, fullOf(9, 2)},
		{[]int{2, 2, 2}, []int{2, 2, 2}, 6, fullOf(9, 4)},
		{[]int{2, 2}, []int{1, 1, 1, 1}, 6, fullOf(8, 3)},
		{[]int{3, 3}, fullOf(6, 1), 20, fullOf(12, 10)},
		{fullOf(4, 1), fullOf(4, 1), 24, fullOf(16, 6)},
		{fullOf(4, 2), fullOf(4, 2), 90, fullOf(16, 45)},
		{fullOf(4, 3), fullOf(4, 3), 24, fullOf(16, 18)},
		// Several images, and cells that are not alike.
		{[]int{2, 1}, []int{1, 1, 1}, 3, []int{2, 2, 2, 1, 1, 1}},
		{[]int{1, 2, 1}, []int{2, 1, 1}, 5, []int{3, 1, 1, 4, 3, 3, 3, 1, 1}},
		{[]int{4, 2}, fullOf(6, 1), 15, slices.Concat(fullOf(6, 10), fullOf(6, 5))},
		{[]int{1, 5}, fullOf(6, 1), 6, slices.Concat(fullOf(6, 1), fullOf(6, 5))},
		{fullOf(5, 1), []int{2, 3}, 10, []int{4, 6, 4, 6, 4, 6, 4, 6, 4, 6}},
		{fullOf(5, 1), []int{1, 3, 1}, 20, []int{4, 12, 4, 4, 12, 4, 4, 12, 4, 4, 12, 4, 4, 12, 4}},
		// Rows and columns of 0, and full ones, among others.
		{[]int{1, 0, 1}, []int{1, 0, 1}, 2, []int{1, 0, 1, 0, 0, 0, 1, 0, 1}},
		{[]int{2, 3, 2}, []int{2, 3, 2}, 2, []int{1, 2, 1, 2, 2, 2, 1, 2, 1}},
		{[]int{2, 0, 2}, []int{1, 2, 0, 1}, 2, []int{1, 2, 0, 1, 0, 0, 0, 0, 1, 2, 0, 1}},
		{[]int{3, 2, 1}, []int{2, 2, 2}, 3, []int{3, 3, 3, 2, 2, 2, 1, 1, 1}},
		{[]int{0, 2, 2, 4}, []int{2, 2, 2, 2}, 6, slices.Concat(fullOf(4, 0), fullOf(8, 3), fullOf(4, 6))},
		{[]int{0, 0, 1, 1, 2, 0}, []int{2, 2}, 2, []int{0, 0, 0, 0, 1, 1, 1, 1, 2, 2, 0, 0}},
		{[]int{2, 1, 2, 1, 2, 1}, []int{5, 4}, 3, []int{3, 3, 2, 1, 3, 3, 2, 1, 3, 3, 2, 1}},
	}
}

// P122, P126, P128: sums that are counted by hand, and both lists exchanged.
func TestP122P126P128KnownCounts(t *testing.T) {
	for _, c := range knownCounts() {
		counts(t, c.rows, c.cols, c.many)
		counts(t, c.cols, c.rows, c.many)
		countsCells(t, c.rows, c.cols, c.cells)
		if has := tallyOf(c.rows, c.cols); has.many != c.many || !slices.Equal(has.cells, c.cells) {
			t.Errorf("of %v and %v, there are %d images with the cells %v", c.rows, c.cols, has.many, has.cells)
		}
	}
}

// P124, P128: sums that no image has, because of their totals or in spite of them, in several orders and exchanged.
func TestP124P128NoImages(t *testing.T) {
	for _, p := range knownNone() {
		for n := range 2 * len(p.rows) {
			rows, cols := mixed(p.rows, n), mixed(p.cols, n)
			counts(t, rows, cols, 0)
			counts(t, cols, rows, 0)
			countsCells(t, rows, cols, fullOf(len(rows)*len(cols), 0))
		}
	}
}

// P122: SumsCount is the same for both lists exchanged, and for SumsTurn.
func TestP122SumsCountOtherwise(t *testing.T) {
	eachCounted(t, func(rows, cols []int, many int) {
		others, rests := turned(t, rows, cols)
		counts(t, cols, rows, many)
		counts(t, others, rests, many)
		counts(t, rests, others, many)
	})
}

// P123: with first sums moved to the end, and in the opposite order, SumsCount is the same.
func TestP123SumsMoved(t *testing.T) {
	eachCounted(t, func(rows, cols []int, many int) {
		for n := range 2 * max(len(rows), len(cols)) {
			counts(t, mixed(rows, n), mixed(cols, n), many)
		}
		counts(t, mixed(rows, 1), cols, many)
		counts(t, rows, mixed(cols, 1), many)
	})
}

// P124: SumsCount is greater than 0 exactly for consistent sums, and 1 exactly for unique ones.
func TestP124SumsCountOfUnique(t *testing.T) {
	eachCounted(t, func(rows, cols []int, many int) {
		if (many > 0) != impl.SumsConsistent(rows, cols) || (many == 1) != impl.SumsUnique(rows, cols) {
			t.Fatalf("SumsCount of %v and %v is %d, SumsConsistent %v, and SumsUnique %v",
				rows, cols, many, impl.SumsConsistent(rows, cols), impl.SumsUnique(rows, cols))
		}
	})
}

// P125: BuildImage has no more switches than there are other images, and it has some if there are any.
func TestP125SwitchesOfBuilt(t *testing.T) {
	equal, less := 0, 0
	eachCounted(t, func(rows, cols []int, many int) {
		if many == 0 {
			return
		}
		a := byColumn().built(t, rows, cols)
		n := impl.SwitchMany(a)
		if n > many-1 || (n > 0) != (many > 1) {
			t.Fatalf("SwitchMany of %v is %d, and SumsCount %d", a, n, many)
		}
		switch {
		case n > 0 && n == many-1:
			equal++
		case n < many-1:
			less++
		}
	})
	if equal < 100 || less < 100 {
		t.Errorf("BuildImage has as many switches as there are other images %d times, and less %d times", equal, less)
	}
}

// P126: for an image of at most nine cells, SumsCount is the number of images with its sums.
func TestP126SumsOfImages(t *testing.T) {
	for _, a := range upToNine() {
		rows, cols := impl.RowSums(a), impl.ColSums(a)
		counts(t, rows, cols, tallyOf(rows, cols).many)
	}
}

// P126: the same for all sums of at most 12 cells in all orders, those that no image has among them.
func TestP126SmallSums(t *testing.T) {
	eachSmallList(func(rows, cols []int) {
		counts(t, rows, cols, tallyOf(rows, cols).many)
	})
}

// P126, P128: SumsCount, and CellCount of each cell, are the numbers of images up to CellsMax cells, in one order of each pair of lists.
func TestP126P128AllCounted(t *testing.T) {
	for _, s := range countedShapes() {
		colLists := descendingOf(s.w, s.h)
		for n, p := range descendingOf(s.h, s.w) {
			for m, q := range colLists {
				rows, cols := mixed(p, n+m), mixed(q, n+m/3)
				has := tallyOf(rows, cols)
				counts(t, rows, cols, has.many)
				countsCells(t, rows, cols, has.cells)
			}
		}
	}
}

// P126: the sums of all images of CellsMax cells together count each image once.
func TestP126CellsMax(t *testing.T) {
	if impl.CellsMax != cellsMost {
		t.Errorf("CellsMax is %d", impl.CellsMax)
	}
	total := 0
	for _, rows := range descendingOf(4, 4) {
		many := 0
		for _, cols := range descendingOf(4, 4) {
			many += impl.SumsCount(rows, cols) * len(ordersOf(cols))
		}
		total += many * len(ordersOf(rows))
	}
	if total != pow(16) {
		t.Errorf("%d images of 4 rows and 4 columns are counted", total)
	}
}

// roomFor tells whether images of a shape are counted.
func roomFor(h int, w int) bool {
	return slices.Contains(countedShapes(), shape{h, w})
}

// furtherLine tests that, with a further row, or column, without set cells, and with one whose cells are all set, wherever it stands,
// SumsCount is the same if there is room, and -1 otherwise.
func furtherLine(t *testing.T, column bool) {
	t.Helper()
	fit, over := 0, 0
	eachCounted(t, func(rows, cols []int, many int) {
		list, across, h, w := rows, cols, len(rows)+1, len(cols)
		test := func(list, across []int) { counts(t, list, across, many) }
		if column {
			list, across, h, w = cols, rows, len(rows), len(cols)+1
			test = func(list, across []int) { counts(t, across, list, many) }
		}
		if roomFor(h, w) {
			fit++
		} else {
			over++
			many = -1
		}
		greater := slices.Clone(across)
		for k := range greater {
			greater[k]++
		}
		for at := range len(list) + 1 {
			test(slices.Insert(slices.Clone(list), at, 0), across)
			test(slices.Insert(slices.Clone(list), at, len(across)), greater)
		}
	})
	if fit < 500 || over < 500 {
		t.Errorf("there is room for a further line %d times, and %d times not", fit, over)
	}
}

// P127: with a further row sum 0, and with one of all columns and all column sums greater by 1.
func TestP127FurtherRow(t *testing.T) {
	furtherLine(t, false)
}

// P134: with a further column sum 0, and with one of all rows and all row sums greater by 1.
func TestP134FurtherColumn(t *testing.T) {
	furtherLine(t, true)
}

// P128, P135: CellCount over all columns is the row sum times SumsCount, over all rows the column sum times it,
// and over all cells the total of the row sums times it. Without images, it is 0 whatever the totals are.
func TestP128P135CellCountTotals(t *testing.T) {
	eachCounted(t, func(rows, cols []int, many int) {
		w := len(cols)
		cells := cellCounts(t, rows, cols)
		for i, sum := range rows {
			if totalOf(cells[i*w:(i+1)*w]) != sum*many {
				t.Fatalf("CellCount of %v and %v is %v, and SumsCount %d", rows, cols, cells, many)
			}
		}
		for j, sum := range cols {
			total := 0
			for i := range rows {
				total += cells[i*w+j]
			}
			if total != sum*many {
				t.Fatalf("CellCount of %v and %v is %v, and SumsCount %d", rows, cols, cells, many)
			}
		}
		if totalOf(cells) != totalOf(rows)*many {
			t.Fatalf("CellCount of %v and %v is %v, and SumsCount %d", rows, cols, cells, many)
		}
	})
}

// P129: a cell of BuildImage is variable exactly if it is set in some of the images, but not in all of them.
func TestP129VariableCells(t *testing.T) {
	none, some, all := 0, 0, 0
	eachCounted(t, func(rows, cols []int, many int) {
		if many == 0 {
			return
		}
		a := byColumn().built(t, rows, cols)
		eachCell(a, func(i, j int) {
			n := impl.CellCount(rows, cols, i, j)
			if n < 0 || n > many || isVariable(t, a, i, j) != (n > 0 && n < many) {
				t.Fatalf("CellCount of %v, %v and (%d, %d) is %d, and SumsCount %d", rows, cols, i, j, n, many)
			}
			if (n == 0 || n == many) && cellOf(a, i, j) != (n == many) {
				t.Fatalf("CellCount of %v, %v and (%d, %d) is %d, and BuildImage is %v", rows, cols, i, j, n, a)
			}
			switch {
			case many > 1 && n == 0:
				none++
			case many > 1 && n == many:
				all++
			case n > 0 && n < many:
				some++
			}
		})
	})
	if none < 500 || some < 1000 || all < 500 {
		t.Errorf("of several images, %d cells are set in none, %d in some, and %d in all", none, some, all)
	}
}

// P130: CellCount is that of both lists exchanged and the cell (j, i), and that of SumsTurn is SumsCount less it.
func TestP130CellCountOtherwise(t *testing.T) {
	eachCounted(t, func(rows, cols []int, many int) {
		others, rests := turned(t, rows, cols)
		for i := range rows {
			for j := range cols {
				n := impl.CellCount(rows, cols, i, j)
				countsCell(t, cols, rows, j, i, n)
				countsCell(t, others, rests, i, j, many-n)
			}
		}
	})
}

// waysOf returns the number of ways to choose some of a number of cells: the last one is chosen or not.
func waysOf(cells int, chosen int) int {
	switch {
	case chosen < 0 || chosen > cells:
		return 0
	case cells == 0:
		return 1
	}
	return waysOf(cells-1, chosen-1) + waysOf(cells-1, chosen)
}

// P131: CountAll is the product of the numbers of ways to choose the set cells of each row, for all row sums and widths.
func TestP131CountAll(t *testing.T) {
	var ways [impl.SideMax + 1][impl.SideMax + 1]int
	for w := range ways {
		for sum := range w + 1 {
			ways[w][sum] = waysOf(w, sum)
		}
	}
	eachNested(t, func(rows []int, w int, _ impl.Image) {
		many := 1
		for _, sum := range rows {
			many *= ways[w][sum]
		}
		countsAll(t, rows, w, many)
	})
}

// P131: CountAll of one row of each width and sum; 1 for 0 and all columns, and W for 1 and all but one.
func TestP131OneRow(t *testing.T) {
	for n, many := range [][]int{{1, 1}, {1, 2, 1}, {1, 3, 3, 1}, {1, 4, 6, 4, 1}, {1, 5, 10, 10, 5, 1}, {1, 6, 15, 20, 15, 6, 1}} {
		w := n + 1
		for sum, want := range many {
			countsAll(t, []int{sum}, w, want)
		}
		for h := 1; h <= impl.SideMax; h++ {
			power := 1
			for range h {
				power *= w
			}
			countsAll(t, fullOf(h, 0), w, 1)
			countsAll(t, fullOf(h, w), w, 1)
			countsAll(t, fullOf(h, 1), w, power)
			countsAll(t, fullOf(h, w-1), w, power)
		}
	}
}

// P131: known counts, those of more than CellsMax cells among them.
func TestP131KnownCountAll(t *testing.T) {
	for _, c := range []struct {
		rows    []int
		w, many int
	}{
		{[]int{0}, 1, 1},
		{[]int{1}, 1, 1},
		{[]int{1, 2}, 3, 9},
		{[]int{0, 1, 2, 3}, 3, 9},
		{[]int{2, 2}, 4, 36},
		{[]int{2, 2, 2, 2}, 4, 1296},
		{[]int{1, 0, 1, 1, 0, 1}, 1, 1},
		{[]int{1, 2, 1, 0, 1, 1}, 2, 16},
		{[]int{2, 3, 0, 4}, 5, 500},
		{[]int{0, 1, 2, 3, 4, 5}, 6, 162000},
		{[]int{6, 5, 4, 3, 2, 1}, 6, 162000},
		{[]int{3, 3, 3, 3, 3, 3}, 6, 64000000},
	} {
		for n := range 2 * len(c.rows) {
			countsAll(t, mixed(c.rows, n), c.w, c.many)
		}
	}
}

// P131: for the other cells, CountAll is the same.
func TestP131OtherCells(t *testing.T) {
	eachNested(t, func(rows []int, w int, _ impl.Image) {
		others := slices.Clone(rows)
		for i := range others {
			others[i] = w - others[i]
		}
		if impl.CountAll(rows, w) != impl.CountAll(others, w) {
			t.Fatalf("CountAll of %v and %d is %d, and of %v %d", rows, w, impl.CountAll(rows, w), others, impl.CountAll(others, w))
		}
	})
}

// P131: CountAll is the number of images with the row sums, up to CellsMax cells looked at one by one.
func TestP131AllImages(t *testing.T) {
	for _, s := range countedShapes() {
		many := map[string]int{}
		for _, a := range allOf(s.h, s.w) {
			many[sumsText(rowSumsOf(a), nil)]++
		}
		for _, rows := range listsOf(s.h, 0, s.w) {
			if len(rows) == s.h {
				countsAll(t, rows, s.w, many[sumsText(rows, nil)])
			}
		}
	}
}

// P131: CountAll is -1 for no row sums and too many, for other widths, and for row sums out of range, wherever they stand.
func TestP131CountAllFails(t *testing.T) {
	for w := 1; w <= impl.SideMax; w++ {
		countsAll(t, nil, w, -1)
		countsAll(t, []int{}, w, -1)
		for _, rows := range longLists() {
			countsAll(t, rows, w, -1)
		}
		for h := 1; h <= impl.SideMax; h++ {
			for _, n := range []int{-1, -2, math.MinInt, w + 1, w + 2, impl.SideMax + 1, 63, 64, 65, 1 << 32, math.MaxInt} {
				for i := range h {
					countsAll(t, withOne(fullOf(h, 0), i, n), w, -1)
					countsAll(t, withOne(fullOf(h, w), i, n), w, -1)
				}
			}
		}
	}
	for _, w := range []int{0, -1, -6, impl.SideMax + 1, impl.SideMax + 2, 31, 32, 63, 64, 65, math.MaxInt, math.MinInt} {
		for h := range impl.SideMax + 2 {
			for _, n := range []int{0, 1, w, w - 1, -1} {
				countsAll(t, fullOf(h, n), w, -1)
			}
		}
	}
}

// columnsOf returns all column sums of a shape, valid with any row sums, in all orders.
func columnsOf(s shape) [][]int {
	return slices.DeleteFunc(listsOf(s.w, 0, s.h), func(cols []int) bool { return len(cols) != s.w })
}

// P132: CountAll is the sum of SumsCount over all column sums; for more columns and rows than the promise names, too.
func TestP132CountAllOfColumns(t *testing.T) {
	for _, s := range countedShapes() {
		colLists := columnsOf(s)
		for n, p := range descendingOf(s.h, s.w) {
			rows, many := mixed(p, n), 0
			for _, cols := range colLists {
				many += impl.SumsCount(rows, cols)
			}
			countsAll(t, rows, s.w, many)
		}
	}
}

// factorial returns the product of all numbers from 1 to n.
func factorial(n int) int {
	product := 1
	for k := 1; k <= n; k++ {
		product *= k
	}
	return product
}

// P133: with all row sums 1 and equal totals, SumsCount is the factorial of the number of rows divided by those of all column sums;
// and so it is for columns.
func TestP133AllRowsOne(t *testing.T) {
	equal, several := 0, 0
	for _, s := range countedShapes() {
		ones := fullOf(s.h, 1)
		for _, cols := range columnsOf(s) {
			many := 0
			if totalOf(cols) == s.h {
				equal++
				many = factorial(s.h)
				for _, sum := range cols {
					many /= factorial(sum)
				}
			}
			if many > 1 {
				several++
			}
			counts(t, ones, cols, many)
			counts(t, cols, ones, many)
		}
	}
	if equal < 200 || several < 100 {
		t.Errorf("%d totals are equal, and of %d there are several images", equal, several)
	}
}

// P136: CellsVariable of BuildImage has a set cell exactly if there are several images.
func TestP136CellsVariableOfBuilt(t *testing.T) {
	eachCounted(t, func(rows, cols []int, many int) {
		if many == 0 {
			return
		}
		a := byColumn().built(t, rows, cols)
		if n := impl.ImageMany(variableOf(t, a)); (n > 0) != (many > 1) {
			t.Fatalf("CellsVariable of %v has %d set cells, and SumsCount is %d", a, n, many)
		}
	})
}

// P137: SumsCount is at most CountAll of the row sums, and at most that of the column sums.
func TestP137CountAllBound(t *testing.T) {
	equal, less := 0, 0
	eachCounted(t, func(rows, cols []int, many int) {
		ofRows, ofCols := impl.CountAll(rows, len(cols)), impl.CountAll(cols, len(rows))
		if many > ofRows || many > ofCols {
			t.Fatalf("SumsCount of %v and %v is %d, and CountAll %d and %d", rows, cols, many, ofRows, ofCols)
		}
		if many == min(ofRows, ofCols) {
			equal++
		} else {
			less++
		}
	})
	if equal < 100 || less < 100 {
		t.Errorf("SumsCount is CountAll %d times, and less %d times", equal, less)
	}
}

// P126, P128: one row, and one column, of all cells that can be set in it, with each sum.
func TestP126P128OneRowOrColumn(t *testing.T) {
	for n := 1; n <= impl.SideMax; n++ {
		for _, cells := range columnsOf(shape{1, n}) {
			for sum := range n + 1 {
				many, set := 0, fullOf(n, 0)
				if sum == totalOf(cells) {
					many, set = 1, cells
				}
				counts(t, []int{sum}, cells, many)
				counts(t, cells, []int{sum}, many)
				countsCells(t, []int{sum}, cells, set)
				countsCells(t, cells, []int{sum}, set)
			}
		}
	}
}

// P122, P128: SideMax rows or columns are counted within CellsMax cells.
func TestP122P128SideMax(t *testing.T) {
	for _, c := range []struct {
		rows, cols []int
		many       int
		cells      []int
	}{
		{[]int{1}, []int{0, 0, 0, 0, 0, 1}, 1, []int{0, 0, 0, 0, 0, 1}},
		{[]int{6}, fullOf(6, 1), 1, fullOf(6, 1)},
		{[]int{6, 6}, fullOf(6, 2), 1, fullOf(12, 1)},
		{[]int{1, 1}, []int{0, 0, 0, 0, 1, 1}, 2, []int{0, 0, 0, 0, 1, 1, 0, 0, 0, 0, 1, 1}},
		{[]int{5, 5}, []int{2, 2, 2, 2, 1, 1}, 2, []int{2, 2, 2, 2, 1, 1, 2, 2, 2, 2, 1, 1}},
		{[]int{2, 4}, []int{1, 2, 1, 0, 1, 1}, 4, []int{1, 4, 1, 0, 1, 1, 3, 4, 3, 0, 3, 3}},
	} {
		counts(t, c.rows, c.cols, c.many)
		counts(t, c.cols, c.rows, c.many)
		countsCells(t, c.rows, c.cols, c.cells)
		for i := range c.rows {
			for j := range c.cols {
				countsCell(t, c.cols, c.rows, j, i, c.cells[i*len(c.cols)+j])
			}
		}
	}
}

// cellsAround calls a function for each cell of a shape, and for places next to them and far outside.
func cellsAround(s shape, visit func(i int, j int)) {
	for i := -1; i <= s.h; i++ {
		for j := -1; j <= s.w; j++ {
			visit(i, j)
		}
	}
	for _, n := range []int{impl.SideMax, 63, 64, 1 << 32, math.MaxInt, math.MinInt} {
		visit(n, 0)
		visit(0, n)
		visit(n, n)
	}
}

// P122, P128: images of more than CellsMax cells are not counted, however few there are.
func TestP122P128TooManyCells(t *testing.T) {
	for _, s := range uncountedShapes() {
		for _, a := range someOf(s.h, s.w) {
			rows, cols := rowSumsOf(a), colSumsOf(a)
			counts(t, rows, cols, -1)
			cellsAround(s, func(i, j int) { countsCell(t, rows, cols, i, j, -1) })
		}
		for _, n := range []int{0, 1} {
			rows, cols := fullOf(s.h, n*s.w), fullOf(s.w, s.h)
			counts(t, rows, cols, -1)
			countsCell(t, rows, cols, 0, 0, -1)
		}
	}
	for _, s := range countedShapes() {
		for _, a := range someOf(s.h, s.w) {
			rows, cols := rowSumsOf(a), colSumsOf(a)
			counts(t, rows, cols, tallyOf(rows, cols).many)
		}
	}
}

// P128: CellCount is -1 where there is no such cell: -1, the number of rows or columns, and further outside;
// for sums of one image, of several, and of none.
func TestP128CellsOutside(t *testing.T) {
	eachCounted(t, func(rows, cols []int, _ int) {
		h, w := len(rows), len(cols)
		for i := -1; i <= h; i++ {
			countsCell(t, rows, cols, i, -1, -1)
			countsCell(t, rows, cols, i, w, -1)
		}
		for j := range cols {
			countsCell(t, rows, cols, -1, j, -1)
			countsCell(t, rows, cols, h, j, -1)
		}
	})
	for _, s := range countedShapes() {
		for _, a := range someOf(s.h, s.w) {
			rows, cols := rowSumsOf(a), colSumsOf(a)
			for _, i := range numbersOutside(s.h) {
				countsCell(t, rows, cols, i, s.w-1, -1)
			}
			for _, j := range numbersOutside(s.w) {
				countsCell(t, rows, cols, s.h-1, j, -1)
			}
		}
	}
}

// P122, P128: sums that are not valid are not counted, and no cell of them is.
func TestP122P128InvalidSums(t *testing.T) {
	for _, p := range badSums() {
		counts(t, p.rows, p.cols, -1)
		for _, i := range []int{0, -1, len(p.rows) - 1, len(p.rows)} {
			for _, j := range []int{0, -1, len(p.cols) - 1, len(p.cols)} {
				countsCell(t, p.rows, p.cols, i, j, -1)
			}
		}
	}
}

// General rule: arguments stay, what is behind them in memory included, and may be one list.
func TestCountingKeepsMemory(t *testing.T) {
	for _, c := range knownCounts() {
		rowSpace, colSpace := append(slices.Clone(c.rows), 1, 2, 3), append(slices.Clone(c.cols), 4, 5, 6)
		rows, cols := rowSpace[:len(c.rows)], colSpace[:len(c.cols)]
		stay(t, rowSpace, colSpace, func() {
			counts(t, rows, cols, c.many)
			countsCells(t, rows, cols, c.cells)
			countsAll(t, rows, len(cols), impl.CountAll(c.rows, len(c.cols)))
		})
	}
	ones := []int{1, 1, 1}
	counts(t, ones, ones, 6)
	countsCells(t, ones, ones, fullOf(9, 2))
}
