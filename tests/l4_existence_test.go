package tests

import (
	"math"
	"slices"
	"sync"
	"testing"

	"loop.example/discretetomography/impl"
)

// sumsKey is a list of at most SideMax sums in descending order, with zeros behind it.
type sumsKey [impl.SideMax]int

// keyOf returns the key of a list, the same for each order of it.
func keyOf(list []int) sumsKey {
	var key sumsKey
	list = slices.Clone(list)
	slices.Sort(list)
	copy(key[:], backward(list))
	return key
}

// descendingOf returns all lists of a number of sums from 0 to most that do not ascend.
func descendingOf(many int, most int) [][]int {
	return slices.DeleteFunc(partitionsOf(), func(p []int) bool {
		return len(p) != many || p[0] > most
	})
}

// reachedOf returns the keys of the column sums of all images with given row sums and a width.
// They are found row by row, from all rows with the sum: not by way of conjugates.
func reachedOf(rows []int, w int) map[sumsKey]bool {
	reached := map[sumsKey]bool{{}: true}
	for _, sum := range rows {
		next := map[sumsKey]bool{}
		for key := range reached {
			for row := range pow(w) {
				cols := slices.Clone(key[:w])
				for j := range cols {
					cols[j] += row / pow(j) % 2
				}
				if totalOf(cols) == totalOf(key[:])+sum {
					next[keyOf(cols)] = true
				}
			}
		}
		reached = next
	}
	return reached
}

// knownSumsPair has valid sums, and whether there is an image with them.
type knownSumsPair struct {
	rows, cols []int
	has        bool
}

// manySums returns valid sums of all heights and widths that do not ascend:
// all with equal totals, all with totals that differ by 1, and every seventh one of the others.
var manySums = sync.OnceValue(func() []knownSumsPair {
	var list []knownSumsPair
	others := 0
	for h := 1; h <= impl.SideMax; h++ {
		for w := 1; w <= impl.SideMax; w++ {
			colLists := descendingOf(w, h)
			for _, rows := range descendingOf(h, w) {
				reached := reachedOf(rows, w)
				for _, cols := range colLists {
					if by := totalOf(rows) - totalOf(cols); by < -1 || by > 1 {
						others++
						if others%7 != 0 {
							continue
						}
					}
					list = append(list, knownSumsPair{rows, cols, reached[keyOf(cols)]})
				}
			}
		}
	}
	return list
})

// mixed returns a list in another order, one of several that n tells.
func mixed(list []int, n int) []int {
	k := n % len(list)
	list = slices.Concat(list[k:], list[:k])
	if n/len(list)%2 == 1 {
		slices.Reverse(list)
	}
	return list
}

// eachSums calls a function for the sums of manySums, each of them in one order, not always the descending one.
func eachSums(visit func(rows []int, cols []int, has bool)) {
	for n, p := range manySums() {
		visit(mixed(p.rows, n), mixed(p.cols, n/5), p.has)
	}
}

// eachConsistent calls a function for all of these sums for which SumsConsistent holds, and in a second order of them.
func eachConsistent(t *testing.T, visit func(rows []int, cols []int)) {
	t.Helper()
	many := 0
	eachSums(func(rows []int, cols []int, _ bool) {
		if !impl.SumsConsistent(rows, cols) {
			return
		}
		many++
		visit(rows, cols)
		if other := mixed(rows, many); impl.SumsConsistent(other, backward(cols)) {
			visit(other, backward(cols))
		}
	})
	if many < 1000 {
		t.Fatalf("SumsConsistent holds for %d sums only", many)
	}
}

// sumsPair has row sums and column sums.
type sumsPair struct{ rows, cols []int }

// sumsOfLength returns sums that are not valid because there are none, or too many, in one list or both.
func sumsOfLength() []sumsPair {
	pairs := []sumsPair{{nil, nil}, {[]int{}, nil}, {[]int{}, []int{}}}
	for _, many := range []int{0, impl.SideMax + 1, impl.SideMax + 2, 100} {
		for other := 0; other <= impl.SideMax+1; other++ {
			pairs = append(pairs,
				sumsPair{fullOf(many, 0), fullOf(other, 0)}, sumsPair{fullOf(other, 0), fullOf(many, 0)},
				sumsPair{fullOf(many, other), fullOf(other, many)}, sumsPair{fullOf(other, many), fullOf(many, other)},
				sumsPair{fullOf(many, 1), fullOf(other, many)}, sumsPair{fullOf(other, 1), fullOf(many, 1)})
		}
	}
	return append(pairs,
		sumsPair{[]int{1, 1, 1, 1, 1, 1, 1}, []int{6, 1}}, sumsPair{[]int{6, 1}, []int{1, 1, 1, 1, 1, 1, 1}},
		sumsPair{[]int{1, 1, 1, 1, 1, 1, 0}, []int{6}}, sumsPair{[]int{6}, []int{1, 1, 1, 1, 1, 1, 0}})
}

// sumsBeyond returns sums that are not valid because one of them is less than 0 or too great, wherever it stands.
func sumsBeyond() []sumsPair {
	var pairs []sumsPair
	for h := 1; h <= impl.SideMax; h++ {
		for w := 1; w <= impl.SideMax; w++ {
			for _, n := range []int{0, 1} {
				rows, cols := fullOf(h, n*w), fullOf(w, n*h)
				for _, by := range []int{1, 2, 7, 99, 1 << 32, math.MaxInt / 2} {
					for i := range rows {
						pairs = append(pairs, sumsPair{withOne(rows, i, -by), cols}, sumsPair{withOne(rows, i, w+by), cols})
					}
					for j := range cols {
						pairs = append(pairs, sumsPair{rows, withOne(cols, j, -by)}, sumsPair{rows, withOne(cols, j, h+by)})
					}
				}
			}
		}
	}
	return append(pairs,
		sumsPair{[]int{math.MinInt}, []int{0}}, sumsPair{[]int{0}, []int{math.MinInt}},
		sumsPair{[]int{math.MaxInt}, []int{1}}, sumsPair{[]int{1}, []int{math.MaxInt}},
		sumsPair{[]int{-1, 1}, []int{0}}, sumsPair{[]int{0}, []int{1, -1}}, sumsPair{[]int{-1}, []int{-1}},
		sumsPair{[]int{2}, []int{2}}, sumsPair{[]int{2, 0}, []int{2}}, sumsPair{[]int{2}, []int{2, 0}},
		sumsPair{[]int{3, 0}, []int{1, 2}}, sumsPair{[]int{1, 2}, []int{3, 0}}, sumsPair{[]int{7}, []int{1, 1, 1, 1, 1, 1}})
}

// badSums returns sums that are not valid.
func badSums() []sumsPair {
	return slices.Concat(sumsOfLength(), sumsBeyond())
}

// stay tests that two lists stay the same while a function is called.
func stay(t *testing.T, rows []int, cols []int, call func()) {
	t.Helper()
	oldRows, oldCols := slices.Clone(rows), slices.Clone(cols)
	call()
	if !slices.Equal(rows, oldRows) || !slices.Equal(cols, oldCols) {
		t.Fatalf("the sums %v and %v were changed to %v and %v", oldRows, oldCols, rows, cols)
	}
}

// consistent tests SumsConsistent, and that the lists stay.
func consistent(t *testing.T, rows []int, cols []int, want bool) {
	t.Helper()
	stay(t, rows, cols, func() {
		if impl.SumsConsistent(rows, cols) != want {
			t.Fatalf("SumsConsistent of %v and %v is %v", rows, cols, !want)
		}
	})
}

// excess tests SumsExcess, and that the lists stay.
func excess(t *testing.T, rows []int, cols []int, want int) {
	t.Helper()
	stay(t, rows, cols, func() {
		if n := impl.SumsExcess(rows, cols); n != want {
			t.Fatalf("SumsExcess of %v and %v is %d instead of %d", rows, cols, n, want)
		}
	})
}

// turned returns SumsTurn, which must not have failed, nor changed the lists.
func turned(t *testing.T, rows []int, cols []int) ([]int, []int) {
	t.Helper()
	var first, second []int
	stay(t, rows, cols, func() {
		var ok bool
		if first, second, ok = impl.SumsTurn(rows, cols); !ok {
			t.Fatalf("SumsTurn of %v and %v failed", rows, cols)
		}
	})
	return first, second
}

// excessOf returns the excess of valid sums, as the greatest one of all sets of rows:
// those of t rows are greatest for the t greatest row sums.
func excessOf(rows []int, cols []int) int {
	most := 0
	for set := range pow(len(rows)) {
		value, t := 0, 0
		for i, sum := range rows {
			if set/pow(i)%2 == 1 {
				value += sum
				t++
			}
		}
		for _, sum := range cols {
			value -= min(sum, t)
		}
		most = max(most, value)
	}
	return most
}

// knownExistence has sums with what is known of them.
func knownExistence() []struct {
	rows, cols []int
	has        bool
	excess     int
} {
	return []struct {
		rows, cols []int
		has        bool
		excess     int
	}{
		{[]int{0}, []int{0}, true, 0},
		{[]int{1}, []int{1}, true, 0},
		{[]int{1}, []int{0}, false, 1},
		{[]int{0}, []int{1}, false, 0},
		{[]int{2, 1}, []int{1, 1, 1}, true, 0},
		{[]int{2, 2}, []int{1, 1, 2}, true, 0},
		// Totals that are equal, of sums that no image has.
		{[]int{2, 0}, []int{2, 0}, false, 1},
		{[]int{0, 2}, []int{0, 2}, false, 1},
		{[]int{3, 3, 0}, []int{3, 3, 0}, false, 2},
		{[]int{0, 3, 0}, []int{0, 3, 0}, false, 2},
		{[]int{3, 1, 1, 3}, []int{4, 0, 4, 0}, false, 2},
		{[]int{6, 6, 6, 0, 0, 0}, []int{6, 6, 6, 0, 0, 0}, false, 9},
		{[]int{6, 0, 0, 0, 0, 0}, []int{0, 0, 0, 0, 0, 6}, false, 5},
		{[]int{5, 5, 1, 1, 1, 1}, []int{6, 6, 1, 1, 0, 0}, false, 4},
		{[]int{3, 3, 1, 1}, []int{4, 2, 2}, true, 0},
		{[]int{3, 3, 1, 1}, []int{3, 3, 2}, true, 0},
		{[]int{3, 3, 1, 1}, []int{4, 3, 1}, false, 1},
		{[]int{3, 3, 1, 1}, []int{4, 4, 0}, false, 2},
		// Totals that differ by one, on either side.
		{[]int{2, 1}, []int{1, 1, 0}, false, 1},
		{[]int{1, 1}, []int{1, 1, 1}, false, 0},
		{[]int{2, 2}, []int{1, 1, 1}, false, 1},
		{[]int{2, 2}, []int{1, 2, 2}, false, 0},
		{[]int{2, 0}, []int{2, 1}, false, 0},
		{[]int{2, 1}, []int{2, 0}, false, 1},
		{[]int{6, 6, 6, 6, 6, 6}, []int{6, 6, 6, 6, 6, 5}, false, 1},
		{[]int{6, 6, 6, 6, 6, 5}, []int{6, 6, 6, 6, 6, 6}, false, 0},
		// Totals that differ by much, on either side.
		{[]int{6, 6, 6, 6, 6, 6}, []int{0, 0, 0, 0, 0, 0}, false, 36},
		{[]int{0, 0, 0, 0, 0, 0}, []int{6, 6, 6, 6, 6, 6}, false, 0},
		{[]int{6}, []int{0, 0, 0, 0, 0, 0}, false, 6},
		{[]int{0}, []int{1, 1, 1, 1, 1, 1}, false, 0},
		{[]int{1, 1, 1, 1, 1, 1}, []int{0}, false, 6},
		{[]int{0, 0, 0, 0, 0, 0}, []int{6}, false, 0},
		{[]int{3, 0, 0}, []int{3, 3, 0}, false, 1},
		{[]int{3, 3, 0}, []int{3, 0, 0}, false, 4},
		// Empty and full rows and columns, and all of both.
		{[]int{0, 3, 0}, []int{1, 1, 1}, true, 0},
		{[]int{1, 1, 1}, []int{0, 3, 0}, true, 0},
		{[]int{3, 0, 1}, []int{1, 1, 2}, true, 0},
		{[]int{3, 0}, []int{2, 0, 1}, false, 1},
		{[]int{2, 0, 2}, []int{0, 2, 2}, true, 0},
		{[]int{6, 6, 6, 6, 6, 6}, []int{6, 6, 6, 6, 6, 6}, true, 0},
		{[]int{0, 0, 0, 0, 0, 0}, []int{0, 0, 0, 0, 0, 0}, true, 0},
		{[]int{1, 2, 3, 4, 5, 6}, []int{6, 5, 4, 3, 2, 1}, true, 0},
		{[]int{6, 6, 6, 0, 0, 0}, []int{3, 3, 3, 3, 3, 3}, true, 0},
		{[]int{1, 1, 1, 1, 1, 1}, []int{1, 1, 1, 1, 1, 1}, true, 0},
	}
}

// P40, P43, P44: known sums, and in the opposite order.
func TestP40P43P44KnownSums(t *testing.T) {
	for _, c := range knownExistence() {
		consistent(t, c.rows, c.cols, c.has)
		consistent(t, backward(c.rows), c.cols, c.has)
		consistent(t, c.rows, backward(c.cols), c.has)
		excess(t, c.rows, c.cols, c.excess)
		excess(t, backward(c.rows), c.cols, c.excess)
		excess(t, c.rows, backward(c.cols), c.excess)
	}
}

// P40: sums are consistent exactly if there is an image with them.
func TestP40SumsConsistent(t *testing.T) {
	eachSums(func(rows, cols []int, has bool) {
		consistent(t, rows, cols, has)
	})
}

// eachSmallList calls a function for all valid sums, in all orders, of images with at most 12 cells.
func eachSmallList(visit func(rows []int, cols []int)) {
	for h := 1; h <= impl.SideMax; h++ {
		for w := 1; w <= impl.SideMax && h*w <= 12; w++ {
			colLists := slices.DeleteFunc(listsOf(w, 0, h), func(list []int) bool { return len(list) != w })
			for _, rows := range listsOf(h, 0, w) {
				if len(rows) != h {
					continue
				}
				for _, cols := range colLists {
					visit(rows, cols)
				}
			}
		}
	}
}

// smallSums returns a text of the sums of each image with at most 12 cells.
func smallSums() map[string]bool {
	text := map[string]bool{}
	for h := 1; h <= impl.SideMax; h++ {
		for w := 1; w <= impl.SideMax && h*w <= 12; w++ {
			for _, a := range allOf(h, w) {
				text[sumsText(rowSumsOf(a), colSumsOf(a))] = true
			}
		}
	}
	return text
}

// sumsText returns two lists of sums as a text.
func sumsText(rows []int, cols []int) string {
	text := make([]byte, 0, len(rows)+len(cols)+1)
	for _, sum := range rows {
		text = append(text, byte('0'+sum))
	}
	text = append(text, ' ')
	for _, sum := range cols {
		text = append(text, byte('0'+sum))
	}
	return string(text)
}

// P40, P44: all sums of at most 12 cells, in all orders, held against all images.
func TestP40P44SmallSums(t *testing.T) {
	of := smallSums()
	eachSmallList(func(rows, cols []int) {
		consistent(t, rows, cols, of[sumsText(rows, cols)])
		excess(t, rows, cols, excessOf(rows, cols))
	})
}

// P40: consistent sums have equal totals, and are consistent exchanged, and for the cells that are not set.
func TestP40ConsistentOtherwise(t *testing.T) {
	eachConsistent(t, func(rows, cols []int) {
		if totalOf(rows) != totalOf(cols) {
			t.Fatalf("SumsConsistent of %v and %v is true", rows, cols)
		}
		consistent(t, cols, rows, true)
		others, rests := turned(t, rows, cols)
		consistent(t, others, rests, true)
		consistent(t, rests, others, true)
	})
}

// P40: sums of which one is changed, whatever others are, have totals that differ, and are not consistent.
func TestP40TotalsDiffer(t *testing.T) {
	many := 0
	eachConsistent(t, func(rows, cols []int) {
		many++
		for _, by := range []int{-1, 1, -len(cols), len(cols)} {
			i := many % len(rows)
			consistent(t, withOne(rows, i, rows[i]+by), cols, false)
		}
		for _, by := range []int{-1, 1, -len(rows), len(rows)} {
			j := many % len(cols)
			consistent(t, rows, withOne(cols, j, cols[j]+by), false)
		}
		empty, full := fullOf(len(rows), 0), fullOf(len(rows), len(cols))
		consistent(t, empty, cols, totalOf(cols) == 0)
		consistent(t, full, cols, totalOf(cols) == len(rows)*len(cols))
	})
}

// P40, P44: one row, and one column, of all cells that can be set in it, with each total.
func TestP40P44OneRowOrColumn(t *testing.T) {
	for n := 1; n <= impl.SideMax; n++ {
		for _, cells := range listsOf(n, 0, 1) {
			for sum := 0; sum <= len(cells) && len(cells) == n; sum++ {
				consistent(t, []int{sum}, cells, sum == totalOf(cells))
				consistent(t, cells, []int{sum}, sum == totalOf(cells))
				excess(t, []int{sum}, cells, max(0, sum-totalOf(cells)))
				excess(t, cells, []int{sum}, max(0, totalOf(cells)-sum))
			}
		}
	}
}

// P40, P44, P50: sums that are not valid are not consistent, have no excess, and are not turned.
func TestP40P44P50InvalidSums(t *testing.T) {
	for _, p := range badSums() {
		consistent(t, p.rows, p.cols, false)
		excess(t, p.rows, p.cols, -1)
		stay(t, p.rows, p.cols, func() {
			if rows, cols, ok := impl.SumsTurn(p.rows, p.cols); ok || len(rows) != 0 || len(cols) != 0 {
				t.Fatalf("SumsTurn of %v and %v is %v, %v, %v", p.rows, p.cols, rows, cols, ok)
			}
		})
	}
}

// P41: with first sums moved to the end, consistent sums stay consistent.
func TestP41SumsMoved(t *testing.T) {
	eachConsistent(t, func(rows, cols []int) {
		moved := slices.Clone(rows)
		for range rows {
			moved = append(moved[1:], moved[0])
			consistent(t, moved, append(slices.Clone(cols[1:]), cols[0]), true)
			consistent(t, moved, cols, true)
		}
		for j := range cols {
			consistent(t, rows, slices.Concat(cols[j:], cols[:j]), true)
		}
	})
}

// P42: with 1 moved from a column sum to one that is less by at least 2, consistent sums stay consistent.
func TestP42ColumnsEvened(t *testing.T) {
	many := 0
	eachConsistent(t, func(rows, cols []int) {
		for j := range cols {
			for k := range cols {
				if cols[j] >= cols[k]+2 {
					many++
					consistent(t, rows, withOne(withOne(cols, j, cols[j]-1), k, cols[k]+1), true)
				}
			}
		}
	})
	if many < 1000 {
		t.Errorf("1 was moved in %d column sums only", many)
	}
}

// P43: the sums of an image are consistent, and have the excess 0.
func TestP43SumsOfImages(t *testing.T) {
	for _, a := range goodImages() {
		consistent(t, impl.RowSums(a), impl.ColSums(a), true)
		excess(t, impl.RowSums(a), impl.ColSums(a), 0)
	}
	for _, a := range badImages() {
		consistent(t, impl.RowSums(a), impl.ColSums(a), false)
		excess(t, impl.RowSums(a), impl.ColSums(a), -1)
	}
}

// P44: sums are consistent exactly if their excess is 0 and their totals are equal; the excess is that of the document.
func TestP44SumsExcess(t *testing.T) {
	eachSums(func(rows, cols []int, has bool) {
		n := excessOf(rows, cols)
		excess(t, rows, cols, n)
		if has != (n == 0 && totalOf(rows) == totalOf(cols)) || has != impl.SumsConsistent(rows, cols) {
			t.Fatalf("%v and %v have the excess %d, and SumsConsistent is %v", rows, cols, n, impl.SumsConsistent(rows, cols))
		}
	})
}

// P44: sums that no image has only for their totals have no excess; those with row sums too great have.
func TestP44TotalsDiffer(t *testing.T) {
	less, more := 0, 0
	eachSums(func(rows, cols []int, _ bool) {
		by := totalOf(rows) - totalOf(cols)
		n := impl.SumsExcess(rows, cols)
		if n < max(0, by) {
			t.Fatalf("SumsExcess of %v and %v is %d, and the totals differ by %d", rows, cols, n, by)
		}
		if n == 0 && by < 0 {
			less++
			consistent(t, rows, cols, false)
		}
		if by > 0 {
			more++
			consistent(t, rows, cols, false)
		}
	})
	if less < 1000 || more < 1000 {
		t.Errorf("SumsExcess is 0 for %d sums with totals that differ, and greater for %d", less, more)
	}
}

// P45: with a row sum greater by 1, the excess is the same or 1 greater.
func TestP45ExcessOfGreaterRow(t *testing.T) {
	equal, greater := 0, 0
	eachSums(func(rows, cols []int, _ bool) {
		n := impl.SumsExcess(rows, cols)
		for i, sum := range rows {
			if sum == len(cols) {
				continue
			}
			switch m := impl.SumsExcess(withOne(rows, i, sum+1), cols); m {
			case n:
				equal++
			case n + 1:
				greater++
			default:
				t.Fatalf("SumsExcess of %v and %v is %d, and with the row %d greater %d", rows, cols, n, i, m)
			}
		}
	})
	if equal < 1000 || greater < 1000 {
		t.Errorf("SumsExcess is the same %d times and 1 greater %d times", equal, greater)
	}
}

// P46: SumsTurn leaves what the sums lack, and twice it leads to the sums.
func TestP46SumsTurn(t *testing.T) {
	eachSums(func(rows, cols []int, _ bool) {
		others, rests := turned(t, rows, cols)
		if len(others) != len(rows) || len(rests) != len(cols) {
			t.Fatalf("SumsTurn of %v and %v is %v and %v", rows, cols, others, rests)
		}
		for i := range rows {
			if rows[i]+others[i] != len(cols) {
				t.Fatalf("SumsTurn of %v and %v has the row sums %v", rows, cols, others)
			}
		}
		for j := range cols {
			if cols[j]+rests[j] != len(rows) {
				t.Fatalf("SumsTurn of %v and %v has the column sums %v", rows, cols, rests)
			}
		}
		cells := len(rows) * len(cols)
		if totalOf(rows)+totalOf(others) != cells || totalOf(cols)+totalOf(rests) != cells {
			t.Fatalf("SumsTurn of %v and %v is %v and %v", rows, cols, others, rests)
		}
		if first, second := turned(t, others, rests); !slices.Equal(first, rows) || !slices.Equal(second, cols) {
			t.Fatalf("SumsTurn of %v and %v, twice, is %v and %v", rows, cols, first, second)
		}
	})
}

// P46: known sums for the cells that are not set.
func TestP46KnownTurns(t *testing.T) {
	for _, c := range []struct{ rows, cols, others, rests []int }{
		{[]int{0}, []int{0}, []int{1}, []int{1}},
		{[]int{1}, []int{0}, []int{0}, []int{1}},
		{[]int{2, 1}, []int{1, 1, 1}, []int{1, 2}, []int{1, 1, 1}},
		{[]int{3, 0}, []int{2, 0, 1}, []int{0, 3}, []int{0, 2, 1}},
		{[]int{4}, []int{1, 0, 0, 1}, []int{0}, []int{0, 1, 1, 0}},
		{[]int{0, 0, 1, 0, 0, 0}, []int{5}, []int{1, 1, 0, 1, 1, 1}, []int{1}},
		{[]int{6, 5, 4, 3, 2, 1}, []int{0, 1, 0, 1, 0, 6}, []int{0, 1, 2, 3, 4, 5}, []int{6, 5, 6, 5, 6, 0}},
	} {
		if others, rests := turned(t, c.rows, c.cols); !slices.Equal(others, c.others) || !slices.Equal(rests, c.rests) {
			t.Errorf("SumsTurn of %v and %v is %v and %v", c.rows, c.cols, others, rests)
		}
	}
}

// P47: SumsTurn of the sums of an image are those of ImageOther.
func TestP47SumsTurnOfImages(t *testing.T) {
	for _, a := range goodImages() {
		b := get[impl.Image](t)(impl.ImageOther(a))
		rows, cols := turned(t, impl.RowSums(a), impl.ColSums(a))
		if !slices.Equal(rows, rowSumsOf(b)) || !slices.Equal(cols, colSumsOf(b)) {
			t.Fatalf("SumsTurn of the sums of %v is %v and %v", a, rows, cols)
		}
	}
}

// P48: with a further row sum 0, wherever it stands, consistent sums stay consistent, unless there are too many then.
func TestP48FurtherRow(t *testing.T) {
	eachConsistent(t, func(rows, cols []int) {
		room := len(rows) < impl.SideMax
		for i := range len(rows) + 1 {
			consistent(t, slices.Insert(slices.Clone(rows), i, 0), cols, room)
		}
	})
}

// P49: for equal totals, the excess is the same exchanged, and for the cells that are not set, and at most the total.
func TestP49ExcessOtherwise(t *testing.T) {
	greater := 0
	eachSums(func(rows, cols []int, _ bool) {
		if totalOf(rows) != totalOf(cols) {
			return
		}
		n := impl.SumsExcess(rows, cols)
		others, rests := turned(t, rows, cols)
		excess(t, cols, rows, n)
		excess(t, others, rests, n)
		excess(t, rests, others, n)
		if n > totalOf(rows) {
			t.Fatalf("SumsExcess of %v and %v is %d", rows, cols, n)
		}
		if n > 0 {
			greater++
		}
	})
	if greater < 1000 {
		t.Errorf("SumsExcess is greater than 0 for %d sums only", greater)
	}
}

// P50: for valid sums, SumsTurn succeeds with valid sums, and so it does for both lists exchanged.
func TestP50SumsTurnOfValid(t *testing.T) {
	eachSums(func(rows, cols []int, _ bool) {
		if !impl.SumsValid(rows, cols) {
			t.Fatalf("SumsValid of %v and %v is false", rows, cols)
		}
		others, rests := turned(t, rows, cols)
		second, first := turned(t, cols, rows)
		if !impl.SumsValid(others, rests) || !impl.SumsValid(second, first) || !slices.Equal(others, first) || !slices.Equal(rests, second) {
			t.Fatalf("SumsTurn of %v and %v is %v and %v, and exchanged %v and %v", rows, cols, others, rests, second, first)
		}
	})
}

// General rule: results share no memory with arguments and with each other, the capacity of slices included.
func TestSumsTurnSharesNoMemory(t *testing.T) {
	for _, c := range knownExistence() {
		rowSpace, colSpace := append(slices.Clone(c.rows), 40, 41, 42), append(slices.Clone(c.cols), 50, 51, 52)
		oldRows, oldCols := slices.Clone(rowSpace), slices.Clone(colSpace)
		rows, cols := rowSpace[:len(c.rows)], colSpace[:len(c.cols)]
		others, rests := turned(t, rows, cols)
		first, second := turned(t, rows, cols)
		want := slices.Clone(rests)
		for k := range others[:cap(others)] {
			others[:cap(others)][k] = 99
		}
		if !slices.Equal(rests, want) {
			t.Errorf("both results of %v and %v share memory", c.rows, c.cols)
		}
		for k := range rests[:cap(rests)] {
			rests[:cap(rests)][k] = 99
		}
		again, last := turned(t, rows, cols)
		if !slices.Equal(rowSpace, oldRows) || !slices.Equal(colSpace, oldCols) || !slices.Equal(first, again) || !slices.Equal(second, last) {
			t.Errorf("a result of %v and %v shares memory", c.rows, c.cols)
		}
	}
	list := []int{1, 0, 2}
	rows, cols := turned(t, list, list)
	rows[0] = 99
	if !slices.Equal(cols, []int{2, 3, 1}) || !slices.Equal(list, []int{1, 0, 2}) {
		t.Errorf("both results of one list as both sums share memory")
	}
}
