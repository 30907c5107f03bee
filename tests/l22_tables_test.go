package tests

import (
	"math"
	"slices"
	"testing"

	"loop.example/discretetomography/impl"
)

// tableMost is the greatest height and width of a table, and valueMost the greatest absolute value of a number in it,
// written out so that the tests do not follow the program's.
const (
	tableMost = 8
	valueMost = 999
)

// tableShapes returns the shapes of all valid tables.
func tableShapes() []shape {
	var shapes []shape
	for h := 1; h <= tableMost; h++ {
		for w := 1; w <= tableMost; w++ {
			shapes = append(shapes, shape{h, w})
		}
	}
	return shapes
}

// tableWith returns the table of a shape with the numbers that a function tells.
func tableWith(s shape, number func(i int, j int) int) [][]int {
	t := make([][]int, s.h)
	for i := range t {
		for j := range s.w {
			t[i] = append(t[i], number(i, j))
		}
	}
	return t
}

// tableFull returns the table of a shape with one number in all cells.
func tableFull(s shape, n int) [][]int {
	return tableWith(s, func(int, int) int { return n })
}

// oneTable returns the table of one cell.
func oneTable(n int) [][]int {
	return [][]int{{n}}
}

// cloneTable returns a copy of a table, valid or not.
func cloneTable(t [][]int) [][]int {
	t = slices.Clone(t)
	for i := range t {
		t[i] = slices.Clone(t[i])
	}
	return t
}

// sameTable tells whether two tables are equal.
func sameTable(a [][]int, b [][]int) bool {
	return slices.EqualFunc(a, b, slices.Equal)
}

// putIn returns a copy of a table with one of its numbers replaced.
func putIn(t [][]int, i int, j int, n int) [][]int {
	t = cloneTable(t)
	t[i][j] = n
	return t
}

// isTable tells whether a table is valid. Its numbers are looked at one by one.
func isTable(t [][]int) bool {
	for _, row := range t {
		if len(row) != len(t[0]) || len(row) < 1 || len(row) > tableMost {
			return false
		}
		for _, n := range row {
			if sizeOf(n) > valueMost || n == math.MinInt {
				return false
			}
		}
	}
	return len(t) >= 1 && len(t) <= tableMost
}

// shapeOf returns the shape of a valid table.
func shapeOf(t [][]int) shape {
	return shape{len(t), len(t[0])}
}

// tableLines returns the line sums of a direction of a valid table. For each line, all cells are looked at.
func tableLines(t [][]int, d int) []int {
	low, high := endsOf(d, shapeOf(t))
	var sums []int
	for n := low; n <= high; n++ {
		sum := 0
		for i, row := range t {
			for j := range row {
				if numberOf(d, i, j) == n {
					sum += row[j]
				}
			}
		}
		sums = append(sums, sum)
	}
	return sums
}

// sizeOf returns the absolute value of a number.
func sizeOf(n int) int {
	if n < 0 {
		return -n
	}
	return n
}

// totalIn returns the sum of all numbers of a table, and the sum of their absolute values.
func totalIn(t [][]int) (int, int) {
	total, sizes := 0, 0
	for _, row := range t {
		for _, n := range row {
			total += n
			sizes += sizeOf(n)
		}
	}
	return total, sizes
}

// keepsTable tests that a table stays the same while a function is called.
func keepsTable(t *testing.T, x [][]int, call func()) {
	t.Helper()
	old := cloneTable(x)
	call()
	if !sameTable(x, old) {
		t.Fatalf("the table %v was changed to %v", old, x)
	}
}

// tableIs tests TableValid, and that the table stays.
func tableIs(t *testing.T, x [][]int, want bool) {
	t.Helper()
	keepsTable(t, x, func() {
		if ok := impl.TableValid(x); ok != want {
			t.Fatalf("TableValid of %v is %v", x, ok)
		}
	})
}

// tableOf returns TableOf, which must not have failed, nor changed the image.
func tableOf(t *testing.T, a impl.Image) [][]int {
	t.Helper()
	var x [][]int
	keeps(t, a, func() { x = get[[][]int](t)(impl.TableOf(a)) })
	want := tableWith(shape{len(a.Rows), a.W}, func(i, j int) int {
		if cellOf(a, i, j) {
			return 1
		}
		return 0
	})
	if !sameTable(x, want) {
		t.Fatalf("TableOf of %v is %v", a, x)
	}
	return x
}

// imageFor returns TableImage, which must not have failed, nor changed the table.
func imageFor(t *testing.T, x [][]int) impl.Image {
	t.Helper()
	var a impl.Image
	keepsTable(t, x, func() { a = get[impl.Image](t)(impl.TableImage(x)) })
	return a
}

// noImageFor tests that TableImage fails with the zero value, and that the table stays.
func noImageFor(t *testing.T, x [][]int) {
	t.Helper()
	keepsTable(t, x, func() {
		if a, ok := impl.TableImage(x); ok || !zeroImage(a) {
			t.Fatalf("TableImage of %v returned %v, %v", x, a, ok)
		}
	})
}

// sumsIn tests TableSums, and that the table stays, and returns them.
func sumsIn(t *testing.T, x [][]int, d int) []int {
	t.Helper()
	var sums []int
	keepsTable(t, x, func() { sums = impl.TableSums(x, d) })
	if want := tableLines(x, d); !slices.Equal(sums, want) {
		t.Fatalf("TableSums of %v in the direction %d is %v instead of %v", x, d, sums, want)
	}
	return sums
}

// noSumsIn tests that there are no TableSums, and that the table stays.
func noSumsIn(t *testing.T, x [][]int, d int) {
	t.Helper()
	keepsTable(t, x, func() {
		if sums := impl.TableSums(x, d); len(sums) != 0 {
			t.Fatalf("TableSums of %v in the direction %d is %v", x, d, sums)
		}
	})
}

// totals tests TableTotal, and that the table stays.
func totals(t *testing.T, x [][]int, want int) {
	t.Helper()
	keepsTable(t, x, func() {
		if total := impl.TableTotal(x); total != want {
			t.Fatalf("TableTotal of %v is %d instead of %d", x, total, want)
		}
	})
}

// addition is what TableAdd is called with.
type addition struct {
	a, b        [][]int
	times, i, j int
}

// sum returns the table that an addition of two valid tables leads to, and whether there is one.
// The cells of the first table are looked at one by one, and those that are met counted.
func (x addition) sum() ([][]int, bool) {
	met := 0
	sum := tableWith(shapeOf(x.a), func(k, l int) int {
		n := x.a[k][l]
		// The second table has a cell here if its first row and column, moved, are not behind it, nor its last ones ahead.
		if k >= x.i && l >= x.j && k-len(x.b) < x.i && l-len(x.b[0]) < x.j {
			met++
			n += x.times * x.b[k-x.i][l-x.j]
		}
		return n
	})
	return sum, met == len(x.b)*len(x.b[0]) && sizeOf(x.times) <= valueMost && isTable(sum)
}

// call returns TableAdd, and tests that both tables stay.
func (x addition) call(t *testing.T) ([][]int, bool) {
	t.Helper()
	var sum [][]int
	var ok bool
	keepsTable(t, x.a, func() {
		keepsTable(t, x.b, func() { sum, ok = impl.TableAdd(x.a, x.b, x.times, x.i, x.j) })
	})
	return sum, ok
}

// adds tests that TableAdd succeeds with the table that it should return, and returns this.
func (x addition) adds(t *testing.T) [][]int {
	t.Helper()
	sum, ok := x.call(t)
	if want, can := x.sum(); !ok || !can || !sameTable(sum, want) {
		t.Fatalf("TableAdd of %v returned %v, %v", x, sum, ok)
	}
	return sum
}

// fails tests that TableAdd fails without a table.
func (x addition) fails(t *testing.T) {
	t.Helper()
	if sum, ok := x.call(t); ok || len(sum) != 0 {
		t.Fatalf("TableAdd of %v returned %v, %v", x, sum, ok)
	}
}

// behaves tests that TableAdd succeeds exactly if it should.
func (x addition) behaves(t *testing.T) {
	t.Helper()
	if _, can := x.sum(); can {
		x.adds(t)
	} else {
		x.fails(t)
	}
}

// goodTables returns valid tables of all shapes: with zeros, with the least and the greatest numbers, in all cells, in some, or in one,
// and with numbers without order.
func goodTables() [][][]int {
	var list [][][]int
	for _, s := range tableShapes() {
		number := numbersFrom(100*s.h + s.w)
		zeros := tableFull(s, 0)
		list = append(list, zeros, tableFull(s, 1), tableFull(s, -1), tableFull(s, valueMost), tableFull(s, -valueMost),
			tableWith(s, func(i, j int) int { return valueMost * (1 - (i+j)%2*2) }),
			tableWith(s, func(i, j int) int { return i*s.w + j + 1 }),
			tableWith(s, func(i, j int) int { return -i*s.w - j }),
			putIn(zeros, 0, 0, valueMost), putIn(zeros, s.h-1, s.w-1, -valueMost), putIn(zeros, 0, s.w-1, -1), putIn(zeros, s.h-1, 0, 1),
			putIn(zeros, number(s.h), number(s.w), 7))
		for _, most := range []int{1, 9, valueMost, valueMost} {
			list = append(list, tableWith(s, func(int, int) int { return number(2*most+1) - most }))
		}
		list = append(list, tableWith(s, func(int, int) int { return number(2) }))
	}
	return list
}

// numbersBeyond has numbers that no table has.
var numbersBeyond = []int{valueMost + 1, -valueMost - 1, valueMost + 2, 1023, 1024, -1024, 1 << 32, -1 << 32, math.MaxInt, math.MinInt, math.MinInt + 1}

// badShapes returns tables that are not valid because of their numbers of rows and columns.
func badShapes() [][][]int {
	list := [][][]int{
		nil, {}, {nil}, {{}}, {{}, {}}, {{}, {}, {}}, make([][]int, tableMost), make([][]int, tableMost+1),
		{{1}, {}}, {{}, {1}}, {{1}, nil}, {nil, {1}}, {{1}, {}, {1}}, {{0}, {0}, {}},
		{{1, 2}, {3}}, {{1}, {2, 3}}, {{1, 2}, {3, 4}, {5}}, {{1}, {2, 3}, {4}}, {{1, 2, 3}, {4, 5}, {6}}, {{1}, {2}, {3, 4}},
		tableFull(shape{100, 1}, 0), tableFull(shape{1, 100}, 0), tableFull(shape{64, 64}, 0),
	}
	for n := 1; n <= tableMost+1; n++ {
		list = append(list, tableFull(shape{tableMost + 1, n}, 0), tableFull(shape{n, tableMost + 1}, 1), tableFull(shape{n, 0}, 0))
	}
	for _, s := range tableShapes() {
		if s.h == 1 {
			// The only row has no other one from which it could differ.
			continue
		}
		for i := range s.h {
			longer, shorter := tableFull(s, 0), tableFull(s, 0)
			longer[i] = append(longer[i], 0)
			shorter[i] = shorter[i][1:]
			list = append(list, longer, shorter)
		}
	}
	return list
}

// badTables returns tables that are not valid.
func badTables() [][][]int {
	list := badShapes()
	for _, s := range tableShapes() {
		for k, n := range numbersBeyond {
			i, j := k%s.h, k/s.h%s.w
			list = append(list, putIn(tableFull(s, 0), i, j, n), putIn(tableFull(s, 1), s.h-1, s.w-1, n), tableFull(s, n))
		}
	}
	return list
}

// The kinds of additions: by the factors 0, 1 and -1, by the greatest and the least one, and by any small one.
const (
	timesZero = iota
	timesOne
	timesMinusOne
	timesGreatest
	timesLeast
	timesSmall
	kindsMany
)

// additionOf returns an addition of a kind that succeeds, with the shapes of both tables and the place of the second one.
func additionOf(kind int, s shape, part shape, i int, j int, number func(many int) int) addition {
	upTo := func(most int) func(int, int) int {
		return func(int, int) int { return number(2*most+1) - most }
	}
	x := addition{a: tableWith(s, upTo(valueMost)), b: tableWith(part, upTo(valueMost)), i: i, j: j}
	switch kind {
	case timesOne, timesMinusOne:
		x.a, x.b, x.times = tableWith(s, upTo(499)), tableWith(part, upTo(500)), 1
	case timesGreatest, timesLeast:
		x.times = valueMost
	case timesSmall:
		x.a, x.b, x.times = tableWith(s, upTo(99)), tableWith(part, upTo(100)), number(19)-9
	}
	if kind == timesMinusOne || kind == timesLeast {
		x.times = -x.times
	}
	if kind == timesGreatest || kind == timesLeast {
		// Such a factor leads beyond the range unless it leads toward 0, and past it.
		x.b = tableWith(part, func(k, l int) int {
			if x.a[i+k][j+l]*x.times > 0 {
				return -number(2)
			}
			return number(2)
		})
	}
	return x
}

// eachAdded calls a function for additions that succeed, and the table to which they lead:
// for all shapes of two tables and all places of the second one within the first one.
func eachAdded(t *testing.T, visit func(x addition, sum [][]int)) {
	t.Helper()
	number := numbersFrom(22)
	var many [kindsMany]int
	for _, s := range tableShapes() {
		for _, part := range tableShapes() {
			for i := 0; i+part.h <= s.h; i++ {
				for j := 0; j+part.w <= s.w; j++ {
					kind := number(kindsMany)
					x := additionOf(kind, s, part, i, j, number)
					visit(x, x.adds(t))
					many[kind]++
				}
			}
		}
	}
	if slices.Min(many[:]) < 1000 {
		t.Fatalf("of the kinds of additions, there were %v", many)
	}
}

// P162: the table of an image is valid, leads back to it, and has its line sums in each direction.
func TestP162TableOf(t *testing.T) {
	for _, a := range goodImages() {
		x := tableOf(t, a)
		tableIs(t, x, true)
		if b := imageFor(t, x); !sameImage(a, b) {
			t.Fatalf("TableImage of the table of %v is %v", a, b)
		}
		for d := range directionsMany {
			if sums := sumsIn(t, x, d); !slices.Equal(sums, impl.DirSums(a, d)) || !slices.Equal(sums, lineSums(a, d)) {
				t.Fatalf("TableSums of the table of %v in the direction %d is %v", a, d, sums)
			}
		}
	}
}

// knownTables has images and their tables.
func knownTables() []struct {
	a impl.Image
	x [][]int
} {
	return []struct {
		a impl.Image
		x [][]int
	}{
		{rowsOf(1, 0), [][]int{{0}}},
		{rowsOf(1, 1), [][]int{{1}}},
		{rowsOf(3, 3), [][]int{{1, 1, 0}}},
		{rowsOf(1, 0, 1, 1), [][]int{{0}, {1}, {1}}},
		{rowsOf(3, 5, 6), [][]int{{1, 0, 1}, {0, 1, 1}}},
		{rowsOf(6, 1, 32, 0), [][]int{{1, 0, 0, 0, 0, 0}, {0, 0, 0, 0, 0, 1}, {0, 0, 0, 0, 0, 0}}},
		{rowsOf(6, 63, 31, 15, 7, 3, 1), [][]int{
			{1, 1, 1, 1, 1, 1}, {1, 1, 1, 1, 1, 0}, {1, 1, 1, 1, 0, 0}, {1, 1, 1, 0, 0, 0}, {1, 1, 0, 0, 0, 0}, {1, 0, 0, 0, 0, 0},
		}},
	}
}

// P162: the tables of images known by hand.
func TestP162KnownTables(t *testing.T) {
	for _, c := range knownTables() {
		if x := tableOf(t, c.a); !sameTable(x, c.x) {
			t.Errorf("TableOf of %v is %v", c.a, x)
		}
	}
}

// P162: an invalid image has no table.
func TestP162NoTable(t *testing.T) {
	for _, a := range badImages() {
		keeps(t, a, func() {
			if x, ok := impl.TableOf(a); ok || len(x) != 0 {
				t.Errorf("TableOf of the invalid image %v is %v, %v", a, x, ok)
			}
		})
	}
}

// P163: the image of a table is valid, and TableOf of it is the table.
func TestP163TableImage(t *testing.T) {
	for _, c := range knownTables() {
		if a := imageFor(t, c.x); !sameImage(a, c.a) {
			t.Errorf("TableImage of %v is %v", c.x, a)
		}
	}
	for _, s := range allShapes() {
		number := numbersFrom(s.h + 10*s.w)
		for range 50 {
			x := tableWith(s, func(int, int) int { return number(2) })
			a := imageFor(t, x)
			if !impl.ImageValid(a) || !sameTable(tableOf(t, a), x) {
				t.Fatalf("TableImage of %v is %v", x, a)
			}
		}
	}
}

// P163: a table with any other number than 0 and 1 has no image.
func TestP163OtherNumbers(t *testing.T) {
	for _, s := range allShapes() {
		for _, n := range []int{-1, 2, -2, 3, 4, 8, 16, 32, 63, 64, 256, valueMost, -valueMost} {
			for i := range s.h {
				for j := range s.w {
					noImageFor(t, putIn(tableFull(s, 0), i, j, n))
					noImageFor(t, putIn(tableFull(s, 1), i, j, n))
				}
			}
			noImageFor(t, tableFull(s, n))
		}
	}
}

// P163: a table with more rows or columns than an image may have has no image, and an invalid one neither.
func TestP163NoImage(t *testing.T) {
	for _, s := range tableShapes() {
		for _, n := range []int{0, 1} {
			if s.h > impl.SideMax || s.w > impl.SideMax {
				noImageFor(t, tableFull(s, n))
			} else {
				imageFor(t, tableFull(s, n))
			}
		}
	}
	for _, x := range badTables() {
		noImageFor(t, x)
	}
}

// P164: the first rows of a valid table are one, too.
func TestP164FirstRows(t *testing.T) {
	for _, x := range goodTables() {
		for many := 1; many <= len(x); many++ {
			tableIs(t, x[:many], true)
		}
		tableIs(t, x[:0], false)
	}
}

// P164: a valid table is none with a row more that is longer by 1, nor with one of its rows longer by 1, or shorter, if there are others.
func TestP164OtherRows(t *testing.T) {
	for _, s := range tableShapes() {
		x := tableFull(s, 5)
		tableIs(t, append(cloneTable(x), fullOf(s.w+1, 5)), false)
		tableIs(t, append(cloneTable(x), fullOf(s.w-1, 5)), false)
		tableIs(t, append([][]int{fullOf(s.w+1, 5)}, x...), false)
		tableIs(t, append([][]int{fullOf(s.w-1, 5)}, x...), false)
		tableIs(t, append(cloneTable(x), fullOf(s.w, 5)), s.h < tableMost)
		for i := range x {
			// A table of one row has no other one, and may be longer or shorter.
			longer, shorter := cloneTable(x), cloneTable(x)
			longer[i], shorter[i] = fullOf(s.w+1, 5), fullOf(s.w-1, 5)
			tableIs(t, longer, s.h == 1 && s.w < tableMost)
			tableIs(t, shorter, s.h == 1 && s.w > 1)
		}
	}
}

// P164: each cell may have the numbers -ValueMax to ValueMax, and no other one.
func TestP164Numbers(t *testing.T) {
	if impl.TableMax != tableMost || impl.ValueMax != valueMost {
		t.Fatalf("TableMax is %d, and ValueMax %d", impl.TableMax, impl.ValueMax)
	}
	for n := -valueMost - 2; n <= valueMost+2; n++ {
		tableIs(t, oneTable(n), n >= -valueMost && n <= valueMost)
	}
	for _, s := range tableShapes() {
		for i := range s.h {
			for j := range s.w {
				tableIs(t, putIn(tableFull(s, 0), i, j, valueMost), true)
				tableIs(t, putIn(tableFull(s, 0), i, j, -valueMost), true)
				for _, n := range numbersBeyond {
					tableIs(t, putIn(tableFull(s, 0), i, j, n), false)
				}
			}
		}
	}
}

// P164: tables of all shapes are valid, and invalid ones are not.
func TestP164Valid(t *testing.T) {
	for _, x := range goodTables() {
		tableIs(t, x, true)
	}
	for _, x := range badTables() {
		tableIs(t, x, false)
	}
}

// P165: the sum over all lines is that of all numbers.
func TestP165AllLines(t *testing.T) {
	for _, x := range goodTables() {
		total, _ := totalIn(x)
		for d := range directionsMany {
			if sums := sumsIn(t, x, d); totalOf(sums) != total {
				t.Fatalf("TableSums of %v in the direction %d is %v", x, d, sums)
			}
		}
	}
}

// P165: the line sums of tables found by hand, of lines without cells among them.
func TestP165KnownSums(t *testing.T) {
	for _, c := range []struct {
		x    [][]int
		sums [directionsMany][]int
	}{
		{oneTable(-999), [directionsMany][]int{{-999}, {-999}, {-999}, {-999}, {-999}, {-999}, {-999}, {-999}}},
		{[][]int{{1, -20, 300}}, [directionsMany][]int{
			{281}, {300, -20, 1}, {300, -20, 1}, {1, -20, 300}, {300, -20, 1}, {300, 0, -20, 0, 1}, {1, -20, 300}, {1, 0, -20, 0, 300},
		}},
		{[][]int{{1}, {-20}, {300}}, [directionsMany][]int{
			{1, -20, 300}, {281}, {1, -20, 300}, {1, -20, 300}, {1, 0, -20, 0, 300}, {1, -20, 300}, {1, 0, -20, 0, 300}, {1, -20, 300},
		}},
		{[][]int{{1, 2}, {-3, 40}}, [directionsMany][]int{
			{3, 37}, {42, -2}, {2, 41, -3}, {1, -1, 40}, {2, 1, 40, -3}, {2, 40, 1, -3}, {1, 2, -3, 40}, {1, -3, 2, 40},
		}},
		{[][]int{{1, 2, 4}, {8, 16, -32}}, [directionsMany][]int{
			{7, -8}, {-28, 18, 9}, {4, -30, 17, 8}, {1, 10, 20, -32},
			{4, 2, -31, 16, 8}, {4, -32, 2, 16, 1, 8}, {1, 2, 12, 16, -32}, {1, 8, 2, 16, 4, -32},
		}},
	} {
		for d, want := range c.sums {
			if sums := sumsIn(t, c.x, d); !slices.Equal(sums, want) {
				t.Errorf("TableSums of %v in the direction %d is %v instead of %v", c.x, d, sums, want)
			}
		}
	}
}

// P165: the line sums of the greatest table, with 1 in all cells, and with the greatest and the least numbers.
func TestP165Greatest(t *testing.T) {
	slope := []int{1, 2, 3, 4, 5, 6, 7, 8, 7, 6, 5, 4, 3, 2, 1}
	steep := []int{1, 1, 2, 2, 3, 3, 4, 4, 4, 4, 4, 4, 4, 4, 4, 4, 3, 3, 2, 2, 1, 1}
	s := shape{tableMost, tableMost}
	for d, lines := range [directionsMany][]int{fullOf(8, 8), fullOf(8, 8), slope, slope, steep, steep, steep, steep} {
		for _, n := range []int{1, 0, valueMost, -valueMost} {
			want := slices.Clone(lines)
			for k := range want {
				want[k] *= n
			}
			if sums := sumsIn(t, tableFull(s, n), d); !slices.Equal(sums, want) {
				t.Errorf("TableSums of the greatest table with %d in all cells in the direction %d is %v", n, d, sums)
			}
		}
	}
}

// P165: there are no line sums of an invalid table, nor in no direction.
func TestP165NoSums(t *testing.T) {
	for _, x := range badTables() {
		for d := -1; d <= directionsMany; d++ {
			noSumsIn(t, x, d)
		}
	}
	for _, x := range goodTables() {
		for _, d := range noDirections {
			noSumsIn(t, x, d)
		}
	}
}

// P166: the direction 0 has the sums of all rows, and no line sum exceeds the total in its absolute value.
func TestP166RowsAndTotal(t *testing.T) {
	for _, x := range goodTables() {
		var rows []int
		for _, row := range x {
			rows = append(rows, totalOf(row))
		}
		if sums := sumsIn(t, x, 0); !slices.Equal(sums, rows) {
			t.Fatalf("TableSums of %v in the direction 0 is %v", x, sums)
		}
		total := impl.TableTotal(x)
		for d := range directionsMany {
			if sums := sumsIn(t, x, d); slices.Max(sums) > total || slices.Min(sums) < -total {
				t.Fatalf("TableSums of %v in the direction %d is %v, and TableTotal %d", x, d, sums, total)
			}
		}
	}
}

// P166: the direction 1 has the sums of all columns, from the last one to the first one.
func TestP166Columns(t *testing.T) {
	for _, x := range goodTables() {
		cols := make([]int, len(x[0]))
		for _, row := range x {
			for j, n := range row {
				cols[j] += n
			}
		}
		if sums := sumsIn(t, x, 1); !slices.Equal(sums, backward(cols)) {
			t.Fatalf("TableSums of %v in the direction 1 is %v", x, sums)
		}
	}
}

// P167: the opposite factor leads back.
func TestP167Back(t *testing.T) {
	eachAdded(t, func(x addition, sum [][]int) {
		if back := (addition{sum, x.b, -x.times, x.i, x.j}).adds(t); !sameTable(back, x.a) {
			t.Fatalf("TableAdd of %v is %v, and leads back to %v", x, sum, back)
		}
	})
}

// P167: additions found by hand.
func TestP167KnownAdditions(t *testing.T) {
	three := [][]int{{1, 2, 3}, {4, 5, 6}, {7, 8, 9}}
	for _, c := range []struct {
		x    addition
		want [][]int
	}{
		{addition{oneTable(3), oneTable(5), 2, 0, 0}, oneTable(13)},
		{addition{oneTable(-999), oneTable(2), 999, 0, 0}, oneTable(999)},
		{addition{three, oneTable(10), 1, 0, 2}, [][]int{{1, 2, 13}, {4, 5, 6}, {7, 8, 9}}},
		{addition{three, oneTable(10), -1, 2, 0}, [][]int{{1, 2, 3}, {4, 5, 6}, {-3, 8, 9}}},
		{addition{three, [][]int{{1, -1}}, 100, 1, 1}, [][]int{{1, 2, 3}, {4, 105, -94}, {7, 8, 9}}},
		{addition{three, [][]int{{1}, {-1}}, 100, 1, 1}, [][]int{{1, 2, 3}, {4, 105, 6}, {7, -92, 9}}},
		{addition{three, [][]int{{10, 20}, {30, 40}}, 3, 1, 0}, [][]int{{1, 2, 3}, {34, 65, 6}, {97, 128, 9}}},
		{addition{three, three, -1, 0, 0}, [][]int{{0, 0, 0}, {0, 0, 0}, {0, 0, 0}}},
		{addition{three, three, 2, 0, 0}, [][]int{{3, 6, 9}, {12, 15, 18}, {21, 24, 27}}},
		{addition{three, [][]int{{999, 999, 999}}, 0, 2, 0}, three},
	} {
		if sum := c.x.adds(t); !sameTable(sum, c.want) {
			t.Errorf("TableAdd of %v is %v", c.x, sum)
		}
	}
}

// P167: the second table must lie within the first one, at whatever cell it begins.
func TestP167Places(t *testing.T) {
	for _, s := range tableShapes() {
		a := tableWith(s, func(i, j int) int { return 10*i + j })
		for _, part := range tableShapes() {
			b := tableWith(part, func(i, j int) int { return 9 - i*j })
			for i := -part.h; i <= s.h; i++ {
				for j := -part.w; j <= s.w; j++ {
					addition{a, b, 7, i, j}.behaves(t)
				}
			}
		}
	}
}

// P167: places far away are not within, even for a second table of zeros, or with the factor 0.
func TestP167FarAway(t *testing.T) {
	far := []int{-1, -2, -8, -64, 8, 9, 64, 1 << 32, -1 << 32, math.MaxInt, math.MaxInt - 1, math.MinInt, math.MinInt + 1}
	for _, s := range tableShapes() {
		a := tableFull(s, 3)
		for _, part := range []shape{{1, 1}, {1, 2}, {2, 1}, {s.h, s.w}, {tableMost, tableMost}} {
			for _, times := range []int{0, 1, -5} {
				for _, n := range far {
					for _, place := range [][2]int{{n, 0}, {0, n}, {n, n}, {n, s.w - 1}, {s.h - 1, n}, {-n, n}} {
						addition{a, tableFull(part, 0), times, place[0], place[1]}.fails(t)
						addition{a, tableFull(part, 1), times, place[0], place[1]}.fails(t)
					}
				}
			}
		}
	}
}

// P167: a factor beyond the range fails, even if the result is valid, or would be after an overflow.
func TestP167Factors(t *testing.T) {
	for _, s := range tableShapes() {
		for _, times := range []int{valueMost, -valueMost} {
			addition{tableFull(s, 0), tableFull(s, 1), times, 0, 0}.adds(t)
			addition{tableFull(s, 0), tableFull(s, -1), times, 0, 0}.adds(t)
			addition{tableFull(s, -times), tableFull(s, 2), times, 0, 0}.adds(t)
		}
		for _, times := range append([]int{1 << 60, 1 << 62, -1 << 62}, numbersBeyond...) {
			for _, n := range []int{0, 1, -1, 2, 16, 512, valueMost} {
				addition{tableFull(s, 0), tableFull(s, n), times, 0, 0}.fails(t)
				addition{tableFull(s, -valueMost), oneTable(n), times, s.h - 1, s.w - 1}.fails(t)
				addition{tableFull(s, valueMost), oneTable(n), times, 0, 0}.fails(t)
			}
		}
	}
}

// P167: a result may have the numbers -ValueMax and ValueMax, and none beyond, for all factors.
func TestP167Results(t *testing.T) {
	for times := -valueMost; times <= valueMost; times++ {
		for _, n := range []int{0, 1, -1, 2, -2, 3, 10, -37, 500, -500, valueMost, -valueMost} {
			for _, end := range []int{valueMost, -valueMost} {
				for from := end - times*n - 1; from <= end-times*n+1; from++ {
					if sizeOf(from) <= valueMost {
						addition{oneTable(from), oneTable(n), times, 0, 0}.behaves(t)
					}
				}
			}
		}
	}
}

// P167: one cell beyond the range is enough for the result to be invalid, whichever it is.
func TestP167OneCellBeyond(t *testing.T) {
	for _, s := range tableShapes() {
		for i := range s.h {
			for j := range s.w {
				for _, end := range []int{1, -1} {
					a := putIn(tableFull(s, 0), i, j, (valueMost-6)*end)
					addition{a, oneTable(3 * end), 2, i, j}.adds(t)
					addition{a, oneTable(-7 * end), -1, i, j}.fails(t)
					addition{a, tableFull(s, 2), 3 * end, 0, 0}.adds(t)
					addition{a, tableFull(s, end), 7, 0, 0}.fails(t)
				}
			}
		}
	}
}

// P167: no table is added to an invalid one, and no invalid one to a table, whatever the factor.
func TestP167InvalidTables(t *testing.T) {
	for _, x := range badTables() {
		for _, times := range []int{0, 1, -1, valueMost} {
			addition{x, oneTable(0), times, 0, 0}.fails(t)
			addition{tableFull(shape{tableMost, tableMost}, 0), x, times, 0, 0}.fails(t)
			addition{x, x, times, 0, 0}.fails(t)
		}
	}
}

// P167: a table with a number that is not valid stays invalid, even if the sum would be valid.
func TestP167InvalidNumbers(t *testing.T) {
	for _, n := range []int{valueMost + 1, -valueMost - 1} {
		addition{oneTable(n), oneTable(n / (valueMost + 1)), -1, 0, 0}.fails(t)
		addition{oneTable(n / (valueMost + 1)), oneTable(n), -1, 0, 0}.fails(t)
		addition{oneTable(n), oneTable(n), -1, 0, 0}.fails(t)
	}
}

// P167: the same table may be given twice, and the second one may be a part of the memory of the first one.
func TestP167SameMemory(t *testing.T) {
	for _, x := range goodTables() {
		for _, times := range []int{0, 1, -1, -2, 3, valueMost} {
			addition{x, x, times, 0, 0}.behaves(t)
			for i := range x {
				for many := 1; many <= len(x); many++ {
					addition{x, x[:many], times, i, 0}.behaves(t)
				}
				addition{x, x[i:], times, 0, 0}.behaves(t)
			}
		}
	}
	row := []int{1, 2}
	twice := [][]int{row, row}
	if sum := (addition{twice, oneTable(5), 1, 1, 0}).adds(t); !sameTable(sum, [][]int{{1, 2}, {6, 2}}) {
		t.Errorf("TableAdd to a table with a row that is there twice is %v", sum)
	}
}

// P168: for tables of the same shape, each line sum is that of the first one and the factor times that of the second one.
func TestP168LineSums(t *testing.T) {
	number := numbersFrom(168)
	for _, s := range tableShapes() {
		for kind := range kindsMany {
			for range 5 {
				x := additionOf(kind, s, s, 0, 0, number)
				sum := x.adds(t)
				for d := range directionsMany {
					first, second, both := sumsIn(t, x.a, d), sumsIn(t, x.b, d), sumsIn(t, sum, d)
					for k := range both {
						if both[k] != first[k]+x.times*second[k] {
							t.Fatalf("TableSums of %v in the direction %d is %v", sum, d, both)
						}
					}
				}
			}
		}
	}
}

// P169: with the factor 0, the result is the first table; the total of a result is at most that of both.
func TestP169Totals(t *testing.T) {
	eachAdded(t, func(x addition, sum [][]int) {
		if same := (addition{x.a, x.b, 0, x.i, x.j}).adds(t); !sameTable(same, x.a) {
			t.Fatalf("TableAdd of %v with the factor 0 is %v", x, same)
		}
		if most := impl.TableTotal(x.a) + sizeOf(x.times)*impl.TableTotal(x.b); impl.TableTotal(sum) > most {
			t.Fatalf("TableTotal of the result of %v is %d", x, impl.TableTotal(sum))
		}
	})
}

// P170: adding the second table once more, and then with the factor -1, changes nothing.
func TestP170OnceMore(t *testing.T) {
	more := 0
	eachAdded(t, func(x addition, sum [][]int) {
		again := addition{sum, x.b, 1, x.i, x.j}
		if _, can := again.sum(); !can {
			again.fails(t)
			return
		}
		more++
		if back := (addition{again.adds(t), x.b, -1, x.i, x.j}).adds(t); !sameTable(back, sum) {
			t.Fatalf("TableAdd of %v, with the second table once more and taken away, is %v", x, back)
		}
	})
	if more < 3000 {
		t.Fatalf("only %d additions could be done once more", more)
	}
}

// P171: the total is 0 for zeros alone, and that of the table with the factor -1 is the same.
func TestP171Total(t *testing.T) {
	for _, x := range goodTables() {
		_, sizes := totalIn(x)
		totals(t, x, sizes)
		zeros := tableFull(shapeOf(x), 0)
		if total := impl.TableTotal(x); (total == 0) != sameTable(x, zeros) {
			t.Fatalf("TableTotal of %v is %d", x, total)
		}
		totals(t, addition{zeros, x, -1, 0, 0}.adds(t), sizes)
	}
}

// P171: totals found by hand, and those of tables with only one number other than 0.
func TestP171KnownTotals(t *testing.T) {
	totals(t, [][]int{{1, 2, 3}}, 6)
	totals(t, [][]int{{1, -2}, {-3, 4}}, 10)
	totals(t, [][]int{{-1, 1}, {1, -1}}, 4)
	totals(t, [][]int{{-5}, {0}, {5}}, 10)
	totals(t, tableFull(shape{tableMost, tableMost}, valueMost), 63936)
	totals(t, tableFull(shape{tableMost, tableMost}, -valueMost), 63936)
	for n := range valueMost + 1 {
		totals(t, oneTable(n), n)
		totals(t, oneTable(-n), n)
	}
	for _, s := range tableShapes() {
		for i := range s.h {
			for j := range s.w {
				totals(t, putIn(tableFull(s, 0), i, j, 8), 8)
				totals(t, putIn(tableFull(s, -1), i, j, 2), s.h*s.w+1)
			}
		}
	}
}

// P171: an invalid table has the total -1.
func TestP171NoTotal(t *testing.T) {
	for _, x := range badTables() {
		totals(t, x, -1)
	}
}

// P172: the number 1 added at the cell (0, 0) ahead or behind is the same.
func TestP172AheadOrBehind(t *testing.T) {
	both := 0
	eachAdded(t, func(x addition, sum [][]int) {
		behind, first := addition{sum, oneTable(1), 1, 0, 0}, addition{x.a, oneTable(1), 1, 0, 0}
		behind.behaves(t)
		first.behaves(t)
		start, can := first.sum()
		if !can {
			return
		}
		ahead := addition{start, x.b, x.times, x.i, x.j}
		ahead.behaves(t)
		one, could := behind.sum()
		if other, can := ahead.sum(); can && could {
			both++
			if !sameTable(one, other) || !sameTable(behind.adds(t), ahead.adds(t)) {
				t.Fatalf("with 1 behind %v, TableAdd is %v, and with 1 ahead %v", x, one, other)
			}
		}
	})
	if both < 10000 {
		t.Fatalf("only %d additions succeeded in both ways", both)
	}
}

// P173: the total is that of the first rows and that of the others.
func TestP173Parts(t *testing.T) {
	for _, x := range goodTables() {
		for many := 1; many < len(x); many++ {
			if first, others := impl.TableTotal(x[:many]), impl.TableTotal(x[many:]); impl.TableTotal(x) != first+others {
				t.Fatalf("TableTotal of %v is %d, that of the first %d rows %d and that of the others %d", x, impl.TableTotal(x), many, first, others)
			}
		}
	}
}

// P174: setting a cell of an image adds 1 to its table there.
func TestP174OneCellSet(t *testing.T) {
	for _, a := range goodImages() {
		x := tableOf(t, a)
		eachCell(a, func(i, j int) {
			if !cellOf(a, i, j) {
				more := tableOf(t, get[impl.Image](t)(impl.ImagePut(a, i, j, true)))
				if sum := (addition{x, oneTable(1), 1, i, j}).adds(t); !sameTable(sum, more) {
					t.Fatalf("with (%d, %d) set in %v, TableOf is %v and TableAdd %v", i, j, a, more, sum)
				}
			}
		})
	}
}

// spoil changes all numbers of a table, and those in the capacity of its rows, and takes its rows away.
func spoil(x [][]int) {
	x = x[:cap(x)]
	for i, row := range x {
		row = row[:cap(row)]
		for j := range row {
			row[j] = -77
		}
		x[i] = nil
	}
}

// spaciousTable returns a copy of a table with further numbers behind each row and further rows behind it, in the same memory,
// and a function that tests that all of this is unchanged.
func spaciousTable(t *testing.T, x [][]int) ([][]int, func()) {
	var space, old [][]int
	for _, row := range x {
		space = append(space, append(slices.Clone(row), 41, 42, 43))
	}
	space = append(space, []int{44}, []int{45})
	old = cloneTable(space)
	given := slices.Clone(space)
	for i := range x {
		given[i] = space[i][:len(x[i])]
	}
	return given[:len(x)], func() {
		t.Helper()
		for i := range space {
			if !slices.Equal(space[i], old[i]) || given[i] == nil {
				t.Errorf("behind the table %v, the memory was changed to %v", x, space)
			}
		}
	}
}

// General rule: results share no memory with arguments and with each other, the capacity of slices included.
func TestTablesShareNoMemory(t *testing.T) {
	for _, c := range knownTables() {
		s := shapeOf(c.x)
		x, stays := spaciousTable(t, c.x)
		y, alsoStays := spaciousTable(t, tableFull(s, 2))
		for _, call := range []func() ([][]int, bool){
			func() ([][]int, bool) { return impl.TableOf(c.a) },
			func() ([][]int, bool) { return impl.TableAdd(x, y, 3, 0, 0) },
			func() ([][]int, bool) { return impl.TableAdd(x, y, 0, 0, 0) },
			func() ([][]int, bool) { return impl.TableAdd(x, x, 1, 0, 0) },
		} {
			first, second := get[[][]int](t)(call()), get[[][]int](t)(call())
			want := cloneTable(second)
			spoil(first)
			if !sameTable(second, want) || !sameTable(get[[][]int](t)(call()), want) {
				t.Errorf("the tables for %v share memory", c.a)
			}
			stays()
			alsoStays()
		}
		a, b := imageFor(t, x), imageFor(t, x)
		rows := a.Rows[:cap(a.Rows)]
		for i := range rows {
			rows[i] = 99
		}
		if !sameImage(b, c.a) || !sameImage(imageFor(t, x), c.a) {
			t.Errorf("the images of %v share memory", x)
		}
		for d := range directionsMany {
			sums := impl.TableSums(x, d)
			sums = sums[:cap(sums)]
			for k := range sums {
				sums[k] = 99
			}
			sumsIn(t, x, d)
		}
		stays()
	}
}

// General rule: the rows of a result share no memory with each other, the capacity of slices included.
func TestTableRowsShareNoMemory(t *testing.T) {
	for _, s := range tableShapes() {
		x := get[[][]int](t)(impl.TableAdd(tableFull(s, 1), tableFull(s, 1), 1, 0, 0))
		if s.h <= impl.SideMax && s.w <= impl.SideMax {
			rowsApart(t, get[[][]int](t)(impl.TableOf(rowsOf(s.w, fullOf(s.h, 1)...))))
		}
		rowsApart(t, x)
	}
}

// rowsApart tests that changing a row of a table, and what is behind it, changes no other row.
func rowsApart(t *testing.T, x [][]int) {
	t.Helper()
	for i := range x {
		want := cloneTable(x)
		row := x[i][:cap(x[i])]
		for j := range row {
			row[j] = -50 - i
		}
		want[i] = fullOf(len(x[i]), -50-i)
		if !sameTable(x, want) {
			t.Fatalf("with the row %d changed, the table is %v instead of %v", i, x, want)
		}
	}
}
