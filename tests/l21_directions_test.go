package tests

import (
	"math"
	"slices"
	"testing"

	"loop.example/discretetomography/impl"
)

// directionsMany is the number of directions, written out so that the tests do not follow the program's.
const directionsMany = 8

// knownSteps has the steps X and Y of each direction.
var knownSteps = [directionsMany][2]int{{1, 0}, {0, 1}, {1, 1}, {1, -1}, {2, 1}, {1, 2}, {2, -1}, {1, -2}}

// noDirections has numbers that are no directions.
var noDirections = []int{-1, -2, -8, directionsMany, directionsMany + 1, 2 * directionsMany, 63, 64, 256, 1 << 32, math.MaxInt, math.MinInt}

// numberOf returns the number of the line of a direction on which the cell (i, j) is.
func numberOf(d int, i int, j int) int {
	return knownSteps[d][0]*i - knownSteps[d][1]*j
}

// endsOf returns the least and the greatest number of a line that a cell of a shape has. All its cells are looked at.
func endsOf(d int, s shape) (int, int) {
	low, high := math.MaxInt, math.MinInt
	for i := range s.h {
		for j := range s.w {
			low, high = min(low, numberOf(d, i, j)), max(high, numberOf(d, i, j))
		}
	}
	return low, high
}

// lineSums returns the numbers of set cells on the lines of a direction. For each line, all cells are looked at.
func lineSums(a impl.Image, d int) []int {
	low, high := endsOf(d, shape{len(a.Rows), a.W})
	var sums []int
	for n := low; n <= high; n++ {
		many := 0
		eachCell(a, func(i, j int) {
			if numberOf(d, i, j) == n && cellOf(a, i, j) {
				many++
			}
		})
		sums = append(sums, many)
	}
	return sums
}

// sumsAlong tests DirSums, and that the image stays, and returns them.
func sumsAlong(t *testing.T, a impl.Image, d int) []int {
	t.Helper()
	before := cloneOf(a)
	sums := impl.DirSums(a, d)
	if !sameImage(a, before) {
		t.Fatalf("DirSums changed its argument %v to %v", before, a)
	}
	if want := lineSums(a, d); !slices.Equal(sums, want) {
		t.Fatalf("DirSums of %v in the direction %d is %v instead of %v", a, d, sums, want)
	}
	return sums
}

// sidesBeyond has numbers that are no height or width, and placesBeyond those that are no row or column.
var (
	sidesBeyond  = []int{0, -1, -6, impl.SideMax + 1, impl.SideMax + 2, 8, 63, 64, 1 << 32, math.MaxInt, math.MinInt}
	placesBeyond = []int{-1, -2, -6, impl.SideMax, impl.SideMax + 1, 8, 63, 64, 1 << 32, math.MaxInt, math.MinInt}
)

// P151: the steps are those of the table, and there are just as many directions.
func TestP151Steps(t *testing.T) {
	if impl.DirsMany != directionsMany {
		t.Fatalf("there are %d directions", impl.DirsMany)
	}
	for d, want := range knownSteps {
		x, y, ok := impl.DirStep(d)
		if !ok || x != want[0] || y != want[1] || x < 0 {
			t.Errorf("DirStep of %d is %d, %d, %v", d, x, y, ok)
		}
	}
	for _, d := range noDirections {
		if x, y, ok := impl.DirStep(d); ok || x != 0 || y != 0 {
			t.Errorf("DirStep of %d is %d, %d, %v", d, x, y, ok)
		}
	}
}

// P151: the line of a cell, that of (2, 1) among them, goes on with the cell a step away.
func TestP151AStepAway(t *testing.T) {
	for d := range directionsMany {
		x, y, _ := impl.DirStep(d)
		found := false
		eachPlace(func(i, j int) {
			if i+y < 0 || i+y >= impl.SideMax || j+x >= impl.SideMax {
				return
			}
			from, to := get[int](t)(impl.DirLine(d, i, j)), get[int](t)(impl.DirLine(d, i+y, j+x))
			if from != to {
				t.Errorf("in the direction %d, (%d, %d) is on the line %d, and a step away on %d", d, i, j, from, to)
			}
			found = found || i == 2 && j == 1
		})
		if !found {
			t.Errorf("in the direction %d, no cell is a step away from (2, 1)", d)
		}
	}
}

// eachPlace calls a function for each cell of the greatest image.
func eachPlace(visit func(i int, j int)) {
	for i := range impl.SideMax {
		for j := range impl.SideMax {
			visit(i, j)
		}
	}
}

// P151: two cells are on the same line exactly if the way between them is along the step.
func TestP151SameLine(t *testing.T) {
	for d, step := range knownSteps {
		eachPlace(func(i, j int) {
			eachPlace(func(k, l int) {
				same := get[int](t)(impl.DirLine(d, i, j)) == get[int](t)(impl.DirLine(d, k, l))
				if along := step[0]*(k-i) == step[1]*(l-j); same != along {
					t.Errorf("in the direction %d, (%d, %d) and (%d, %d) are on the same line: %v", d, i, j, k, l, same)
				}
			})
		})
	}
}

// P152: the numbers of some cells, found by hand.
func TestP152KnownLines(t *testing.T) {
	for place, want := range map[[2]int][directionsMany]int{
		{0, 0}: {0, 0, 0, 0, 0, 0, 0, 0},
		{0, 5}: {0, -5, -5, 5, -5, -10, 5, 10},
		{5, 0}: {5, 0, 5, 5, 10, 5, 10, 5},
		{5, 5}: {5, -5, 0, 10, 5, -5, 15, 15},
		{2, 1}: {2, -1, 1, 3, 3, 0, 5, 4},
		{1, 2}: {1, -2, -1, 3, 0, -3, 4, 5},
	} {
		for d, n := range want {
			if line, ok := impl.DirLine(d, place[0], place[1]); !ok || line != n {
				t.Errorf("DirLine of %v in the direction %d is %d, %v instead of %d", place, d, line, ok, n)
			}
		}
	}
}

// P152: the number of a cell is between those of the ends, for each shape with this cell.
func TestP152LineBetween(t *testing.T) {
	for d := range directionsMany {
		for _, s := range allShapes() {
			low, high, ok := impl.DirLines(d, s.h, s.w)
			if !ok {
				t.Fatalf("DirLines of %v in the direction %d failed", s, d)
			}
			for i := range s.h {
				for j := range s.w {
					line, ok := impl.DirLine(d, i, j)
					if !ok || line != numberOf(d, i, j) || line < low || line > high {
						t.Errorf("DirLine of (%d, %d) in the direction %d is %d, %v, and the ends of %v are %d and %d", i, j, d, line, ok, s, low, high)
					}
				}
			}
		}
	}
}

// P152: the ends are numbers of cells, and no cell has a lesser or a greater one.
func TestP152Ends(t *testing.T) {
	for d := range directionsMany {
		for _, s := range allShapes() {
			low, high, ok := impl.DirLines(d, s.h, s.w)
			if least, most := endsOf(d, s); !ok || low != least || high != most {
				t.Errorf("DirLines of %v in the direction %d is %d, %d, %v instead of %d, %d", s, d, low, high, ok, least, most)
			}
		}
	}
}

// P152: the ends of some shapes, found by hand.
func TestP152KnownEnds(t *testing.T) {
	for _, c := range []struct {
		s    shape
		ends [directionsMany][2]int
	}{
		{shape{1, 1}, [directionsMany][2]int{}},
		{shape{1, 6}, [directionsMany][2]int{{0, 0}, {-5, 0}, {-5, 0}, {0, 5}, {-5, 0}, {-10, 0}, {0, 5}, {0, 10}}},
		{shape{6, 1}, [directionsMany][2]int{{0, 5}, {0, 0}, {0, 5}, {0, 5}, {0, 10}, {0, 5}, {0, 10}, {0, 5}}},
		{shape{2, 3}, [directionsMany][2]int{{0, 1}, {-2, 0}, {-2, 1}, {0, 3}, {-2, 2}, {-4, 1}, {0, 4}, {0, 5}}},
		{shape{3, 2}, [directionsMany][2]int{{0, 2}, {-1, 0}, {-1, 2}, {0, 3}, {-1, 4}, {-2, 2}, {0, 5}, {0, 4}}},
		{shape{6, 6}, [directionsMany][2]int{{0, 5}, {-5, 0}, {-5, 5}, {0, 10}, {-5, 10}, {-10, 5}, {0, 15}, {0, 15}}},
	} {
		for d, want := range c.ends {
			if low, high, ok := impl.DirLines(d, c.s.h, c.s.w); !ok || low != want[0] || high != want[1] {
				t.Errorf("DirLines of %v in the direction %d is %d, %d, %v instead of %v", c.s, d, low, high, ok, want)
			}
		}
	}
}

// noLine tests that DirLine fails.
func noLine(t *testing.T, d int, i int, j int) {
	t.Helper()
	if n, ok := impl.DirLine(d, i, j); ok || n != 0 {
		t.Errorf("DirLine of (%d, %d) in the direction %d is %d, %v", i, j, d, n, ok)
	}
}

// P152: no cell beyond the greatest image has a line, nor has any cell one in no direction.
func TestP152NoLine(t *testing.T) {
	for d := range directionsMany {
		for _, beyond := range placesBeyond {
			for inside := range impl.SideMax {
				noLine(t, d, beyond, inside)
				noLine(t, d, inside, beyond)
			}
			for _, other := range placesBeyond {
				noLine(t, d, beyond, other)
			}
		}
	}
	for _, d := range noDirections {
		eachPlace(func(i, j int) { noLine(t, d, i, j) })
		for _, beyond := range placesBeyond {
			noLine(t, d, beyond, 1)
			noLine(t, d, 1, beyond)
		}
	}
}

// noEnds tests that DirLines fails.
func noEnds(t *testing.T, d int, h int, w int) {
	t.Helper()
	if low, high, ok := impl.DirLines(d, h, w); ok || low != 0 || high != 0 {
		t.Errorf("DirLines of %d rows and %d columns in the direction %d is %d, %d, %v", h, w, d, low, high, ok)
	}
}

// P152: shapes that no image has are without lines, and so is each shape in no direction.
func TestP152NoEnds(t *testing.T) {
	for d := range directionsMany {
		for _, beyond := range sidesBeyond {
			for side := 1; side <= impl.SideMax; side++ {
				noEnds(t, d, beyond, side)
				noEnds(t, d, side, beyond)
			}
			for _, other := range sidesBeyond {
				noEnds(t, d, beyond, other)
			}
		}
	}
	for _, d := range noDirections {
		for _, s := range allShapes() {
			noEnds(t, d, s.h, s.w)
		}
		for _, beyond := range sidesBeyond {
			noEnds(t, d, beyond, 1)
			noEnds(t, d, 1, beyond)
		}
	}
}

// P153: there is a sum for each line, and they are ImageMany together.
func TestP153OneForEachLine(t *testing.T) {
	for _, a := range goodImages() {
		for d := range directionsMany {
			low, high, ok := impl.DirLines(d, len(a.Rows), a.W)
			if sums := sumsAlong(t, a, d); !ok || len(sums) != high-low+1 || totalOf(sums) != impl.ImageMany(a) {
				t.Fatalf("DirSums of %v in the direction %d is %v", a, d, sums)
			}
		}
	}
}

// P153: the sums of known images, with lines that have no cells among them.
func TestP153KnownSums(t *testing.T) {
	for _, c := range []struct {
		a    impl.Image
		sums [directionsMany][]int
	}{
		{rowsOf(1, 1), [directionsMany][]int{{1}, {1}, {1}, {1}, {1}, {1}, {1}, {1}}},
		{rowsOf(1, 0), [directionsMany][]int{{0}, {0}, {0}, {0}, {0}, {0}, {0}, {0}}},
		// "###", a row: each second line of the directions 5 and 7 has no cells.
		{rowsOf(3, 7), [directionsMany][]int{{3}, {1, 1, 1}, {1, 1, 1}, {1, 1, 1}, {1, 1, 1}, {1, 0, 1, 0, 1}, {1, 1, 1}, {1, 0, 1, 0, 1}}},
		// "##.", a row
		{rowsOf(3, 3), [directionsMany][]int{{2}, {0, 1, 1}, {0, 1, 1}, {1, 1, 0}, {0, 1, 1}, {0, 0, 1, 0, 1}, {1, 1, 0}, {1, 0, 1, 0, 0}}},
		// "#", ".", "#", a column: each second line of the directions 4 and 6 has no cells.
		{rowsOf(1, 1, 0, 1), [directionsMany][]int{{1, 0, 1}, {2}, {1, 0, 1}, {1, 0, 1}, {1, 0, 0, 0, 1}, {1, 0, 1}, {1, 0, 0, 0, 1}, {1, 0, 1}}},
		// "#.#", ".##"
		{rowsOf(3, 5, 6), [directionsMany][]int{{2, 2}, {2, 1, 1}, {1, 1, 2, 0}, {1, 0, 2, 1}, {1, 0, 2, 1, 0}, {1, 1, 0, 1, 1, 0}, {1, 0, 1, 1, 1}, {1, 0, 0, 1, 1, 1}}},
		// "##", "##"
		{rowsOf(2, 3, 3), [directionsMany][]int{{2, 2}, {2, 2}, {1, 2, 1}, {1, 2, 1}, {1, 1, 1, 1}, {1, 1, 1, 1}, {1, 1, 1, 1}, {1, 1, 1, 1}}},
	} {
		for d, want := range c.sums {
			if sums := sumsAlong(t, c.a, d); !slices.Equal(sums, want) {
				t.Errorf("DirSums of %v in the direction %d is %v instead of %v", c.a, d, sums, want)
			}
		}
	}
}

// P153: the sums of the greatest image, full, and without set cells.
func TestP153Greatest(t *testing.T) {
	full := [directionsMany][]int{
		{6, 6, 6, 6, 6, 6},
		{6, 6, 6, 6, 6, 6},
		{1, 2, 3, 4, 5, 6, 5, 4, 3, 2, 1},
		{1, 2, 3, 4, 5, 6, 5, 4, 3, 2, 1},
		{1, 1, 2, 2, 3, 3, 3, 3, 3, 3, 3, 3, 2, 2, 1, 1},
		{1, 1, 2, 2, 3, 3, 3, 3, 3, 3, 3, 3, 2, 2, 1, 1},
		{1, 1, 2, 2, 3, 3, 3, 3, 3, 3, 3, 3, 2, 2, 1, 1},
		{1, 1, 2, 2, 3, 3, 3, 3, 3, 3, 3, 3, 2, 2, 1, 1},
	}
	for d, want := range full {
		if sums := sumsAlong(t, rowsOf(6, fullOf(6, 63)...), d); !slices.Equal(sums, want) {
			t.Errorf("DirSums of the full image in the direction %d is %v instead of %v", d, sums, want)
		}
		if sums := sumsAlong(t, rowsOf(6, fullOf(6, 0)...), d); !slices.Equal(sums, fullOf(len(want), 0)) {
			t.Errorf("DirSums of the empty image in the direction %d is %v", d, sums)
		}
	}
}

// P153: in an image of any shape with just one cell set, the line of this cell has the sum 1, and each other one 0.
func TestP153OneCell(t *testing.T) {
	for _, s := range allShapes() {
		none := rowsOf(s.w, fullOf(s.h, 0)...)
		eachCell(none, func(i, j int) {
			for d := range directionsMany {
				low, high, _ := impl.DirLines(d, s.h, s.w)
				want := withOne(fullOf(high-low+1, 0), get[int](t)(impl.DirLine(d, i, j))-low, 1)
				if sums := sumsAlong(t, flipped(none, i, j), d); !slices.Equal(sums, want) {
					t.Errorf("with (%d, %d) set in %v, DirSums in the direction %d is %v", i, j, s, d, sums)
				}
			}
		})
	}
}

// P153: there are no sums of an invalid image, nor in no direction.
func TestP153NoSums(t *testing.T) {
	for _, a := range badImages() {
		before := cloneOf(a)
		for d := -1; d <= directionsMany; d++ {
			if sums := impl.DirSums(a, d); len(sums) != 0 || !sameImage(a, before) {
				t.Errorf("DirSums of the invalid image %v in the direction %d is %v", before, d, sums)
			}
		}
	}
	for _, a := range goodImages() {
		for _, d := range noDirections {
			if sums := impl.DirSums(a, d); len(sums) != 0 {
				t.Fatalf("DirSums of %v in the direction %d is %v", a, d, sums)
			}
		}
	}
}

// P154: the direction 0 has the row sums, and the direction 1 the column sums in the opposite order.
func TestP154RowsAndColumns(t *testing.T) {
	for _, a := range goodImages() {
		if sums := impl.DirSums(a, 0); !slices.Equal(sums, impl.RowSums(a)) || !slices.Equal(sums, rowSumsOf(a)) {
			t.Fatalf("DirSums of %v in the direction 0 is %v", a, sums)
		}
		if sums := impl.DirSums(a, 1); !slices.Equal(sums, backward(impl.ColSums(a))) || !slices.Equal(sums, backward(colSumsOf(a))) {
			t.Fatalf("DirSums of %v in the direction 1 is %v", a, sums)
		}
	}
}

// P155: with any one cell changed, the sum of its line changes by 1, and no other one.
func TestP155OneCellChanged(t *testing.T) {
	for _, a := range goodImages() {
		for d := range directionsMany {
			sums := sumsAlong(t, a, d)
			low, _ := endsOf(d, shape{len(a.Rows), a.W})
			eachCell(a, func(i, j int) {
				by := 1
				if cellOf(a, i, j) {
					by = -1
				}
				at := numberOf(d, i, j) - low
				if other := impl.DirSums(flipped(a, i, j), d); !slices.Equal(other, withOne(sums, at, sums[at]+by)) {
					t.Fatalf("DirSums of %v in the direction %d is %v, and with (%d, %d) changed %v", a, d, sums, i, j, other)
				}
			})
		}
	}
}

// alongPairs tests that DirSums of an image in a direction is that of another one in another direction, perhaps backward.
func alongPairs(t *testing.T, a impl.Image, d int, b impl.Image, e int, turned bool) {
	t.Helper()
	first, second := impl.DirSums(a, d), impl.DirSums(b, e)
	if turned {
		second = backward(second)
	}
	if len(first) == 0 || !slices.Equal(first, second) {
		t.Fatalf("DirSums of %v in the direction %d is %v, and that of %v in the direction %d %v", a, d, impl.DirSums(a, d), b, e, impl.DirSums(b, e))
	}
}

// P156: mirroring the image exchanges the directions 2 and 3, 4 and 6, and also 5 and 7.
// From the least number to the greatest one, the sums are in the same order.
func TestP156Mirrored(t *testing.T) {
	for _, a := range goodImages() {
		b := get[impl.Image](t)(impl.ImageMirror(a))
		for _, pair := range [][2]int{{2, 3}, {3, 2}, {4, 6}, {6, 4}, {5, 7}, {7, 5}, {0, 0}} {
			alongPairs(t, b, pair[0], a, pair[1], false)
		}
		alongPairs(t, b, 1, a, 1, true)
	}
}

// P157: turning the image exchanges the directions 4 and 5, 0 and 1, and 2 with itself, in the opposite order,
// and 3 with itself, 6 and 7 in the same order.
func TestP157Turned(t *testing.T) {
	for _, a := range goodImages() {
		b := get[impl.Image](t)(impl.ImageTurn(a))
		for _, pair := range [][2]int{{4, 5}, {5, 4}, {0, 1}, {1, 0}, {2, 2}} {
			alongPairs(t, b, pair[0], a, pair[1], true)
		}
		for _, pair := range [][2]int{{3, 3}, {6, 7}, {7, 6}} {
			alongPairs(t, b, pair[0], a, pair[1], false)
		}
	}
}

// P158: the sums of an image and those of the other one are the numbers of cells of the lines together.
func TestP158Other(t *testing.T) {
	cells := map[shape][directionsMany][]int{}
	for _, s := range allShapes() {
		var lines [directionsMany][]int
		for d := range lines {
			lines[d] = lineSums(rowsOf(s.w, fullOf(s.h, pow(s.w)-1)...), d)
		}
		cells[s] = lines
	}
	for _, a := range goodImages() {
		b := get[impl.Image](t)(impl.ImageOther(a))
		for d, want := range cells[shape{len(a.Rows), a.W}] {
			first, second := sumsAlong(t, a, d), sumsAlong(t, b, d)
			for n := range want {
				if first[n]+second[n] != want[n] {
					t.Fatalf("in the direction %d, the sums of %v are %v, and those of the other image %v", d, a, first, second)
				}
			}
		}
	}
}

// P159: the cell below is on a line whose number is X more, and that to the right on one whose number is Y less.
func TestP159Neighbors(t *testing.T) {
	for d := range directionsMany {
		x, y, _ := impl.DirStep(d)
		eachPlace(func(i, j int) {
			n := get[int](t)(impl.DirLine(d, i, j))
			if i+1 < impl.SideMax && get[int](t)(impl.DirLine(d, i+1, j)) != n+x {
				t.Errorf("in the direction %d, the cell below (%d, %d) is not on the line %d", d, i, j, n+x)
			}
			if j+1 < impl.SideMax && get[int](t)(impl.DirLine(d, i, j+1)) != n-y {
				t.Errorf("in the direction %d, the cell to the right of (%d, %d) is not on the line %d", d, i, j, n-y)
			}
		})
	}
}

// P160: with rows and columns in the opposite order, the sums are the same in the opposite order.
func TestP160RowsAndColumnsBackward(t *testing.T) {
	for _, a := range goodImages() {
		b := get[impl.Image](t)(impl.ImageMirror(a))
		slices.Reverse(b.Rows)
		for d := range directionsMany {
			alongPairs(t, b, d, a, d, true)
		}
	}
}

// P161: each line sum is at least 0 and at most the greater one of height and width; full images get there.
func TestP161Range(t *testing.T) {
	for _, a := range goodImages() {
		for d := range directionsMany {
			sums := sumsAlong(t, a, d)
			if slices.Min(sums) < 0 || slices.Max(sums) > max(len(a.Rows), a.W) {
				t.Fatalf("DirSums of %v in the direction %d is %v", a, d, sums)
			}
		}
	}
	for _, s := range allShapes() {
		full := rowsOf(s.w, fullOf(s.h, pow(s.w)-1)...)
		if slices.Max(impl.DirSums(full, 0)) != s.w || slices.Max(impl.DirSums(full, 1)) != s.h {
			t.Errorf("the greatest sums of the full image %v are not its width and its height", full)
		}
	}
}

// General rule: results share no memory with arguments and with each other, the capacity of slices included.
func TestDirectionsShareNoMemory(t *testing.T) {
	for _, c := range knownSums() {
		for d := range directionsMany {
			space := append(slices.Clone(c.a.Rows), 40, 41, 42)
			old := slices.Clone(space)
			a := impl.Image{W: c.a.W, Rows: space[:len(c.a.Rows)]}
			first, second := impl.DirSums(a, d), impl.DirSums(a, d)
			want := slices.Clone(second)
			all := first[:cap(first)]
			for k := range all {
				all[k] = 99
			}
			if !slices.Equal(space, old) || !slices.Equal(second, want) || !slices.Equal(impl.DirSums(a, d), want) {
				t.Errorf("the sums of %v in the direction %d share memory", c.a, d)
			}
		}
	}
}
