package tests

import (
	"math"
	"slices"
	"testing"

	"loop.example/discretetomography/impl"
)

// leads tells whether an arrow leads from a place of a valid image to another one. The places are its rows and, behind them, its columns.
func leads(a impl.Image, from int, to int) bool {
	h := len(a.Rows)
	switch {
	case from < h && to >= h:
		return cellOf(a, from, to-h)
	case from >= h && to < h:
		return !cellOf(a, to, from-h)
	}
	return false
}

// noWay is more than the number of arrows of any shortest way.
const noWay = 100

// stepsOf returns, for each two places of a valid image, the least number of arrows that lead from the first one to the second one,
// or at least noWay if none do.
func stepsOf(a impl.Image) [][]int {
	many := len(a.Rows) + a.W
	steps := make([][]int, many)
	for p := range steps {
		steps[p] = fullOf(many, noWay)
		steps[p][p] = 0
		for q := range many {
			if leads(a, p, q) {
				steps[p][q] = 1
			}
		}
	}
	for over := range many {
		for p := range many {
			for q := range many {
				steps[p][q] = min(steps[p][q], steps[p][over]+steps[over][q])
			}
		}
	}
	return steps
}

// placesFrom returns for each place of a valid image whether it is reached from the row i.
func placesFrom(a impl.Image, i int) []bool {
	var reach []bool
	for _, n := range stepsOf(a)[i] {
		reach = append(reach, n < noWay)
	}
	return reach
}

// variableIn returns the variable cells of a valid image, by the arrows.
func variableIn(a impl.Image) impl.Image {
	steps := stepsOf(a)
	b := rowsOf(a.W, fullOf(len(a.Rows), 0)...)
	eachCell(a, func(i, j int) {
		if column := len(a.Rows) + j; steps[i][column] < noWay && steps[column][i] < noWay {
			b.Rows[i] += pow(j)
		}
	})
	return b
}

// flippedIn returns the image to which CellFlip of a variable cell leads. Of the shortest ways from the start to the goal,
// it takes that with the least place in the first step, and of several such ones in the next step, and so on.
// That is the way that is found if places are visited in the order in which they are reached.
func flippedIn(a impl.Image, i int, j int) impl.Image {
	h, steps := len(a.Rows), stepsOf(a)
	at, goal := i, h+j
	if cellOf(a, i, j) {
		at, goal = goal, at
	}
	b := flipped(a, i, j)
	for at != goal {
		next := 0
		for !leads(a, at, next) || steps[next][goal] != steps[at][goal]-1 {
			next++
		}
		b = flipped(b, min(at, next), max(at, next)-h)
		at = next
	}
	return b
}

// differingIn returns, for the sums (sumsText) of the images of a list, the image of the cells that are not the same in all images with these sums.
func differingIn(list []impl.Image) map[string]impl.Image {
	first, cells := map[string]impl.Image{}, map[string]impl.Image{}
	for _, a := range list {
		key := sumsText(rowSumsOf(a), colSumsOf(a))
		if _, ok := first[key]; !ok {
			first[key], cells[key] = a, rowsOf(a.W, fullOf(len(a.Rows), 0)...)
		}
		eachCell(a, func(i, j int) {
			if cellOf(a, i, j) != cellOf(first[key], i, j) && !cellOf(cells[key], i, j) {
				cells[key].Rows[i] += pow(j)
			}
		})
	}
	return cells
}

// upToNine returns all images of at most nine cells.
func upToNine() []impl.Image {
	var list []impl.Image
	for h := 1; h <= impl.SideMax; h++ {
		for w := 1; w <= impl.SideMax && h*w <= 9; w++ {
			list = append(list, allOf(h, w)...)
		}
	}
	return list
}

// stair is an image with a block for each row and each column. A cell is set if the block of its row is the greater one,
// and not if it is the lesser one. So only cells whose row and column are in the same block can be variable.
type stair struct {
	a          impl.Image
	rows, cols []int
}

// stairOf returns a stair with given blocks of rows and columns.
func stairOf(rows []int, cols []int, number func(many int) int) stair {
	s := stair{rowsOf(len(cols), fullOf(len(rows), 0)...), rows, cols}
	eachCell(s.a, func(i, j int) {
		if rows[i] > cols[j] || rows[i] == cols[j] && number(2) == 1 {
			s.a.Rows[i] += pow(j)
		}
	})
	return s
}

// stairs returns stairs of all heights and widths: those with blocks of about the same size,
// and those with blocks of any size, some of which have no rows or no columns.
func stairs() []stair {
	var list []stair
	number := numbersFrom(13)
	equal := func(many int, blocks int) []int {
		list := shuffled(many, number)
		for k := range list {
			list[k] = list[k] * blocks / many
		}
		return list
	}
	without := func(many int, blocks int) []int {
		var list []int
		for range many {
			list = append(list, number(blocks))
		}
		return list
	}
	for h := 1; h <= impl.SideMax; h++ {
		for w := 1; w <= impl.SideMax; w++ {
			for blocks := 2; blocks <= 5; blocks++ {
				for range 3 {
					list = append(list, stairOf(equal(h, blocks), equal(w, blocks), number), stairOf(without(h, blocks), without(w, blocks), number))
				}
			}
			// Great enough for variable cells in both of two blocks.
			for range h / 4 * (w / 4) * 20 {
				list = append(list, stairOf(equal(h, 2), equal(w, 2), number))
			}
		}
	}
	return list
}

// block returns the image of the rows and columns that are in a block of a stair, and these, and true,
// or false if the block has no rows or no columns.
func (s stair) block(n int) (impl.Image, []int, []int, bool) {
	var rows, cols []int
	for i := range s.rows {
		if s.rows[i] == n {
			rows = append(rows, i)
		}
	}
	for j := range s.cols {
		if s.cols[j] == n {
			cols = append(cols, j)
		}
	}
	a := rowsOf(len(cols), fullOf(len(rows), 0)...)
	for i := range rows {
		for j := range cols {
			if cellOf(s.a, rows[i], cols[j]) {
				a.Rows[i] += pow(j)
			}
		}
	}
	return a, rows, cols, len(rows) > 0 && len(cols) > 0
}

// longRing returns an image with a cell that is changed by no fewer than 2*n cells, and this cell.
// The n rows and columns are without order, and the other ones among them are full.
func longRing(n int, h int, w int, number func(many int) int) (impl.Image, int, int) {
	rows, cols := shuffled(h, number), shuffled(w, number)
	a := rowsOf(w, fullOf(h, 0)...)
	for i := range h {
		for j := range w {
			// A row leads to its own column and to ones before it, and a column to the next row and to ones before it, so that none is left out.
			inRing := i < n && j < n
			if !inRing || i == 0 && j < n-1 || i > 0 && j <= i && j != i-1 {
				a.Rows[rows[i]] += pow(cols[j])
			}
		}
	}
	return a, rows[0], cols[0]
}

// variableImages returns images of all heights and widths: all of at most nine cells, and of the others stairs, rings and those without order.
func variableImages() []impl.Image {
	list := slices.Concat(goodImages(), greatImages())
	for _, s := range stairs() {
		list = append(list, s.a)
	}
	number := numbersFrom(17)
	for n := 2; n <= impl.SideMax; n++ {
		for range 4 {
			a, _, _ := longRing(n, n+number(impl.SideMax-n+1), n+number(impl.SideMax-n+1), number)
			list = append(list, a)
		}
	}
	return list
}

// twelveCells returns all images of 2 rows of 5, 3 rows of 4, and the other way round.
func twelveCells() []impl.Image {
	return slices.Concat(allOf(2, 5), allOf(5, 2), allOf(3, 4), allOf(4, 3))
}

// reaches returns CellReach of a valid image and one of its rows, which must have a place for each row and column, and tests that the image stays.
func reaches(t *testing.T, a impl.Image, i int) []bool {
	t.Helper()
	var reach []bool
	keeps(t, a, func() {
		if reach = impl.CellReach(a, i); len(reach) != len(a.Rows)+a.W {
			t.Fatalf("CellReach of %v and %d is %v", a, i, reach)
		}
	})
	return reach
}

// noReach tests that CellReach is empty.
func noReach(t *testing.T, a impl.Image, i int) {
	t.Helper()
	keeps(t, a, func() {
		if reach := impl.CellReach(a, i); len(reach) != 0 {
			t.Fatalf("CellReach of %v and %d is %v", a, i, reach)
		}
	})
}

// isVariable returns CellVariable, and tests that the image stays.
func isVariable(t *testing.T, a impl.Image, i int, j int) bool {
	t.Helper()
	var is bool
	keeps(t, a, func() { is = impl.CellVariable(a, i, j) })
	return is
}

// variableOf returns CellsVariable, which must not have failed, nor changed the image.
func variableOf(t *testing.T, a impl.Image) impl.Image {
	t.Helper()
	var b impl.Image
	keeps(t, a, func() {
		var ok bool
		if b, ok = impl.CellsVariable(a); !ok || !impl.ImageValid(b) || b.W != a.W || len(b.Rows) != len(a.Rows) {
			t.Fatalf("CellsVariable of %v returned %v, %v", a, b, ok)
		}
	})
	return b
}

// flips returns CellFlip, which must not have failed, nor changed the image.
func flips(t *testing.T, a impl.Image, i int, j int) impl.Image {
	t.Helper()
	var b impl.Image
	keeps(t, a, func() {
		var ok bool
		if b, ok = impl.CellFlip(a, i, j); !ok || !impl.ImageValid(b) {
			t.Fatalf("CellFlip of %v and (%d, %d) returned %v, %v", a, i, j, b, ok)
		}
	})
	return b
}

// notVariable tests that a cell is not variable, and that CellFlip fails with the zero value.
func notVariable(t *testing.T, a impl.Image, i int, j int) {
	t.Helper()
	if isVariable(t, a, i, j) {
		t.Fatalf("CellVariable of %v and (%d, %d) holds", a, i, j)
	}
	keeps(t, a, func() {
		if b, ok := impl.CellFlip(a, i, j); ok || !zeroImage(b) {
			t.Fatalf("CellFlip of %v and (%d, %d) returned %v, %v", a, i, j, b, ok)
		}
	})
}

// eachVariable calls a function for each variable cell of these images, with the image that CellFlip makes.
func eachVariable(t *testing.T, visit func(a impl.Image, i int, j int, b impl.Image)) {
	t.Helper()
	set, other := 0, 0
	for _, a := range variableImages() {
		cells := variableIn(a)
		eachCell(a, func(i, j int) {
			if !cellOf(cells, i, j) {
				return
			}
			if !isVariable(t, a, i, j) {
				t.Fatalf("CellVariable of %v and (%d, %d) does not hold", a, i, j)
			}
			if cellOf(a, i, j) {
				set++
			} else {
				other++
			}
			visit(a, i, j, flips(t, a, i, j))
		})
	}
	if set < 3000 || other < 3000 {
		t.Fatalf("%d set cells and %d others are variable only", set, other)
	}
}

// eachReach calls a function for each row of these images, with CellReach.
func eachReach(t *testing.T, visit func(a impl.Image, i int, reach []bool)) {
	t.Helper()
	for _, a := range variableImages() {
		for i := range a.Rows {
			visit(a, i, reaches(t, a, i))
		}
	}
}

// reachText returns a text of CellReach, with a space between the rows and the columns.
func reachText(reach []bool, h int) string {
	var text []byte
	for place, is := range reach {
		if place == h {
			text = append(text, ' ')
		}
		if is {
			text = append(text, '1')
		} else {
			text = append(text, '0')
		}
	}
	return string(text)
}

// knownVariable has images with the text of their variable cells, and that of CellReach for each row.
func knownVariable() []struct {
	text, variable string
	reach          []string
} {
	return []struct {
		text, variable string
		reach          []string
	}{
		// One row, one column.
		{"#\n", ".\n", []string{"1 1"}},
		{".\n", ".\n", []string{"1 0"}},
		{"#.#\n", "...\n", []string{"1 101"}},
		{"######\n", "......\n", []string{"1 111111"}},
		{"......\n", "......\n", []string{"1 000000"}},
		{"#\n.\n#\n", ".\n.\n.\n", []string{"110 1", "010 0", "011 1"}},
		// Full and empty rows and columns, and nothing else: a full row leads to all columns, and an empty one is led to by all.
		{"##\n..\n", "..\n..\n", []string{"11 11", "01 00"}},
		{"..\n##\n", "..\n..\n", []string{"10 00", "11 11"}},
		{"#.\n#.\n", "..\n..\n", []string{"10 10", "01 10"}},
		{"###\n###\n", "...\n...\n", []string{"10 111", "01 111"}},
		{"...\n...\n", "...\n...\n", []string{"10 000", "01 000"}},
		// Nested ones.
		{"###\n##.\n#..\n", "...\n...\n...\n", []string{"111 111", "011 110", "001 100"}},
		{"..#\n#.#\n###\n", "...\n...\n...\n", []string{"100 001", "110 101", "111 111"}},
		// All cells.
		{"#.\n.#\n", "##\n##\n", []string{"11 11", "11 11"}},
		{"##.\n.#.\n#.#\n", "###\n###\n###\n", []string{"111 111", "111 111", "111 111"}},
		{"#.#.#.\n.#.#.#\n", "######\n######\n", []string{"11 111111", "11 111111"}},
		// Some cells, next to a full row, a full column, an empty row, and an empty column.
		{"#..\n.#.\n###\n", "##.\n##.\n...\n", []string{"110 110", "110 110", "111 111"}},
		{"##.\n#.#\n", ".##\n.##\n", []string{"11 111", "11 111"}},
		{".#\n..\n#.\n", "##\n..\n##\n", []string{"111 11", "010 00", "111 11"}},
		{".#.\n..#\n", ".##\n.##\n", []string{"11 011", "11 011"}},
		{"#.....\n......\n......\n......\n......\n.....#\n", "#....#\n......\n......\n......\n......\n#....#\n", []string{
			"111111 100001", "010000 000000", "001000 000000", "000100 000000", "000010 000000", "111111 100001"}},
		// Two groups of cells, with a full row and a full column, and with an empty row and an empty column.
		{".##..\n#####\n###.#\n..#.#\n.####\n", ".#..#\n.....\n#..#.\n.#..#\n#..#.\n", []string{
			"10010 01101", "11111 11111", "10111 11111", "10010 01101", "10111 11111"}},
		{"#..##\n.....\n...#.\n##.#.\n#....\n", ".#..#\n.....\n#..#.\n.#..#\n#..#.\n", []string{
			"11111 11011", "01000 00000", "01101 10010", "11111 11011", "01101 10010"}},
	}
}

// P90, P93, P99: known places that are reached, and known variable cells.
func TestP90P93P99KnownVariable(t *testing.T) {
	for _, c := range knownVariable() {
		a := imageOf(t, c.text)
		for i := range a.Rows {
			if text := reachText(reaches(t, a, i), len(a.Rows)); text != c.reach[i] {
				t.Errorf("CellReach of %q and %d is %s instead of %s", c.text, i, text, c.reach[i])
			}
		}
		cells := variableOf(t, a)
		if text := impl.ImageText(cells); text != c.variable {
			t.Errorf("CellsVariable of %q is %q instead of %q", c.text, text, c.variable)
		}
		eachCell(a, func(i, j int) {
			if is := isVariable(t, a, i, j); is != (c.variable[i*(a.W+1)+j] == '#') {
				t.Errorf("CellVariable of %q and (%d, %d) is %v", c.text, i, j, is)
			}
		})
	}
}

// knownFlip is an image with a variable cell, and the image to which CellFlip leads.
type knownFlip struct {
	text string
	i, j int
	want string
}

// knownFlips has flips with one way from the start to the goal, and with several.
func knownFlips() []knownFlip {
	return []knownFlip{
		{"#.\n.#\n", 0, 0, ".#\n#.\n"},
		{"#.\n.#\n", 0, 1, ".#\n#.\n"},
		{"#.\n.#\n", 1, 0, ".#\n#.\n"},
		{"#.\n.#\n", 1, 1, ".#\n#.\n"},
		{"#..\n.#.\n###\n", 0, 1, ".#.\n#..\n###\n"},
		{"#..\n.#.\n###\n", 1, 1, ".#.\n#..\n###\n"},
		{"#.....\n......\n......\n......\n......\n.....#\n", 5, 0, ".....#\n......\n......\n......\n......\n#.....\n"},
		{"#.....\n......\n......\n......\n......\n.....#\n", 5, 5, ".....#\n......\n......\n......\n......\n#.....\n"},
		// One way, along all rows and columns.
		{"##.\n.#.\n#.#\n", 0, 0, ".##\n#..\n##.\n"},
		{"..#\n#.#\n.#.\n", 0, 0, "#..\n.##\n..#\n"},
		{"###.\n.#..\n#.#.\n##.#\n", 0, 0, ".###\n#...\n##..\n###.\n"},
		{"#####.\n.#....\n#.#...\n##.#..\n###.#.\n####.#\n", 0, 0, ".#####\n#.....\n##....\n###...\n####..\n#####.\n"},
		// Two or more ways of the same length, of which the first one over the first places is found.
		{"#..\n.#.\n..#\n", 0, 0, ".#.\n#..\n..#\n"},
		{"#..\n.#.\n..#\n", 1, 1, ".#.\n#..\n..#\n"},
		{"#..\n.#.\n..#\n", 2, 2, "..#\n.#.\n#..\n"},
		{"#.#.\n.#.#\n", 0, 1, ".##.\n#..#\n"},
		{"#.#.\n.#.#\n", 0, 0, ".##.\n#..#\n"},
		{"#.\n.#\n#.\n.#\n", 3, 1, ".#\n.#\n#.\n#.\n"},
		{"#.\n.#\n#.\n.#\n", 3, 0, ".#\n.#\n#.\n#.\n"},
		// The last column of the way is visited first because its row was: not the least one, nor the last one that leads to the goal.
		{"..#\n#..\n#.#\n.#.\n", 3, 1, ".#.\n#..\n#.#\n..#\n"},
		{".#.\n#..\n##.\n..#\n", 3, 2, "..#\n#..\n##.\n.#.\n"},
		// The same with rows.
		{"#..#\n.#.#\n###.\n", 2, 3, "#..#\n##..\n.###\n"},
		{"#.#.\n##.#\n.##.\n", 1, 2, "#.#.\n.###\n##..\n"},
		{"#..#\n.#.#\n###.\n....\n", 2, 3, "#..#\n##..\n.###\n....\n"},
		{"..#.\n#..#\n.#..\n", 2, 1, ".#..\n#..#\n..#.\n"},
	}
}

// P92, P104: known flips.
func TestP92P104KnownFlips(t *testing.T) {
	for _, c := range knownFlips() {
		a := imageOf(t, c.text)
		b := flips(t, a, c.i, c.j)
		if text := impl.ImageText(b); text != c.want {
			t.Errorf("CellFlip of %q and (%d, %d) is %q instead of %q", c.text, c.i, c.j, text, c.want)
		}
		same(t, a, b, true)
		same(t, a, flips(t, b, c.i, c.j), true)
	}
}

// P90: the row is reached, and so is what an arrow from a reached place leads to; nothing else is.
func TestP90CellReach(t *testing.T) {
	eachReach(t, func(a impl.Image, i int, reach []bool) {
		h := len(a.Rows)
		if !reach[i] {
			t.Fatalf("CellReach of %v and %d is %v", a, i, reach)
		}
		eachCell(a, func(k, j int) {
			if set := cellOf(a, k, j); set && reach[k] && !reach[h+j] || !set && reach[h+j] && !reach[k] {
				t.Fatalf("CellReach of %v and %d is %v: see the cell (%d, %d)", a, i, reach, k, j)
			}
		})
		if want := placesFrom(a, i); !slices.Equal(reach, want) {
			t.Fatalf("CellReach of %v and %d is %v instead of %v", a, i, reach, want)
		}
	})
}

// P90: all images of ten and twelve cells.
func TestP90CellReachOfTwelve(t *testing.T) {
	for n, a := range twelveCells() {
		i := n % len(a.Rows)
		if reach, want := reaches(t, a, i), placesFrom(a, i); !slices.Equal(reach, want) {
			t.Fatalf("CellReach of %v and %d is %v instead of %v", a, i, reach, want)
		}
	}
}

// numbersOutside returns numbers that are no row and no column of an image with so many of them.
func numbersOutside(many int) []int {
	return []int{-1, many, -2, -impl.SideMax, many + 1, 2*impl.SideMax - 1, 2 * impl.SideMax, 31, 32, 63, 64, 65, 1 << 32, math.MaxInt, math.MinInt, -many}
}

// P90, P92: rows that are not there. What a column would be behind the rows is none either.
func TestP90P92RowsOutside(t *testing.T) {
	for _, a := range variableImages() {
		h := len(a.Rows)
		for i := h; i <= h+a.W; i++ {
			noReach(t, a, i)
			notVariable(t, a, i, 0)
		}
		for _, i := range []int{-1, h, math.MaxInt, math.MinInt} {
			noReach(t, a, i)
		}
		for j := -1; j <= a.W; j++ {
			notVariable(t, a, -1, j)
			notVariable(t, a, h, j)
		}
		for i := -1; i <= h; i++ {
			notVariable(t, a, i, -1)
			notVariable(t, a, i, a.W)
		}
	}
}

// P90, P92: rows and columns far outside of images all of whose cells are variable, and of some without variable cells.
func TestP90P92FarOutside(t *testing.T) {
	for _, c := range knownVariable() {
		a := imageOf(t, c.text)
		for _, i := range numbersOutside(len(a.Rows)) {
			noReach(t, a, i)
			for _, j := range slices.Concat([]int{0, a.W - 1}, numbersOutside(a.W)) {
				notVariable(t, a, i, j)
			}
		}
		for _, j := range numbersOutside(a.W) {
			notVariable(t, a, 0, j)
			notVariable(t, a, len(a.Rows)-1, j)
		}
		for _, place := range outsideOf(a) {
			notVariable(t, a, place[0], place[1])
		}
	}
}

// P90, P92, P93: invalid images.
func TestP90P92P93InvalidImages(t *testing.T) {
	for _, a := range slices.Concat(badImages(), spoiledImages()) {
		if impl.ImageValid(a) {
			t.Fatalf("%v is valid", a)
		}
		numbers := []int{-1, 0, 1, 5, 6, 7, math.MaxInt, math.MinInt}
		for _, i := range numbers {
			noReach(t, a, i)
			for _, j := range numbers {
				notVariable(t, a, i, j)
			}
		}
		keeps(t, a, func() {
			if b, ok := impl.CellsVariable(a); ok || !zeroImage(b) {
				t.Fatalf("CellsVariable of %v returned %v, %v", a, b, ok)
			}
		})
	}
}

// parted tests that in given rows no cell of another than the given columns is set, and in all other rows all cells of the given columns are.
// The places are the rows and, behind them, the columns.
func parted(t *testing.T, a impl.Image, places []bool) {
	t.Helper()
	eachCell(a, func(i, j int) {
		row, col := places[i], places[len(a.Rows)+j]
		if set := cellOf(a, i, j); row && !col && set || !row && col && !set {
			t.Fatalf("%v and the places %v: see the cell (%d, %d)", a, places, i, j)
		}
	})
}

// P91: in the rows that are reached no cell of a column that is not reached is set, and in the others all cells of the columns that are reached are.
func TestP91CellReach(t *testing.T) {
	partly := 0
	eachReach(t, func(a impl.Image, i int, reach []bool) {
		parted(t, a, reach)
		rows, cols := reach[:len(a.Rows)], reach[len(a.Rows):]
		if slices.Contains(rows, false) && slices.Contains(cols, true) && slices.Contains(cols, false) {
			partly++
		}
	})
	if partly < 1000 {
		t.Errorf("some rows and columns are reached for %d rows only", partly)
	}
}

// P92: CellFlip of a variable cell leads to an image with the same sums in which the cell is different.
func TestP92CellFlip(t *testing.T) {
	eachVariable(t, func(a impl.Image, i, j int, b impl.Image) {
		same(t, a, b, true)
		if !slices.Equal(rowSumsOf(a), rowSumsOf(b)) || !slices.Equal(colSumsOf(a), colSumsOf(b)) || cellOf(a, i, j) == cellOf(b, i, j) {
			t.Fatalf("CellFlip of %v and (%d, %d) is %v", a, i, j, b)
		}
	})
}

// P92: a cell that is not variable is the same in all images with these sums: between places from which no arrow leads away and the others,
// all cells of one kind are set and all of the other kind are not, so that their sums leave no choice.
func TestP92NotVariable(t *testing.T) {
	set, other := 0, 0
	for _, a := range variableImages() {
		h := len(a.Rows)
		eachCell(a, func(i, j int) {
			if isVariable(t, a, i, j) {
				return
			}
			notVariable(t, a, i, j)
			// What is reached from the column: all that is reached from the rows to which it leads.
			places := reaches(t, a, i)
			if cellOf(a, i, j) {
				set++
				places = make([]bool, h+a.W)
				places[h+j] = true
				for k := range h {
					if !cellOf(a, k, j) {
						for place, is := range reaches(t, a, k) {
							places[place] = places[place] || is
						}
					}
				}
			} else {
				other++
			}
			parted(t, a, places)
			if places[i] == places[h+j] {
				t.Fatalf("the cell (%d, %d) of %v can be different", i, j, a)
			}
		})
	}
	if set < 3000 || other < 3000 {
		t.Errorf("%d set cells and %d others are not variable only", set, other)
	}
}

// P92: CellFlip takes the way that is found if places are visited in the order in which they are reached.
func TestP92WayOfCellFlip(t *testing.T) {
	lengths := map[int]int{}
	test := func(a impl.Image, i, j int, b impl.Image) {
		if want := flippedIn(a, i, j); !sameImage(b, want) {
			t.Fatalf("CellFlip of %v and (%d, %d) is %v instead of %v", a, i, j, b, want)
		}
		lengths[differing(a, b)]++
	}
	eachVariable(t, test)
	for n, a := range twelveCells() {
		cells := variableIn(a)
		eachCell(a, func(i, j int) {
			if (n+i+j)%3 == 0 && cellOf(cells, i, j) {
				test(a, i, j, flips(t, a, i, j))
			}
		})
	}
	for _, n := range []int{4, 6, 8, 10, 12} {
		if lengths[n] == 0 || n <= 6 && lengths[n] < 1000 {
			t.Errorf("the numbers of cells that were changed are %v", lengths)
		}
	}
}

// P92: the longest ways, of set cells and of others, in many orders of rows and columns.
func TestP92LongestWays(t *testing.T) {
	number := numbersFrom(23)
	for n := 2; n <= impl.SideMax; n++ {
		for h := n; h <= impl.SideMax; h++ {
			for w := n; w <= impl.SideMax; w++ {
				for range 10 {
					ring, i, j := longRing(n, h, w, number)
					for _, a := range []impl.Image{ring, get[impl.Image](t)(impl.ImageOther(ring))} {
						if b := flips(t, a, i, j); differing(a, b) != 2*n || !sameImage(b, flippedIn(a, i, j)) {
							t.Fatalf("CellFlip of %v and (%d, %d) is %v, with %d cells changed", a, i, j, b, differing(a, b))
						}
					}
				}
			}
		}
	}
}

// P93: of all images of at most nine cells, CellsVariable has the cells that differ in some image with the same sums; those of ten and twelve cells, too.
func TestP93CellsVariable(t *testing.T) {
	for _, list := range [][]impl.Image{upToNine(), twelveCells()} {
		cells := differingIn(list)
		for _, a := range list {
			want := cells[sumsText(rowSumsOf(a), colSumsOf(a))]
			if b := variableOf(t, a); !sameImage(b, want) {
				t.Fatalf("CellsVariable of %v is %v instead of %v", a, b, want)
			}
		}
	}
}

// P93: in a stair, the variable cells are those of its blocks.
func TestP93Stairs(t *testing.T) {
	small := differingIn(upToNine())
	known, several := 0, 0
	for _, s := range stairs() {
		want := rowsOf(s.a.W, fullOf(len(s.a.Rows), 0)...)
		filled := 0
		for n := range 5 {
			a, rows, cols, ok := s.block(n)
			if !ok {
				continue
			}
			cells, has := small[sumsText(rowSumsOf(a), colSumsOf(a))]
			if has {
				known++
			} else {
				cells = variableIn(a)
			}
			eachCell(a, func(i, j int) {
				if cellOf(cells, i, j) {
					want.Rows[rows[i]] += pow(cols[j])
				}
			})
			if slices.Max(cells.Rows) > 0 {
				filled++
			}
		}
		if filled > 1 {
			several++
		}
		if b := variableOf(t, s.a); !sameImage(b, want) {
			t.Fatalf("CellsVariable of %v is %v instead of %v", s.a, b, want)
		}
	}
	if known < 500 || several < 10 {
		t.Errorf("%d blocks are small, and %d stairs have several with variable cells", known, several)
	}
}

// P93: images of SideMax rows and columns: no cell set, each cell set, one cell set or not, nested ones, and those all of whose cells are variable.
func TestP93GreatestImages(t *testing.T) {
	none, all := rowsOf(6, fullOf(6, 0)...), rowsOf(6, fullOf(6, 63)...)
	for _, a := range []impl.Image{none, all, rowsOf(6, 1, 3, 7, 15, 31, 63), rowsOf(6, 0, 32, 48, 56, 60, 62), rowsOf(6, 63, 0, 63, 0, 21, 21)} {
		if b := variableOf(t, a); !sameImage(b, none) {
			t.Errorf("CellsVariable of %v is %v", a, b)
		}
		eachCell(a, func(i, j int) { notVariable(t, a, i, j) })
	}
	eachCell(none, func(i, j int) {
		for _, a := range []impl.Image{flipped(none, i, j), flipped(all, i, j)} {
			if b := variableOf(t, a); !sameImage(b, none) {
				t.Errorf("CellsVariable of %v is %v", a, b)
			}
		}
	})
	for _, a := range []impl.Image{rowsOf(6, 1, 2, 4, 8, 16, 32), rowsOf(6, 62, 61, 59, 55, 47, 31), rowsOf(6, 21, 42, 21, 42, 21, 42), rowsOf(6, 7, 7, 7, 56, 56, 56)} {
		if b := variableOf(t, a); !sameImage(b, all) {
			t.Errorf("CellsVariable of %v is %v", a, b)
		}
		eachCell(a, func(i, j int) { same(t, a, flips(t, a, i, j), true) })
	}
}

// P94: images with the same sums have the same variable cells.
func TestP94SameSums(t *testing.T) {
	test := func(a impl.Image, b impl.Image) {
		if first, second := variableOf(t, a), variableOf(t, b); !sameImage(first, second) {
			t.Fatalf("CellsVariable of %v is %v, and of %v %v", a, first, b, second)
		}
	}
	for _, p := range samePairs() {
		test(p.a, p.b)
	}
	number := numbersFrom(29)
	for _, s := range stairs() {
		_, b := walkOf(s.a, 1+number(20), number)
		test(s.a, b)
	}
}

// P95: all four cells of a switch are variable.
func TestP95Switches(t *testing.T) {
	eachSwitch(t, func(a impl.Image, s impl.Switch, _ impl.Image) {
		for _, cell := range [][2]int{{s.A, s.C}, {s.A, s.D}, {s.B, s.C}, {s.B, s.D}} {
			if !isVariable(t, a, cell[0], cell[1]) {
				t.Fatalf("CellVariable of %v and %v does not hold, but %v is a switch", a, cell, s)
			}
		}
	})
}

// P96: a cell is variable exactly if its column is reached from its row, and the row over the column, from one of the rows to which it leads.
func TestP96ReachedFromEachOther(t *testing.T) {
	one := 0
	for _, a := range variableImages() {
		h := len(a.Rows)
		eachCell(a, func(i, j int) {
			column, row := reaches(t, a, i)[h+j], false
			for k := range h {
				row = row || !cellOf(a, k, j) && reaches(t, a, k)[i]
			}
			if is := isVariable(t, a, i, j); is != (column && row) {
				t.Fatalf("CellVariable of %v and (%d, %d) is %v; the column is reached: %v, and the row: %v", a, i, j, is, column, row)
			}
			if column != row {
				one++
			}
		})
	}
	if one < 1000 {
		t.Errorf("only one of row and column is reached for %d cells only", one)
	}
}

// P97: the variable cells of ImageTurn are ImageTurn of them, and those of ImageOther are the same.
func TestP97TurnAndOther(t *testing.T) {
	must := get[impl.Image](t)
	for _, a := range variableImages() {
		cells := variableOf(t, a)
		if b := variableOf(t, must(impl.ImageTurn(a))); !sameImage(b, must(impl.ImageTurn(cells))) {
			t.Fatalf("CellsVariable of %v is %v, and of ImageTurn %v", a, cells, b)
		}
		if b := variableOf(t, must(impl.ImageOther(a))); !sameImage(b, cells) {
			t.Fatalf("CellsVariable of %v is %v, and of ImageOther %v", a, cells, b)
		}
	}
}

// P98: there is no variable cell exactly if there is no switch, and each row and column that has one has two.
func TestP98CellsAndSwitches(t *testing.T) {
	none, some := 0, 0
	for _, a := range slices.Concat(variableImages(), twelveCells()) {
		cells := variableOf(t, a)
		if (impl.ImageMany(cells) == 0) != (impl.SwitchMany(a) == 0) {
			t.Fatalf("CellsVariable of %v is %v, and there are %d switches", a, cells, impl.SwitchMany(a))
		}
		if slices.Contains(rowSumsOf(cells), 1) || slices.Contains(colSumsOf(cells), 1) {
			t.Fatalf("CellsVariable of %v is %v", a, cells)
		}
		if impl.ImageMany(cells) == 0 {
			none++
		} else {
			some++
		}
	}
	if none < 1000 || some < 1000 {
		t.Errorf("%d images have no variable cell, and %d some", none, some)
	}
}

// P98: images with nested rows have no variable cell, in any order of rows and columns.
func TestP98Nested(t *testing.T) {
	n := 0
	eachNested(t, func(_ []int, _ int, a impl.Image) {
		if n++; n%9 != 0 {
			return
		}
		if cells := variableOf(t, a); slices.Max(cells.Rows) != 0 {
			t.Fatalf("CellsVariable of %v is %v", a, cells)
		}
	})
	for n := 1; n <= impl.SideMax; n++ {
		for _, a := range slices.Concat(allOf(1, n), allOf(n, 1)) {
			eachCell(a, func(i, j int) { notVariable(t, a, i, j) })
		}
	}
}

// P99: a cell is set in CellsVariable exactly if CellVariable holds.
func TestP99CellVariable(t *testing.T) {
	for _, a := range slices.Concat(variableImages(), twelveCells()) {
		cells := variableOf(t, a)
		eachCell(a, func(i, j int) {
			if is := isVariable(t, a, i, j); is != cellOf(cells, i, j) || is != impl.ImageHas(cells, i, j) {
				t.Fatalf("CellsVariable of %v is %v, and CellVariable of (%d, %d) %v", a, cells, i, j, is)
			}
		})
	}
}

// P100: the distance that CellFlip makes is even and at most twice the lesser one of height and width, and all cells that differ are variable.
func TestP100DistanceOfCellFlip(t *testing.T) {
	most := 0
	eachVariable(t, func(a impl.Image, i, j int, b impl.Image) {
		least := min(len(a.Rows), a.W)
		d := impl.ImageDistance(a, b)
		if d < 4 || d%2 != 0 || d > 2*least {
			t.Fatalf("CellFlip of %v and (%d, %d) is %v, with the distance %d", a, i, j, b, d)
		}
		if d == 2*least {
			most++
		}
		eachCell(a, func(k, l int) {
			if cellOf(a, k, l) != cellOf(b, k, l) && !isVariable(t, a, k, l) {
				t.Fatalf("CellFlip of %v and (%d, %d) is %v: (%d, %d) is not variable", a, i, j, b, k, l)
			}
		})
	})
	if most < 1000 {
		t.Errorf("the distance is the greatest one for %d cells only", most)
	}
}

// P100: in each row and each column, CellFlip changes no cells or two, of which one is set.
func TestP100LinesOfCellFlip(t *testing.T) {
	eachVariable(t, func(a impl.Image, i, j int, b impl.Image) {
		change := rowsOf(a.W, fullOf(len(a.Rows), 0)...)
		eachCell(a, func(k, l int) {
			if cellOf(a, k, l) != cellOf(b, k, l) {
				change.Rows[k] += pow(l)
			}
		})
		for _, sum := range slices.Concat(rowSumsOf(change), colSumsOf(change)) {
			if sum != 0 && sum != 2 {
				t.Fatalf("CellFlip of %v and (%d, %d) is %v", a, i, j, b)
			}
		}
	})
}

// P101: a path of switches leads from the image to that of CellFlip.
func TestP101PathToCellFlip(t *testing.T) {
	n := 0
	eachVariable(t, func(a impl.Image, i, j int, b impl.Image) {
		if n++; n%3 == 0 || differing(a, b) > 4 {
			runs(t, a, paths(t, a, b), b)
		}
	})
}

// P102: a row that is reached reaches nothing else, and the same if it reaches the row.
func TestP102ReachedRows(t *testing.T) {
	back, away := 0, 0
	eachReach(t, func(a impl.Image, i int, reach []bool) {
		for k := range a.Rows {
			if !reach[k] {
				continue
			}
			next := reaches(t, a, k)
			for place, is := range next {
				if is && !reach[place] {
					t.Fatalf("CellReach of %v and %d is %v, and for %d %v", a, i, reach, k, next)
				}
			}
			switch {
			case !next[i]:
				away++
			case !slices.Equal(next, reach):
				t.Fatalf("CellReach of %v and %d is %v, and for %d %v", a, i, reach, k, next)
			case k != i:
				back++
			}
		}
	})
	if back < 1000 || away < 1000 {
		t.Errorf("%d rows reach the row, and %d do not", back, away)
	}
}

// P103: the row and the column of a variable cell are neither empty nor full.
func TestP103SumsOfVariable(t *testing.T) {
	eachVariable(t, func(a impl.Image, i, j int, _ impl.Image) {
		row, col := impl.RowSums(a)[i], impl.ColSums(a)[j]
		if row <= 0 || row >= a.W || col <= 0 || col >= len(a.Rows) {
			t.Fatalf("CellVariable of %v and (%d, %d) holds", a, i, j)
		}
	})
}

// P103: with a row or a column made full or empty, none of its cells is variable.
func TestP103FullAndEmpty(t *testing.T) {
	full, n := 0, 0
	for _, a := range variableImages() {
		n++
		line := n % len(a.Rows)
		for _, row := range []int{0, pow(a.W) - 1} {
			b := cloneOf(a)
			b.Rows[line] = row
			turn := get[impl.Image](t)(impl.ImageTurn(b))
			for j := range a.W {
				notVariable(t, b, line, j)
				notVariable(t, turn, j, line)
			}
			if impl.SwitchMany(b) > 0 {
				full++
			}
		}
	}
	if full < 500 {
		t.Errorf("%d such images have variable cells only", full)
	}
}

// P104: CellFlip of the result leads to an image with the same sums, in which the cell is as before.
func TestP104CellFlipTwice(t *testing.T) {
	back, other := 0, 0
	eachVariable(t, func(a impl.Image, i, j int, b impl.Image) {
		c := flips(t, b, i, j)
		same(t, a, c, true)
		if cellOf(c, i, j) != cellOf(a, i, j) {
			t.Fatalf("CellFlip of %v and (%d, %d), twice, is %v", a, i, j, c)
		}
		if sameImage(a, c) {
			back++
		} else {
			other++
		}
	})
	if back < 1000 || other < 100 {
		t.Errorf("CellFlip, twice, leads to the image for %d cells, and to another one for %d", back, other)
	}
}

// P105: a row is reached in ImageOther exactly if the row is reached from it in the image.
func TestP105ReachInOther(t *testing.T) {
	eachReach(t, func(a impl.Image, i int, _ []bool) {
		reach := reaches(t, get[impl.Image](t)(impl.ImageOther(a)), i)
		for k := range a.Rows {
			if back := reaches(t, a, k); reach[k] != back[i] {
				t.Fatalf("CellReach of %v and %d is %v, and of ImageOther and %d %v", a, k, back, i, reach)
			}
		}
	})
}

// General rule: the images that are returned share no memory with arguments and with each other, the capacity of slices included.
func TestVariableImagesShareNoMemory(t *testing.T) {
	for _, c := range []struct {
		name   string
		change func(impl.Image) (impl.Image, bool)
		want   impl.Image
	}{
		{"CellsVariable", impl.CellsVariable, rowsOf(2, 3, 3, 0)},
		{"CellFlip", func(a impl.Image) (impl.Image, bool) { return impl.CellFlip(a, 0, 1) }, rowsOf(2, 2, 1, 3)},
	} {
		space := []int{1, 2, 3, 40, 41, 42}
		a := impl.Image{W: 2, Rows: space[:3]}
		first, second := get[impl.Image](t)(c.change(a)), get[impl.Image](t)(c.change(a))
		all := first.Rows[:cap(first.Rows)]
		for k := range all {
			all[k] = 99
		}
		if !slices.Equal(space, []int{1, 2, 3, 40, 41, 42}) || !sameImage(second, c.want) {
			t.Errorf("the result of %s shares memory", c.name)
		}
		if b := get[impl.Image](t)(c.change(a)); !sameImage(b, c.want) {
			t.Errorf("%s returned %v, and then %v", c.name, second, b)
		}
	}
}

// General rule: CellsVariable shares no memory with an image that is equal to its result.
func TestCellsVariableOfItself(t *testing.T) {
	a := rowsOf(3, 0, 0, 0)
	b := variableOf(t, a)
	b.Rows[1] = 7
	if !sameImage(a, rowsOf(3, 0, 0, 0)) {
		t.Errorf("the result of CellsVariable shares memory with the image, which is now %v", a)
	}
}

// General rule: the lists that CellReach returns share no memory with each other.
func TestCellReachSharesNoMemory(t *testing.T) {
	for _, c := range knownVariable() {
		a := imageOf(t, c.text)
		for i := range a.Rows {
			first, second := reaches(t, a, i), reaches(t, a, i)
			all := first[:cap(first)]
			for k := range all {
				all[k] = !all[k]
			}
			for _, reach := range [][]bool{second, reaches(t, a, i)} {
				if text := reachText(reach, len(a.Rows)); text != c.reach[i] {
					t.Errorf("CellReach of %q and %d shares memory: %s", c.text, i, text)
				}
			}
		}
	}
}
