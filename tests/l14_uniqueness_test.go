package tests

import (
	"math"
	"slices"
	"sync"
	"testing"

	"loop.example/discretetomography/impl"
)

// unique tests ImageUnique, and that the image stays.
func unique(t *testing.T, a impl.Image, want bool) {
	t.Helper()
	keeps(t, a, func() {
		if impl.ImageUnique(a) != want {
			t.Fatalf("ImageUnique of %v is %v", a, !want)
		}
	})
}

// oneImage tests SumsUnique, and that the lists stay.
func oneImage(t *testing.T, rows []int, cols []int, want bool) {
	t.Helper()
	stay(t, rows, cols, func() {
		if impl.SumsUnique(rows, cols) != want {
			t.Fatalf("SumsUnique of %v and %v is %v", rows, cols, !want)
		}
	})
}

// sorts returns ImageSorted, which must not have failed, nor changed the image.
func sorts(t *testing.T, a impl.Image) impl.Image {
	t.Helper()
	b := changed(t, "ImageSorted", impl.ImageSorted, a)
	if b.W != a.W || len(b.Rows) != len(a.Rows) {
		t.Fatalf("ImageSorted of %v is %v", a, b)
	}
	return b
}

// takes tests ImageSteps, and that the image stays.
func takes(t *testing.T, a impl.Image, want int) {
	t.Helper()
	keeps(t, a, func() {
		if steps := impl.ImageSteps(a); steps != want {
			t.Fatalf("ImageSteps of %v is %d instead of %d", a, steps, want)
		}
	})
}

// turnOf returns ImageTurn, and otherOf ImageOther, of a valid image.
func turnOf(t *testing.T, a impl.Image) impl.Image {
	t.Helper()
	return get[impl.Image](t)(impl.ImageTurn(a))
}

func otherOf(t *testing.T, a impl.Image) impl.Image {
	t.Helper()
	return get[impl.Image](t)(impl.ImageOther(a))
}

// nestedRows tells whether of any two rows of a valid image one has all set columns of the other one.
func nestedRows(a impl.Image) bool {
	for i := range a.Rows {
		for k := range a.Rows {
			first, second := false, false
			for j := range a.W {
				first = first || cellOf(a, i, j) && !cellOf(a, k, j)
				second = second || !cellOf(a, i, j) && cellOf(a, k, j)
			}
			if first && second {
				return false
			}
		}
	}
	return true
}

// pickedOf returns the image of some rows and columns of a valid image, in a given order, each of them any number of times.
func pickedOf(a impl.Image, rows []int, cols []int) impl.Image {
	b := rowsOf(len(cols), fullOf(len(rows), 0)...)
	eachCell(b, func(i, j int) {
		if cellOf(a, rows[i], cols[j]) {
			b.Rows[i] += pow(j)
		}
	})
	return b
}

// byGreatest returns the indexes of a list: each time, that of the greatest element that is left, and of several such ones the least.
func byGreatest(list []int) []int {
	var order []int
	for range list {
		best := -1
		for k := range list {
			if !slices.Contains(order, k) && (best < 0 || list[k] > list[best]) {
				best = k
			}
		}
		order = append(order, best)
	}
	return order
}

// sortedIn returns the image to which ImageSorted leads.
func sortedIn(a impl.Image) impl.Image {
	return pickedOf(a, byGreatest(rowSumsOf(a)), byGreatest(colSumsOf(a)))
}

// shape is a height and a width.
type shape struct{ h, w int }

// fewCells returns the shapes of at most 12 cells, and manyCells all others.
func fewCells() []shape {
	return slices.DeleteFunc(allShapes(), func(s shape) bool { return s.h*s.w > 12 })
}

func manyCells() []shape {
	return slices.DeleteFunc(allShapes(), func(s shape) bool { return s.h*s.w <= 12 })
}

// allShapes returns all shapes of valid images.
func allShapes() []shape {
	var shapes []shape
	for h := 1; h <= impl.SideMax; h++ {
		for w := 1; w <= impl.SideMax; w++ {
			shapes = append(shapes, shape{h, w})
		}
	}
	return shapes
}

// placeIn returns the index of an image in allOf.
func placeIn(a impl.Image) int {
	n := 0
	for _, row := range slices.Backward(a.Rows) {
		n = n*pow(a.W) + row
	}
	return n
}

// alike returns for sums (sumsText) how many images of at most 12 cells have them.
var alike = sync.OnceValue(func() map[string]int {
	many := map[string]int{}
	for _, s := range fewCells() {
		for _, a := range allOf(s.h, s.w) {
			many[sumsText(rowSumsOf(a), colSumsOf(a))]++
		}
	}
	return many
})

// alone tells whether an image of at most 12 cells is the only one with its sums.
func alone(a impl.Image) bool {
	return alike()[sumsText(rowSumsOf(a), colSumsOf(a))] == 1
}

// nearest returns for each image of a shape, as in allOf, the least number of cells to be changed until a goal is reached.
// These numbers are found going away from all goals at a time, one cell after the other.
func nearest(s shape, goal func(a impl.Image) bool) []int {
	all := allOf(s.h, s.w)
	steps := fullOf(len(all), -1)
	var visited []int
	for n, a := range all {
		if goal(a) {
			steps[n], visited = 0, append(visited, n)
		}
	}
	for k := 0; k < len(visited); k++ {
		from := all[visited[k]]
		eachCell(from, func(i, j int) {
			if n := placeIn(flipped(from, i, j)); steps[n] < 0 {
				steps[n], visited = steps[visited[k]]+1, append(visited, n)
			}
		})
	}
	return steps
}

// stepsFew has ImageSteps of all images of at most 12 cells, as in allOf.
var stepsFew = sync.OnceValue(func() map[shape][]int {
	few := map[shape][]int{}
	for _, s := range fewCells() {
		few[s] = nearest(s, alone)
	}
	return few
})

// eachFew calls a function for all images of at most 12 cells, and ImageSteps of them.
func eachFew(visit func(a impl.Image, steps int)) {
	for _, s := range fewCells() {
		for n, a := range allOf(s.h, s.w) {
			visit(a, stepsFew()[s][n])
		}
	}
}

// chainImages returns unique images of all heights and widths: the rows have the first set columns of an order without order.
func chainImages() []impl.Image {
	var list []impl.Image
	number := numbersFrom(31)
	for _, s := range allShapes() {
		for n, sums := range descendingOf(s.h, s.w) {
			a := rowsOf(s.w, fullOf(s.h, 0)...)
			cols := shuffled(s.w, number)
			for i, sum := range mixed(sums, n) {
				for _, j := range cols[:sum] {
					a.Rows[i] += pow(j)
				}
			}
			list = append(list, a)
		}
	}
	return list
}

// doubledImages returns images of all heights and widths that have equal rows and equal columns, next to each other and apart.
func doubledImages() []impl.Image {
	var list []impl.Image
	number := numbersFrom(37)
	for _, s := range allShapes() {
		for _, a := range someOf(s.h, s.w) {
			var rows, cols []int
			for range s.h {
				rows = append(rows, number(max(1, s.h-1)))
			}
			for range s.w {
				cols = append(cols, number(max(1, s.w-1)))
			}
			list = append(list, pickedOf(a, rows, cols))
		}
	}
	return list
}

// uniqueOrNot returns images of all heights and widths, unique and not, all of at most 9 cells and all of twelveCells among them.
func uniqueOrNot() []impl.Image {
	return slices.Concat(variableImages(), twelveCells(), doubledImages(), chainImages())
}

// eachUnique calls a function for those of these images for which ImageUnique holds.
func eachUnique(t *testing.T, visit func(a impl.Image)) {
	t.Helper()
	many, great := 0, 0
	for _, a := range uniqueOrNot() {
		if !impl.ImageUnique(a) {
			continue
		}
		many++
		if len(a.Rows) == impl.SideMax && a.W == impl.SideMax {
			great++
		}
		visit(a)
	}
	if many < 3000 || great < 500 {
		t.Fatalf("ImageUnique holds for %d images only, and for %d of SideMax rows and columns", many, great)
	}
}

// eachUniqueSums calls a function for the sums of eachSums for which SumsUnique holds.
func eachUniqueSums(t *testing.T, visit func(rows []int, cols []int)) {
	t.Helper()
	many := 0
	eachSums(func(rows, cols []int, _ bool) {
		if impl.SumsUnique(rows, cols) {
			many++
			visit(rows, cols)
		}
	})
	if many < 1000 {
		t.Fatalf("SumsUnique holds for %d sums only", many)
	}
}

// knownUnique has images with the text of ImageSorted, and ImageSteps, which is 0 exactly for unique images.
func knownUnique() []struct {
	text, sorted string
	steps        int
} {
	return []struct {
		text, sorted string
		steps        int
	}{
		// One row and one column: the set cells come first.
		{".\n", ".\n", 0},
		{"#\n", "#\n", 0},
		{".#..##\n", "###...\n", 0},
		{".\n#\n.\n.\n#\n#\n", "#\n#\n#\n.\n.\n.\n", 0},
		{"...\n", "...\n", 0},
		// No cell set, and each cell set.
		{"...\n...\n", "...\n...\n", 0},
		{"###\n###\n###\n", "###\n###\n###\n", 0},
		{"......\n......\n......\n......\n......\n......\n", "......\n......\n......\n......\n......\n......\n", -1},
		{"######\n######\n######\n######\n######\n######\n", "######\n######\n######\n######\n######\n######\n", -1},
		// Nested rows, in order and without.
		{"###\n##.\n#..\n", "###\n##.\n#..\n", 0},
		{".#.\n##.\n", "##.\n#..\n", 0},
		{"..#\n###\n.##\n...\n", "###\n##.\n#..\n...\n", 0},
		{".....#\n######\n...###\n", "######\n###...\n#.....\n", -1},
		{"#.....\n###...\n##....\n######\n####..\n#####.\n", "######\n#####.\n####..\n###...\n##....\n#.....\n", -1},
		// Equal columns, and equal rows.
		{"##.\n##.\n", "##.\n##.\n", 0},
		{".##\n...\n.##\n", "##.\n##.\n...\n", 0},
		{"#.#\n###\n#.#\n", "###\n##.\n##.\n", 0},
		{"##\n..\n##\n##\n..\n", "##\n##\n##\n..\n..\n", 0},
		{"##..\n..##\n", "##..\n..##\n", 2},
		{"#.#.\n.#.#\n", "#.#.\n.#.#\n", 2},
		{"#.\n.#\n.#\n#.\n", "#.\n.#\n.#\n#.\n", 2},
		{".##\n.##\n#..\n", "##.\n##.\n..#\n", 1},
		{"#.#\n.#.\n#.#\n", "##.\n##.\n..#\n", 1},
		{"##...#\n..###.\n", "##...#\n..###.\n", 3},
		{"##....\n..####\n", "..####\n##....\n", 2},
		{"#...#\n.###.\n#...#\n.###.\n", ".###.\n.###.\n#...#\n#...#\n", -1},
		{"#...#\n.###.\n#...#\n#...#\n", "..###\n##...\n##...\n##...\n", -1},
		{".##.\n#..#\n.##.\n", "##..\n..##\n##..\n", 2},
		{"#..##\n.##..\n#..##\n", "###..\n###..\n...##\n", -1},
		{"#.#.#.\n######\n#.#.#.\n......\n", "######\n###...\n###...\n......\n", -1},
		{"#.#.#.\n.#.#.#\n#.#.#.\n######\n", "######\n###...\n...###\n###...\n", -1},
		// Just one switch.
		{"#.\n.#\n", "#.\n.#\n", 1},
		{".#\n#.\n", ".#\n#.\n", 1},
		{"#..\n...\n..#\n", "#..\n.#.\n...\n", 1},
		{"###\n#.#\n.##\n", "###\n##.\n#.#\n", 1},
		{"#.#\n.##\n", "##.\n#.#\n", 1},
		// Different rows, or columns, with equal sums stay in their order.
		{"..#\n.#.\n#..\n", "..#\n.#.\n#..\n", 2},
		{".#.\n#..\n##.\n..#\n", "##.\n.#.\n#..\n..#\n", 2},
		{"#..\n..#\n.##\n###\n", "###\n#.#\n.#.\n#..\n", 1},
		{"..##\n#..#\n", "#.#.\n##..\n", 1},
		{"#..#\n..##\n", "##..\n#.#.\n", 1},
		{".#.\n#.#\n", "#.#\n.#.\n", 1},
		{"#..\n.##\n", ".##\n#..\n", 1},
		{"..#\n##.\n..#\n", ".##\n#..\n#..\n", 1},
		{"#....\n.#...\n..#..\n...#.\n....#\n", "#....\n.#...\n..#..\n...#.\n....#\n", -1},
		{"......\n.#....\n...#..\n....##\n.#....\n#.....\n", "...##.\n#.....\n..#...\n#.....\n.#....\n......\n", -1},
		// Several cells to be changed: set ones, others, and both.
		{"#...\n.#..\n..#.\n", "#...\n.#..\n..#.\n", 2},
		{".##\n#.#\n##.\n", ".##\n#.#\n##.\n", 2},
		{"#.##\n.###\n###.\n", "##.#\n#.##\n###.\n", 2},
		{"##..\n#.#.\n...#\n", "##..\n#.#.\n...#\n", 2},
		{"#..#\n.##.\n#.#.\n", "#..#\n.##.\n##..\n", 2},
		{"#.#.#.\n.#.#.#\n", "#.#.#.\n.#.#.#\n", 3},
		{"#.#.\n.#.#\n#.#.\n", "##..\n..##\n##..\n", 2},
	}
}

// P106, P112, P115: known images.
func TestP106P112P115KnownImages(t *testing.T) {
	for _, c := range knownUnique() {
		a := imageOf(t, c.text)
		takes(t, a, c.steps)
		if b := sorts(t, a); impl.ImageText(b) != c.sorted {
			t.Errorf("ImageSorted of %q is %q instead of %q", c.text, impl.ImageText(b), c.sorted)
		}
		unique(t, a, c.steps == 0 || c.steps < 0 && nestedRows(a))
	}
}

// knownOneImage has sums, and whether there is just one image with them.
func knownOneImage() []struct {
	rows, cols []int
	one        bool
} {
	return []struct {
		rows, cols []int
		one        bool
	}{
		// One image, in any order of its sums.
		{[]int{0}, []int{0}, true},
		{[]int{1}, []int{1}, true},
		{[]int{2}, []int{1, 0, 1}, true},
		{[]int{1, 0, 1}, []int{2}, true},
		{[]int{1, 2}, []int{1, 2, 0}, true},
		{[]int{3, 2, 1}, []int{3, 2, 1}, true},
		{[]int{1, 3, 2}, []int{2, 1, 3}, true},
		{[]int{2, 2}, []int{2, 2}, true},
		{[]int{2, 2, 0}, []int{0, 2, 2}, true},
		{[]int{3, 0, 3}, []int{2, 2, 2}, true},
		{[]int{0, 0}, []int{0, 0, 0}, true},
		{[]int{3, 3}, []int{2, 2, 2}, true},
		{[]int{4, 1, 1}, []int{1, 3, 1, 1}, true},
		{[]int{6, 5, 4, 3, 2, 1}, []int{6, 5, 4, 3, 2, 1}, true},
		{[]int{2, 4, 6, 1, 3, 5}, []int{1, 2, 3, 4, 5, 6}, true},
		{[]int{6, 6, 6, 6, 6, 6}, []int{6, 6, 6, 6, 6, 6}, true},
		{[]int{0, 0, 0, 0, 0, 0}, []int{0, 0, 0, 0, 0, 0}, true},
		{[]int{5, 0, 3, 3, 0, 1}, []int{4, 3, 3, 1, 1, 0}, true},
		// Several images.
		{[]int{1, 1}, []int{1, 1}, false},
		{[]int{2, 1}, []int{1, 1, 1}, false},
		{[]int{1, 1, 1}, []int{1, 1, 1}, false},
		{[]int{2, 2}, []int{1, 1, 1, 1}, false},
		{[]int{3, 2, 1}, []int{2, 2, 2}, false},
		{[]int{2, 2, 2}, []int{3, 2, 1}, false},
		{[]int{6, 5, 4, 3, 2, 1}, []int{6, 5, 4, 3, 1, 2}, true},
		{[]int{6, 5, 4, 3, 2, 1}, []int{6, 5, 4, 2, 2, 2}, false},
		{[]int{6, 5, 4, 3, 2, 1}, []int{5, 5, 5, 3, 2, 1}, false},
		{[]int{3, 3, 3, 3, 3, 3}, []int{3, 3, 3, 3, 3, 3}, false},
		{[]int{6, 6, 6, 6, 5, 5}, []int{6, 6, 6, 6, 5, 5}, false},
		{[]int{1, 0, 0, 0, 0, 1}, []int{0, 1, 1, 0, 0, 0}, false},
		// No image: with equal totals, and with totals that differ.
		{[]int{2, 0}, []int{2, 0}, false},
		{[]int{0, 2}, []int{0, 2}, false},
		{[]int{3, 3, 0}, []int{3, 3, 0}, false},
		{[]int{3, 3, 1, 1}, []int{4, 4, 0}, false},
		{[]int{1}, []int{0}, false},
		{[]int{0}, []int{1}, false},
		{[]int{2, 1}, []int{2, 0}, false},
		{[]int{2, 0}, []int{1, 0}, false},
		{[]int{3, 2, 1}, []int{3, 2, 0}, false},
		{[]int{3, 2, 0}, []int{3, 2, 1}, false},
		{[]int{6, 6, 6, 6, 6, 6}, []int{6, 6, 6, 6, 6, 5}, false},
		{[]int{0, 0, 0, 0, 0, 0}, []int{0, 0, 0, 0, 0, 1}, false},
		{[]int{6, 6, 6, 6, 6, 6}, []int{0, 0, 0, 0, 0, 0}, false},
	}
}

// P110: known sums, in all orders of a few and in the opposite order, and both lists exchanged.
func TestP110KnownSums(t *testing.T) {
	for _, c := range knownOneImage() {
		for _, rows := range [][]int{c.rows, backward(c.rows), mixed(c.rows, 1), mixed(c.rows, 2)} {
			for _, cols := range [][]int{c.cols, backward(c.cols), mixed(c.cols, 1), mixed(c.cols, 2)} {
				oneImage(t, rows, cols, c.one)
				oneImage(t, cols, rows, c.one)
			}
		}
	}
}

// P106: the sums of a unique image are unique and lead to it, and so do those of ImageTurn and ImageOther.
func TestP106SumsOfUnique(t *testing.T) {
	eachUnique(t, func(a impl.Image) {
		for _, b := range []impl.Image{a, turnOf(t, a), otherOf(t, a), otherOf(t, turnOf(t, a))} {
			unique(t, b, true)
			rows, cols := impl.RowSums(b), impl.ColSums(b)
			oneImage(t, rows, cols, true)
			byColumn().builds(t, rows, cols, b)
			byRow().builds(t, rows, cols, b)
		}
	})
}

// P106: the sums of an image that is not unique are not either.
func TestP106SumsOfOthers(t *testing.T) {
	many := 0
	for _, a := range uniqueOrNot() {
		if impl.ImageUnique(a) {
			continue
		}
		many++
		for _, b := range []impl.Image{a, turnOf(t, a), otherOf(t, a)} {
			unique(t, b, false)
			oneImage(t, impl.RowSums(b), impl.ColSums(b), false)
		}
	}
	if many < 3000 {
		t.Errorf("%d images are not unique only", many)
	}
}

// P107: of two images with the same sums, both are unique or none, and both only if they are equal.
func TestP107SameSums(t *testing.T) {
	equal, others := 0, 0
	for _, p := range samePairs() {
		is := impl.ImageUnique(p.a)
		unique(t, p.b, is)
		switch {
		case is && !sameImage(p.a, p.b):
			t.Fatalf("ImageUnique of %v and %v holds", p.a, p.b)
		case is:
			equal++
		case !sameImage(p.a, p.b):
			others++
		}
	}
	if equal < 1000 || others < 1000 {
		t.Errorf("there are %d pairs of equal unique images, and %d of different ones", equal, others)
	}
}

// P107: with a switch, an image is not unique, and nor is the image to which it leads.
func TestP107Switched(t *testing.T) {
	eachSwitch(t, func(a impl.Image, _ impl.Switch, b impl.Image) {
		unique(t, a, false)
		unique(t, b, false)
	})
}

// P108: an image of at most nine cells is unique exactly if no other one has its sums; those of ten and twelve cells, too.
func TestP108ImageUnique(t *testing.T) {
	is, not := 0, 0
	eachFew(func(a impl.Image, _ int) {
		unique(t, a, alone(a))
		if alone(a) {
			is++
		} else {
			not++
		}
	})
	if is < 1000 || not < 10000 {
		t.Errorf("%d images are unique, and %d are not", is, not)
	}
}

// P109: of any two rows of a unique image one has all set columns of the other one, and so have columns; no other images are so.
func TestP109NestedRows(t *testing.T) {
	for _, a := range uniqueOrNot() {
		unique(t, a, nestedRows(a))
		if nestedRows(a) != nestedRows(turnOf(t, a)) || nestedRows(a) != (len(switchesIn(a)) == 0) {
			t.Fatalf("the rows of %v are nested, and its columns are not, or there is a switch", a)
		}
	}
	for _, a := range chainImages() {
		unique(t, a, true)
	}
}

// P109: a unique image with any one of its cells changed is unique exactly if the rows stay nested.
func TestP109OneCellOff(t *testing.T) {
	is, not := 0, 0
	for n, a := range chainImages() {
		if n%7 != 0 {
			continue
		}
		eachCell(a, func(i, j int) {
			b := flipped(a, i, j)
			unique(t, b, nestedRows(b))
			if nestedRows(b) {
				is++
			} else {
				not++
			}
		})
	}
	if is < 1000 || not < 1000 {
		t.Errorf("%d images are still unique, and %d are not", is, not)
	}
}

// P110: sums of at most 12 cells, in all orders, are unique exactly if just one image has them.
func TestP110SmallSums(t *testing.T) {
	eachSmallList(func(rows, cols []int) {
		oneImage(t, rows, cols, alike()[sumsText(rows, cols)] == 1)
	})
}

// P110: sums are unique exactly if there is an image with them that has no switch.
func TestP110SumsUnique(t *testing.T) {
	one, several, none := 0, 0, 0
	eachSums(func(rows, cols []int, has bool) {
		is := has && len(switchesIn(columnsBuilt(rows, cols))) == 0
		oneImage(t, rows, cols, is)
		switch {
		case is:
			one++
		case has:
			several++
		default:
			none++
		}
	})
	if one < 1000 || several < 10000 || none < 10000 {
		t.Errorf("%d sums have one image, %d several and %d none", one, several, none)
	}
}

// P110: unique sums are consistent, their image is unique, and they are unique exchanged, and for the cells that are not set.
func TestP110UniqueOtherwise(t *testing.T) {
	eachUniqueSums(t, func(rows, cols []int) {
		consistent(t, rows, cols, true)
		unique(t, byColumn().built(t, rows, cols), true)
		unique(t, byRow().built(t, rows, cols), true)
		oneImage(t, cols, rows, true)
		others, rests := turned(t, rows, cols)
		oneImage(t, others, rests, true)
		oneImage(t, rests, others, true)
	})
}

// P110: unique sums are not any more with one of them changed.
func TestP110OneSumOff(t *testing.T) {
	eachUniqueSums(t, func(rows, cols []int) {
		for i := range rows {
			for _, by := range []int{-1, 1, -len(cols), len(cols)} {
				oneImage(t, withOne(rows, i, rows[i]+by), cols, false)
			}
		}
		for j := range cols {
			for _, by := range []int{-1, 1, -len(rows), len(rows)} {
				oneImage(t, rows, withOne(cols, j, cols[j]+by), false)
			}
		}
	})
}

// P110: sums that are not valid are not unique.
func TestP110InvalidSums(t *testing.T) {
	for _, p := range badSums() {
		oneImage(t, p.rows, p.cols, false)
	}
}

// P111: with the row sums of unique sums, the column sums of BuildNested are PartOf of the column sums; no other consistent sums are so.
func TestP111NestedSums(t *testing.T) {
	is, not := 0, 0
	eachConsistent(t, func(rows, cols []int) {
		sorted, ok := impl.PartOf(cols)
		if !ok {
			t.Fatalf("PartOf of %v failed", cols)
		}
		equal := slices.Equal(impl.ColSums(nested(t, rows, len(cols))), sorted)
		oneImage(t, rows, cols, equal)
		if equal {
			is++
		} else {
			not++
		}
	})
	if is < 1000 || not < 1000 {
		t.Errorf("%d sums are unique, and %d are not", is, not)
	}
}

// P112: the sums of ImageSorted are PartOf of those of the image, and a second time it is the same.
func TestP112ImageSorted(t *testing.T) {
	for _, a := range uniqueOrNot() {
		b := sorts(t, a)
		rows, fine := impl.PartOf(impl.RowSums(a))
		cols, good := impl.PartOf(impl.ColSums(a))
		if !fine || !good || !slices.Equal(impl.RowSums(b), rows) || !slices.Equal(impl.ColSums(b), cols) {
			t.Fatalf("ImageSorted of %v is %v", a, b)
		}
		if c := sorts(t, b); !sameImage(c, b) {
			t.Fatalf("ImageSorted of %v is %v, and a second time %v", a, b, c)
		}
	}
}

// P112: rows and columns with equal sums stay in their order.
func TestP112OrderOfEqualSums(t *testing.T) {
	rows, cols := 0, 0
	test := func(a impl.Image) {
		if b, want := sorts(t, a), sortedIn(a); !sameImage(b, want) {
			t.Fatalf("ImageSorted of %v is %v instead of %v", a, b, want)
		}
		rows += differentLines(a)
		cols += differentLines(turnOf(t, a))
	}
	for _, a := range uniqueOrNot() {
		test(a)
	}
	if rows < 10000 || cols < 10000 {
		t.Errorf("%d pairs of rows and %d of columns are different and have equal sums only", rows, cols)
	}
}

// differentLines returns how many pairs of rows of a valid image are different and have equal sums.
func differentLines(a impl.Image) int {
	many := 0
	sums := rowSumsOf(a)
	for i := range sums {
		for k := range i {
			if sums[i] == sums[k] && a.Rows[i] != a.Rows[k] {
				many++
			}
		}
	}
	return many
}

// P112: with all rows different and all columns different, but all sums equal, the image stays as it is.
func TestP112AllSumsEqual(t *testing.T) {
	for _, a := range []impl.Image{
		rowsOf(6, 1, 2, 4, 8, 16, 32), rowsOf(6, 32, 16, 8, 4, 2, 1), rowsOf(6, 3, 6, 12, 24, 48, 33), rowsOf(6, 48, 24, 12, 6, 3, 33),
		rowsOf(6, 62, 61, 59, 55, 47, 31), rowsOf(6, 2, 16, 1, 32, 4, 8), rowsOf(6, 7, 56, 49, 14, 28, 35), rowsOf(3, 1, 4, 2), rowsOf(2, 2, 1),
	} {
		if b := sorts(t, a); !sameImage(b, a) {
			t.Errorf("ImageSorted of %v is %v", a, b)
		}
	}
}

// P113: ImageSorted has as many switches as the image, and both are unique or none is.
func TestP113SwitchesOfSorted(t *testing.T) {
	is, not := 0, 0
	for _, a := range uniqueOrNot() {
		b := sorts(t, a)
		if impl.SwitchMany(a) != impl.SwitchMany(b) {
			t.Fatalf("SwitchMany of %v is %d, and of ImageSorted %d", a, impl.SwitchMany(a), impl.SwitchMany(b))
		}
		unique(t, b, impl.ImageUnique(a))
		if impl.ImageUnique(a) {
			is++
		} else {
			not++
		}
	}
	if is < 1000 || not < 1000 {
		t.Errorf("%d images are unique, and %d are not", is, not)
	}
}

// P114: ImageSorted of a unique image is BuildNested of its row sums.
func TestP114SortedUnique(t *testing.T) {
	eachUnique(t, func(a impl.Image) {
		b := sorts(t, a)
		if c := nested(t, impl.RowSums(b), b.W); !sameImage(b, c) {
			t.Fatalf("ImageSorted of %v is %v, and BuildNested %v", a, b, c)
		}
	})
}

// P115, P116: ImageSteps of an image of at most 12 cells is the least number of cells to be changed until no other image has its sums.
func TestP115P116ImageSteps(t *testing.T) {
	many := map[int]int{}
	eachFew(func(a impl.Image, steps int) {
		takes(t, a, steps)
		many[steps]++
	})
	if many[0] < 1000 || many[1] < 1000 || many[2] < 1000 || many[3] < 10 {
		t.Errorf("the numbers of steps are %v", many)
	}
}

// P115: ImageSteps is 0 exactly for unique images, and neither more than the number of set cells nor than that of the others.
func TestP115StepsBound(t *testing.T) {
	set, other := 0, 0
	eachFew(func(a impl.Image, _ int) {
		steps, many := impl.ImageSteps(a), impl.ImageMany(a)
		if (steps == 0) != impl.ImageUnique(a) || steps < 0 || steps > many || steps > len(a.Rows)*a.W-many {
			t.Fatalf("ImageSteps of %v is %d", a, steps)
		}
		if steps > 0 && steps == many-1 {
			set++
		}
		if steps > 0 && steps == len(a.Rows)*a.W-many-1 {
			other++
		}
	})
	if set < 100 || other < 100 {
		t.Errorf("%d images have one set cell more than ImageSteps, and %d one other cell more", set, other)
	}
}

// P115: images of 12 cells have ImageSteps, and images of more cells do not, unique or not.
func TestP115TooManyCells(t *testing.T) {
	for _, s := range fewCells() {
		for _, a := range someOf(s.h, s.w) {
			if impl.ImageSteps(a) < 0 {
				t.Errorf("ImageSteps of %v is %d", a, impl.ImageSteps(a))
			}
		}
	}
	for _, s := range manyCells() {
		for _, a := range someOf(s.h, s.w) {
			takes(t, a, -1)
		}
	}
	for _, a := range slices.Concat(chainImages(), greatImages()) {
		if len(a.Rows)*a.W > 12 {
			takes(t, a, -1)
		}
	}
}

// P116: with any one cell changed, ImageSteps differs by at most 1.
func TestP116StepsOfOneCell(t *testing.T) {
	for _, s := range fewCells() {
		all := allOf(s.h, s.w)
		steps := make([]int, len(all))
		for n, a := range all {
			steps[n] = impl.ImageSteps(a)
		}
		for n, a := range all {
			eachCell(a, func(i, j int) {
				if by := steps[n] - steps[placeIn(flipped(a, i, j))]; by < -1 || by > 1 {
					t.Fatalf("ImageSteps of %v is %d, and with (%d, %d) changed %d less", a, steps[n], i, j, by)
				}
			})
		}
	}
}

// P116: the steps can be gone: as long as an image is not unique, there is a cell with which it takes one step less.
func TestP116StepsGone(t *testing.T) {
	eachFew(func(a impl.Image, steps int) {
		if len(a.Rows)*a.W == 12 && placeIn(a)%5 != 0 {
			return
		}
		nearer := 0
		eachCell(a, func(i, j int) {
			if impl.ImageSteps(flipped(a, i, j)) == steps-1 {
				nearer++
			}
		})
		if (nearer > 0) != (steps > 0) {
			t.Fatalf("ImageSteps of %v is %d, and %d cells lead nearer", a, steps, nearer)
		}
	})
}

// P117: ImageSteps is the same for ImageTurn and ImageOther, and for ImageMirror and ImageSorted, too.
func TestP117StepsOtherwise(t *testing.T) {
	eachFew(func(a impl.Image, steps int) {
		mirror := get[impl.Image](t)(impl.ImageMirror(a))
		for _, b := range []impl.Image{turnOf(t, a), otherOf(t, a), mirror, sorts(t, a)} {
			takes(t, b, steps)
		}
	})
}

// P118: unique sums are unique with first sums moved to the end.
func TestP118SumsMoved(t *testing.T) {
	eachUniqueSums(t, func(rows, cols []int) {
		for i := range rows {
			for j := range cols {
				oneImage(t, slices.Concat(rows[i:], rows[:i]), slices.Concat(cols[j:], cols[:j]), true)
			}
		}
	})
}

// P119: a unique image has no variable cell and no switch, and the path to itself is empty.
func TestP119NoVariableCells(t *testing.T) {
	eachUnique(t, func(a impl.Image) {
		if cells := variableOf(t, a); impl.ImageMany(cells) != 0 {
			t.Fatalf("CellsVariable of %v is %v", a, cells)
		}
		noFirst(t, a)
		if list := paths(t, a, a); len(list) != 0 {
			t.Fatalf("SwitchPath of %v to itself is %v", a, list)
		}
	})
}

// P119: an image without variable cells, and one without a first switch, is unique.
func TestP119Others(t *testing.T) {
	for _, a := range uniqueOrNot() {
		_, ok := impl.SwitchFirst(a)
		unique(t, a, !ok)
		unique(t, a, impl.ImageMany(variableOf(t, a)) == 0)
	}
}

// P120: ImageSteps is at most the distances to BuildNested of the row sums, and to the images with no cell set and with each cell set.
func TestP120StepsToNested(t *testing.T) {
	one, less := 0, 0
	eachFew(func(a impl.Image, _ int) {
		steps := impl.ImageSteps(a)
		none := rowsOf(a.W, fullOf(len(a.Rows), 0)...)
		all := rowsOf(a.W, fullOf(len(a.Rows), pow(a.W)-1)...)
		b := nested(t, impl.RowSums(a), a.W)
		for _, goal := range []impl.Image{b, none, all} {
			if d := impl.ImageDistance(a, goal); steps > d {
				t.Fatalf("ImageSteps of %v is %d, and the distance to %v %d", a, steps, goal, d)
			}
		}
		switch d := impl.ImageDistance(a, b); {
		case steps > 0 && steps == d:
			one++
		case steps < d:
			less++
		}
	})
	if one < 1 || less < 1000 {
		t.Errorf("the distance to BuildNested is ImageSteps for %d images, and more for %d", one, less)
	}
}

// nearestWith returns the least distance of an image from one of a list, other than itself, that fits, or noWay.
func nearestWith(a impl.Image, list []impl.Image, fits func(b impl.Image) bool) int {
	least := noWay
	for _, b := range list {
		if d := differing(a, b); d > 0 && d < least && fits(b) {
			least = d
		}
	}
	return least
}

// P120: the nearest unique image may have other sums, and may be nearer than each image with the same sums,
// than each unique one with as many set cells, and than each unique one with the same row sums.
func TestP120OtherSums(t *testing.T) {
	for _, c := range []struct {
		text, nearest      string
		steps              int
		same, many, inRows int
	}{
		{"#.\n.#\n", "##\n.#\n", 1, 4, 2, 2},
		{"#..\n...\n..#\n", "#..\n...\n...\n", 1, 4, 2, 2},
		{"###.\n.###\n####\n", "####\n.###\n####\n", 1, 4, 2, 2},
		{"#..\n.#.\n..#\n", "#..\n...\n...\n", 2, 4, 2, 4},
		{"##..\n..##\n", "##..\n....\n", 2, 4, 2, 4},
		{"#.#.\n.#.#\n#.#.\n", "#.#.\n....\n#.#.\n", 2, 4, 4, 4},
		{"#.#.#.\n.#.#.#\n", "#.#.#.\n......\n", 3, 4, 4, 6},
	} {
		a, b := imageOf(t, c.text), imageOf(t, c.nearest)
		all := allOf(len(a.Rows), a.W)
		takes(t, a, c.steps)
		unique(t, b, true)
		distant(t, a, b, c.steps)
		for _, d := range []struct {
			want int
			fits func(b impl.Image) bool
		}{
			{c.same, func(b impl.Image) bool { return impl.SumsSame(a, b) }},
			{c.many, func(b impl.Image) bool { return alone(b) && totalOf(rowSumsOf(a)) == totalOf(rowSumsOf(b)) }},
			{c.inRows, func(b impl.Image) bool { return alone(b) && slices.Equal(rowSumsOf(a), rowSumsOf(b)) }},
		} {
			if least := nearestWith(a, all, d.fits); least != d.want {
				t.Errorf("of %q, the distance to the nearest image is %d instead of %d", c.text, least, d.want)
			}
		}
	}
}

// P121: the sums of ImageSorted are consistent, and unique exactly if the image is.
func TestP121SumsOfSorted(t *testing.T) {
	for _, a := range uniqueOrNot() {
		b := sorts(t, a)
		consistent(t, impl.RowSums(b), impl.ColSums(b), true)
		oneImage(t, impl.RowSums(b), impl.ColSums(b), impl.ImageUnique(a))
	}
}

// P106, P112, P115: invalid images.
func TestP106P112P115InvalidImages(t *testing.T) {
	failsForBad(t, "ImageSorted", impl.ImageSorted)
	for _, a := range slices.Concat(badImages(), spoiledImages(), spoiledUnique()) {
		unique(t, a, false)
		takes(t, a, -1)
		keeps(t, a, func() {
			if b, ok := impl.ImageSorted(a); ok || !zeroImage(b) {
				t.Fatalf("ImageSorted of %v returned %v, %v", a, b, ok)
			}
		})
	}
}

// spoiledUnique returns invalid images of few cells, with nested rows as far as they have any.
func spoiledUnique() []impl.Image {
	list := []impl.Image{{W: 1}, {W: 6, Rows: []int{}}, rowsOf(0, 0), rowsOf(0), rowsOf(1, 0, 0, 0, 0, 0, 0, 0), rowsOf(1, 1, 1, 1, 1, 1, 1, 1)}
	for _, w := range []int{impl.SideMax + 1, -1, 12, 64, math.MaxInt, math.MinInt} {
		list = append(list, rowsOf(w, 0), rowsOf(w, 1), rowsOf(w, 3, 1), rowsOf(w, 127))
	}
	for w := 1; w <= impl.SideMax; w++ {
		for _, row := range []int{-1, pow(w), pow(w+1) - 1, math.MaxInt, math.MinInt} {
			list = append(list, rowsOf(w, row), rowsOf(w, row, row), rowsOf(w, 0, row), rowsOf(w, row, pow(w)-1))
		}
	}
	return list
}

// P108, P112, P115: images of one row and of one column are unique, and their set cells come first in ImageSorted.
func TestP108P112P115OneRowOrColumn(t *testing.T) {
	for n := 1; n <= impl.SideMax; n++ {
		for _, a := range slices.Concat(allOf(1, n), allOf(n, 1)) {
			unique(t, a, true)
			takes(t, a, 0)
		}
		for _, a := range allOf(1, n) {
			many := totalOf(rowSumsOf(a))
			row, column := rowsOf(n, pow(many)-1), rowsOf(1, slices.Concat(fullOf(many, 1), fullOf(n-many, 0))...)
			if b, c := sorts(t, a), sorts(t, turnOf(t, a)); !sameImage(b, row) || !sameImage(c, column) {
				t.Errorf("ImageSorted of %v is %v, and turned %v", a, b, c)
			}
		}
	}
}

// P108, P112, P115: images without set cells, and with each cell set, are unique, and are sorted.
func TestP108P112P115EmptyAndFull(t *testing.T) {
	for _, s := range allShapes() {
		for _, row := range []int{0, pow(s.w) - 1} {
			a := rowsOf(s.w, fullOf(s.h, row)...)
			unique(t, a, true)
			if s.h*s.w <= 12 {
				takes(t, a, 0)
			} else {
				takes(t, a, -1)
			}
			if b := sorts(t, a); !sameImage(b, a) {
				t.Errorf("ImageSorted of %v is %v", a, b)
			}
		}
	}
}

// P109, P113: a row or a column that is there once more, next to it or apart, makes no difference to whether an image is unique.
func TestP109P113EqualLines(t *testing.T) {
	is, not := 0, 0
	number := numbersFrom(41)
	for _, a := range slices.Concat(goodImages(), twelveCells(), chainImages()) {
		rows, cols := byGreatest(fullOf(len(a.Rows), 0)), byGreatest(fullOf(a.W, 0))
		moreRows, moreCols := slices.Clone(rows), slices.Clone(cols)
		if len(rows) < impl.SideMax {
			moreRows = slices.Insert(moreRows, number(len(rows)+1), number(len(rows)))
		}
		if len(cols) < impl.SideMax {
			moreCols = slices.Insert(moreCols, number(len(cols)+1), number(len(cols)))
		}
		for _, b := range []impl.Image{pickedOf(a, moreRows, cols), pickedOf(a, rows, moreCols), pickedOf(a, moreRows, moreCols)} {
			unique(t, b, impl.ImageUnique(a))
			unique(t, sorts(t, b), impl.ImageUnique(a))
			oneImage(t, impl.RowSums(b), impl.ColSums(b), impl.ImageUnique(a))
		}
		if impl.ImageUnique(a) {
			is++
		} else {
			not++
		}
	}
	if is < 1000 || not < 1000 {
		t.Errorf("%d images are unique, and %d are not", is, not)
	}
}

// P115, P117: with each column there twice, next to each other or apart, it takes twice as many steps; and so it does with each row.
func TestP115P117EqualLines(t *testing.T) {
	many := map[int]int{}
	eachFew(func(a impl.Image, steps int) {
		h, w := len(a.Rows), a.W
		if 2*h*w > 12 {
			return
		}
		rows, cols := byGreatest(fullOf(h, 0)), byGreatest(fullOf(w, 0))
		if 2*w <= impl.SideMax {
			takes(t, pickedOf(a, rows, slices.Concat(cols, cols)), 2*steps)
			takes(t, pickedOf(a, rows, slices.Sorted(slices.Values(slices.Concat(cols, cols)))), 2*steps)
			many[steps]++
		}
		if 2*h <= impl.SideMax {
			takes(t, pickedOf(a, slices.Concat(rows, backward(rows)), cols), 2*steps)
		}
	})
	if many[0] < 100 || many[1] < 20 {
		t.Errorf("the numbers of steps of the images are %v", many)
	}
}

// General rule: the images that ImageSorted returns share no memory with arguments and with each other, the capacity of slices included.
func TestImageSortedSharesNoMemory(t *testing.T) {
	for _, c := range knownUnique() {
		image := imageOf(t, c.text)
		space := append(slices.Clone(image.Rows), 40, 41, 42)
		old := slices.Clone(space)
		a := impl.Image{W: image.W, Rows: space[:len(image.Rows)]}
		first, second := sorts(t, a), sorts(t, a)
		all := first.Rows[:cap(first.Rows)]
		for k := range all {
			all[k] = 99
		}
		if !slices.Equal(space, old) || impl.ImageText(second) != c.sorted || impl.ImageText(sorts(t, a)) != c.sorted {
			t.Errorf("ImageSorted of %q shares memory", c.text)
		}
	}
}
