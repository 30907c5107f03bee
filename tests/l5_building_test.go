package tests

import (
	"math"
	"slices"
	"testing"

	"loop.example/discretetomography/impl"
)

// takersOf returns the lines in which cells are set next, as many as told: those that have fewer than so many lines
// ahead of them, with more cells to come, or with as many and a lesser index.
func takersOf(toCome []int, many int) []int {
	var takers []int
	for k, n := range toCome {
		ahead := 0
		for other, m := range toCome {
			if m > n || m == n && other < k {
				ahead++
			}
		}
		if ahead < many {
			takers = append(takers, k)
		}
	}
	return takers
}

// columnsBuilt returns the image with consistent sums that is built column by column.
func columnsBuilt(rows []int, cols []int) impl.Image {
	a := impl.Image{W: len(cols), Rows: make([]int, len(rows))}
	rows = slices.Clone(rows)
	for j, sum := range cols {
		for _, i := range takersOf(rows, sum) {
			a.Rows[i] += pow(j)
			rows[i]--
		}
	}
	return a
}

// rowsBuilt returns the image with consistent sums that is built row by row.
func rowsBuilt(rows []int, cols []int) impl.Image {
	a := impl.Image{W: len(cols), Rows: make([]int, len(rows))}
	cols = slices.Clone(cols)
	for i, sum := range rows {
		for _, j := range takersOf(cols, sum) {
			a.Rows[i] += pow(j)
			cols[j]--
		}
	}
	return a
}

// builder is BuildImage or BuildRow.
type builder struct {
	name  string
	build func(rows []int, cols []int) (impl.Image, bool)
}

// byColumn and byRow return the two builders.
func byColumn() builder { return builder{"BuildImage", impl.BuildImage} }
func byRow() builder    { return builder{"BuildRow", impl.BuildRow} }

// built returns the image that a builder makes of sums: it must be valid, and the sums stay.
func (b builder) built(t *testing.T, rows []int, cols []int) impl.Image {
	t.Helper()
	var a impl.Image
	stay(t, rows, cols, func() {
		var ok bool
		if a, ok = b.build(rows, cols); !ok || !impl.ImageValid(a) {
			t.Fatalf("%s of %v and %v returned %v, %v", b.name, rows, cols, a, ok)
		}
	})
	return a
}

// fails tests that a builder fails with the zero value, and that the sums stay.
func (b builder) fails(t *testing.T, rows []int, cols []int) {
	t.Helper()
	stay(t, rows, cols, func() {
		if a, ok := b.build(rows, cols); ok || !zeroImage(a) {
			t.Fatalf("%s of %v and %v returned %v, %v", b.name, rows, cols, a, ok)
		}
	})
}

// builds tests that a builder makes an image of sums that is as wanted, and has the sums.
func (b builder) builds(t *testing.T, rows []int, cols []int, want impl.Image) {
	t.Helper()
	a := b.built(t, rows, cols)
	if !sameImage(a, want) {
		t.Fatalf("%s of %v and %v returned\n%sinstead of\n%s", b.name, rows, cols, textOf(a), textOf(want))
	}
	if !slices.Equal(rowSumsOf(a), rows) || !slices.Equal(colSumsOf(a), cols) {
		t.Fatalf("%s of %v and %v has the sums %v and %v", b.name, rows, cols, rowSumsOf(a), colSumsOf(a))
	}
}

// nested returns BuildNested, which must not have failed, nor changed the list.
func nested(t *testing.T, rows []int, w int) impl.Image {
	t.Helper()
	old := slices.Clone(rows)
	a, ok := impl.BuildNested(rows, w)
	if !ok || !impl.ImageValid(a) || !slices.Equal(rows, old) {
		t.Fatalf("BuildNested of %v and %d returned %v, %v, and the row sums are %v", old, w, a, ok, rows)
	}
	return a
}

// eachNested calls a function for BuildNested of all row sums and widths.
func eachNested(t *testing.T, visit func(rows []int, w int, a impl.Image)) {
	t.Helper()
	for w := 1; w <= impl.SideMax; w++ {
		for _, rows := range listsOf(impl.SideMax, 0, w) {
			if len(rows) > 0 {
				visit(rows, w, nested(t, rows, w))
			}
		}
	}
}

// knownBuilt has consistent sums with the texts of their images, built column by column and row by row.
func knownBuilt() []struct {
	rows, cols      []int
	columns, inRows string
} {
	return []struct {
		rows, cols      []int
		columns, inRows string
	}{
		// One sum, and one row or one column.
		{[]int{0}, []int{0}, ".\n", ".\n"},
		{[]int{1}, []int{1}, "#\n", "#\n"},
		{[]int{2}, []int{1, 0, 1}, "#.#\n", "#.#\n"},
		{[]int{1, 0, 1}, []int{2}, "#\n.\n#\n", "#\n.\n#\n"},
		{[]int{3}, []int{0, 1, 0, 0, 1, 1}, ".#..##\n", ".#..##\n"},
		{[]int{0, 0, 1, 1, 0, 0}, []int{2}, ".\n.\n#\n#\n.\n.\n", ".\n.\n#\n#\n.\n.\n"},
		// Ordinary sums, which tell the rows with the most cells to come from the others.
		{[]int{2, 1}, []int{1, 1, 1}, "##.\n..#\n", "##.\n..#\n"},
		{[]int{1, 2}, []int{1, 1, 1}, ".#.\n#.#\n", "#..\n.##\n"},
		{[]int{1, 1, 1}, []int{1, 2}, "#.\n.#\n.#\n", ".#\n#.\n.#\n"},
		{[]int{2, 1, 2, 1}, []int{2, 3, 1}, "##.\n.#.\n##.\n..#\n", "##.\n.#.\n##.\n..#\n"},
		{[]int{1, 2, 2, 1}, []int{2, 2, 2}, ".#.\n##.\n#.#\n..#\n", "#..\n.##\n##.\n..#\n"},
		// Equal sums: the lesser ones come first.
		{[]int{1, 1, 1}, []int{1, 1, 1}, "#..\n.#.\n..#\n", "#..\n.#.\n..#\n"},
		{[]int{2, 2, 2}, []int{2, 2, 2}, "##.\n#.#\n.##\n", "##.\n#.#\n.##\n"},
		{[]int{2, 2}, []int{1, 1, 1, 1}, "#.#.\n.#.#\n", "##..\n..##\n"},
		{[]int{1, 1, 1, 1}, []int{2, 2}, "#.\n#.\n.#\n.#\n", "#.\n.#\n#.\n.#\n"},
		{[]int{3, 3, 3, 3, 3, 3}, []int{3, 3, 3, 3, 3, 3},
			"#.#.#.\n#.#.#.\n#.#.#.\n.#.#.#\n.#.#.#\n.#.#.#\n", "###...\n...###\n###...\n...###\n###...\n...###\n"},
		{[]int{1, 1, 1, 1, 1, 1}, []int{1, 1, 1, 1, 1, 1},
			"#.....\n.#....\n..#...\n...#..\n....#.\n.....#\n", "#.....\n.#....\n..#...\n...#..\n....#.\n.....#\n"},
		// Empty and full rows and columns.
		{[]int{0, 3, 1}, []int{1, 2, 1}, "...\n###\n.#.\n", "...\n###\n.#.\n"},
		{[]int{1, 2}, []int{0, 2, 1}, ".#.\n.##\n", ".#.\n.##\n"},
		{[]int{2, 0, 3, 2}, []int{3, 1, 0, 3}, "#..#\n....\n##.#\n#..#\n", "#..#\n....\n##.#\n#..#\n"},
		{[]int{2, 2, 4, 0}, []int{2, 2, 2, 2}, "#.#.\n.#.#\n####\n....\n", "##..\n..##\n####\n....\n"},
		{[]int{0, 0}, []int{0, 0, 0}, "...\n...\n", "...\n...\n"},
		{[]int{3, 3}, []int{2, 2, 2}, "###\n###\n", "###\n###\n"},
		{[]int{1, 2, 3, 4, 5, 6}, []int{6, 5, 4, 3, 2, 1},
			"#.....\n##....\n###...\n####..\n#####.\n######\n", "#.....\n##....\n###...\n####..\n#####.\n######\n"},
	}
}

// ordersOf returns all orders of a list, each of them once.
func ordersOf(list []int) [][]int {
	if len(list) == 0 {
		return [][]int{{}}
	}
	var orders [][]int
	for k, n := range list {
		if slices.Contains(list[:k], n) {
			continue
		}
		for _, rest := range ordersOf(slices.Delete(slices.Clone(list), k, k+1)) {
			orders = append(orders, append([]int{n}, rest...))
		}
	}
	return orders
}

// P51: the sums of BuildNested are consistent, with the excess 0.
func TestP51BuildNested(t *testing.T) {
	many := 0
	eachNested(t, func(rows []int, _ int, a impl.Image) {
		many++
		for _, cols := range [][]int{impl.ColSums(a), mixed(impl.ColSums(a), many)} {
			consistent(t, rows, cols, true)
			excess(t, rows, cols, 0)
		}
	})
}

// P51: so they are with the columns in any order.
func TestP51ColumnsInAnyOrder(t *testing.T) {
	for h := 1; h <= impl.SideMax; h++ {
		for w := 1; w <= impl.SideMax; w++ {
			for n, list := range descendingOf(h, w) {
				rows := mixed(list, n)
				for _, cols := range ordersOf(colSumsOf(nested(t, rows, w))) {
					consistent(t, rows, cols, true)
					excess(t, rows, cols, 0)
				}
			}
		}
	}
}

// P52, P54: known images, built column by column and row by row.
func TestP52P54KnownImages(t *testing.T) {
	for _, c := range knownBuilt() {
		byColumn().builds(t, c.rows, c.cols, get[impl.Image](t)(impl.ImageFrom(c.columns)))
		byRow().builds(t, c.rows, c.cols, get[impl.Image](t)(impl.ImageFrom(c.inRows)))
	}
}

// P52: BuildImage has the sums, and is built column by column.
func TestP52BuildImage(t *testing.T) {
	eachConsistent(t, func(rows, cols []int) {
		byColumn().builds(t, rows, cols, columnsBuilt(rows, cols))
	})
}

// P52: the sums of images lead to an image with them.
func TestP52SumsOfImages(t *testing.T) {
	for _, a := range goodImages() {
		rows, cols := impl.RowSums(a), impl.ColSums(a)
		if b := byColumn().built(t, rows, cols); !impl.SumsFit(b, rows, cols) || !impl.SumsSame(a, b) {
			t.Fatalf("BuildImage of the sums of %v is %v", a, b)
		}
		if b := byRow().built(t, rows, cols); !impl.SumsFit(b, rows, cols) || !impl.SumsSame(a, b) {
			t.Fatalf("BuildRow of the sums of %v is %v", a, b)
		}
	}
}

// P52, P53, P54: all sums of at most 12 cells, in all orders, held against all images.
func TestP52P53P54SmallSums(t *testing.T) {
	of := smallSums()
	eachSmallList(func(rows, cols []int) {
		if !of[sumsText(rows, cols)] {
			byColumn().fails(t, rows, cols)
			byRow().fails(t, rows, cols)
			return
		}
		byColumn().builds(t, rows, cols, columnsBuilt(rows, cols))
		byRow().builds(t, rows, cols, rowsBuilt(rows, cols))
	})
}

// P53: for valid sums, both succeed exactly if there is an image, and SumsConsistent tells so.
func TestP53BuildFails(t *testing.T) {
	fails := 0
	eachSums(func(rows, cols []int, has bool) {
		consistent(t, rows, cols, has)
		if has {
			byColumn().built(t, rows, cols)
			byRow().built(t, rows, cols)
			return
		}
		fails++
		byColumn().fails(t, rows, cols)
		byRow().fails(t, rows, cols)
	})
	if fails < 1000 {
		t.Errorf("there is no image for %d sums only", fails)
	}
}

// P53: known sums that are consistent or not, with totals that are equal or differ, and in the opposite order.
func TestP53KnownSums(t *testing.T) {
	for _, c := range knownExistence() {
		for _, rows := range [][]int{c.rows, backward(c.rows)} {
			if c.has {
				byColumn().builds(t, rows, c.cols, columnsBuilt(rows, c.cols))
				byRow().builds(t, rows, c.cols, rowsBuilt(rows, c.cols))
			} else {
				byColumn().fails(t, rows, c.cols)
				byRow().fails(t, rows, c.cols)
			}
		}
	}
}

// P53: sums that are not valid are not built.
func TestP53InvalidSums(t *testing.T) {
	for _, p := range badSums() {
		byColumn().fails(t, p.rows, p.cols)
		byRow().fails(t, p.rows, p.cols)
	}
}

// P53: one row, and one column, of all cells that can be set in it, with each total.
func TestP53OneRowOrColumn(t *testing.T) {
	for _, cells := range listsOf(impl.SideMax, 0, 1) {
		line := 0
		for j, n := range cells {
			line += n * pow(j)
		}
		for sum := 0; sum <= len(cells) && len(cells) > 0; sum++ {
			for _, b := range []builder{byColumn(), byRow()} {
				if sum == totalOf(cells) {
					b.builds(t, []int{sum}, cells, rowsOf(len(cells), line))
					b.builds(t, cells, []int{sum}, rowsOf(1, cells...))
				} else {
					b.fails(t, []int{sum}, cells)
					b.fails(t, cells, []int{sum})
				}
			}
		}
	}
}

// P54: BuildRow has the sums, is built row by row, and is ImageTurn of BuildImage of both lists exchanged.
func TestP54BuildRow(t *testing.T) {
	other := 0
	eachConsistent(t, func(rows, cols []int) {
		byRow().builds(t, rows, cols, rowsBuilt(rows, cols))
		a := byRow().built(t, rows, cols)
		if b := get[impl.Image](t)(impl.ImageTurn(byColumn().built(t, cols, rows))); !sameImage(a, b) {
			t.Fatalf("BuildRow of %v and %v is %v, and turned %v", rows, cols, a, b)
		}
		if !sameImage(a, byColumn().built(t, rows, cols)) {
			other++
		}
	})
	if other < 1000 {
		t.Errorf("BuildRow is another image than BuildImage for %d sums only", other)
	}
}

// P55: the first cells of each row are set, and the column sums are the conjugate.
func TestP55BuildNested(t *testing.T) {
	eachNested(t, func(rows []int, w int, a impl.Image) {
		if a.W != w || !slices.Equal(rowSumsOf(a), rows) {
			t.Fatalf("BuildNested of %v and %d is %v", rows, w, a)
		}
		eachCell(a, func(i, j int) {
			if cellOf(a, i, j) != (j < rows[i]) {
				t.Fatalf("BuildNested of %v and %d is %v", rows, w, a)
			}
		})
		cols := colSumsOf(a)
		p := get[[]int](t)(impl.PartOf(rows))
		if !isPartition(cols) || !slices.Equal(cols, conjOf(rows, w)) || !slices.Equal(cols, get[[]int](t)(impl.PartConj(p, w))) {
			t.Fatalf("BuildNested of %v and %d has the column sums %v", rows, w, cols)
		}
	})
}

// P55: known nested images.
func TestP55KnownNested(t *testing.T) {
	for _, c := range []struct {
		rows []int
		w    int
		text string
	}{
		{[]int{0}, 1, ".\n"},
		{[]int{1}, 1, "#\n"},
		{[]int{1, 3}, 3, "#..\n###\n"},
		{[]int{0, 2, 2, 1}, 2, "..\n##\n##\n#.\n"},
		{[]int{2, 0, 1}, 4, "##..\n....\n#...\n"},
		{[]int{4}, 6, "####..\n"},
		{[]int{0, 1, 0, 1, 1, 1}, 1, ".\n#\n.\n#\n#\n#\n"},
		{[]int{6, 0, 5, 1, 4, 2}, 6, "######\n......\n#####.\n#.....\n####..\n##....\n"},
	} {
		if text := impl.ImageText(nested(t, c.rows, c.w)); text != c.text {
			t.Errorf("BuildNested of %v and %d is\n%s", c.rows, c.w, text)
		}
	}
}

// nestedFails tests that BuildNested fails with the zero value, and that the list stays.
func nestedFails(t *testing.T, rows []int, w int) {
	t.Helper()
	old := slices.Clone(rows)
	if a, ok := impl.BuildNested(rows, w); ok || !zeroImage(a) || !slices.Equal(rows, old) {
		t.Errorf("BuildNested of %v and %d returned %v, %v, and the row sums are %v", old, w, a, ok, rows)
	}
}

// P55: BuildNested fails for no row sums and too many, other widths, and row sums out of range, wherever they stand.
func TestP55BuildNestedFails(t *testing.T) {
	for w := 1; w <= impl.SideMax; w++ {
		nestedFails(t, nil, w)
		nestedFails(t, []int{}, w)
		for _, rows := range longLists() {
			nestedFails(t, rows, w)
		}
		for h := 1; h <= impl.SideMax; h++ {
			for _, n := range []int{-1, -2, math.MinInt, w + 1, w + 2, 63, 64, 65, 1 << 32, math.MaxInt} {
				for i := range h {
					nestedFails(t, withOne(fullOf(h, 0), i, n), w)
					nestedFails(t, withOne(fullOf(h, w), i, n), w)
				}
			}
		}
	}
	for _, w := range []int{0, -1, -6, impl.SideMax + 1, impl.SideMax + 2, 31, 32, 63, 64, 65, math.MaxInt, math.MinInt} {
		for h := range impl.SideMax + 2 {
			for _, n := range []int{0, 1, w, -1} {
				nestedFails(t, fullOf(h, n), w)
			}
		}
	}
}

// P56: for the sums of BuildNested, BuildImage and BuildRow are this image.
func TestP56NestedBuilt(t *testing.T) {
	eachNested(t, func(rows []int, _ int, a impl.Image) {
		cols := colSumsOf(a)
		if b, c := byColumn().built(t, rows, cols), byRow().built(t, rows, cols); !sameImage(b, a) || !sameImage(c, a) {
			t.Fatalf("BuildNested of %v is %v, BuildImage of its sums %v, and BuildRow %v", rows, a, b, c)
		}
	})
}

// P57: no row without a set cell in the first column has a greater row sum than one with it,
// nor the same one and a lesser index.
func TestP57FirstColumn(t *testing.T) {
	equal := 0
	eachConsistent(t, func(rows, cols []int) {
		a := byColumn().built(t, rows, cols)
		for i := range rows {
			for k := range rows {
				if cellOf(a, i, 0) || !cellOf(a, k, 0) {
					continue
				}
				if rows[i] > rows[k] || rows[i] == rows[k] && i < k {
					t.Fatalf("BuildImage of %v and %v is %v: the row %d is ahead of %d", rows, cols, a, i, k)
				}
				if rows[i] == rows[k] {
					equal++
				}
			}
		}
	})
	if equal < 1000 {
		t.Errorf("there are %d pairs of rows with equal sums only", equal)
	}
}

// P58: BuildImage succeeds for the cells that are not set, and ImageOther of the result has the sums.
func TestP58BuildTurned(t *testing.T) {
	eachConsistent(t, func(rows, cols []int) {
		others, rests := turned(t, rows, cols)
		byColumn().builds(t, others, rests, columnsBuilt(others, rests))
		a := get[impl.Image](t)(impl.ImageOther(byColumn().built(t, others, rests)))
		if !impl.SumsFit(a, rows, cols) {
			t.Fatalf("ImageOther of BuildImage of %v and %v is %v", others, rests, a)
		}
	})
}

// General rule: results share no memory with arguments and with each other, the capacity of slices included.
func TestBuildingSharesNoMemory(t *testing.T) {
	builders := []builder{byColumn(), byRow(), {"BuildNested", func(rows, cols []int) (impl.Image, bool) {
		return impl.BuildNested(rows, len(cols))
	}}}
	for _, b := range builders {
		for _, c := range knownBuilt() {
			rowSpace, colSpace := append(slices.Clone(c.rows), 40, 41, 42), append(slices.Clone(c.cols), 50, 51, 52)
			oldRows, oldCols := slices.Clone(rowSpace), slices.Clone(colSpace)
			rows, cols := rowSpace[:len(c.rows)], colSpace[:len(c.cols)]
			first, second := b.built(t, rows, cols), b.built(t, rows, cols)
			want := cloneOf(second)
			all := first.Rows[:cap(first.Rows)]
			for k := range all {
				all[k] = 99
			}
			if !slices.Equal(rowSpace, oldRows) || !slices.Equal(colSpace, oldCols) || !sameImage(second, want) || !sameImage(b.built(t, rows, cols), want) {
				t.Errorf("%s of %v and %v shares memory", b.name, c.rows, c.cols)
			}
		}
	}
}
