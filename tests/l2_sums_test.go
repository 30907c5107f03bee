package tests

import (
	"math"
	"slices"
	"testing"

	"loop.example/discretetomography/impl"
)

// rowSumsOf returns the row sums of a valid image.
func rowSumsOf(a impl.Image) []int {
	sums := make([]int, len(a.Rows))
	eachCell(a, func(i, j int) {
		if cellOf(a, i, j) {
			sums[i]++
		}
	})
	return sums
}

// colSumsOf returns the column sums of a valid image.
func colSumsOf(a impl.Image) []int {
	sums := make([]int, a.W)
	eachCell(a, func(i, j int) {
		if cellOf(a, i, j) {
			sums[j]++
		}
	})
	return sums
}

// totalOf returns the total of a list.
func totalOf(list []int) int {
	total := 0
	for _, n := range list {
		total += n
	}
	return total
}

// fullOf returns a list of one number several times.
func fullOf(many int, n int) []int {
	return slices.Repeat([]int{n}, many)
}

// withOne returns a copy of a list with one of its numbers replaced.
func withOne(list []int, at int, n int) []int {
	list = slices.Clone(list)
	list[at] = n
	return list
}

// backward returns a list in the opposite order.
func backward(list []int) []int {
	list = slices.Clone(list)
	slices.Reverse(list)
	return list
}

// flipped returns an image with one cell changed.
func flipped(a impl.Image, i int, j int) impl.Image {
	a = cloneOf(a)
	if cellOf(a, i, j) {
		a.Rows[i] -= pow(j)
	} else {
		a.Rows[i] += pow(j)
	}
	return a
}

// switchedOf returns images with the sums of an image: the image itself, and those in which the corners
// of a rectangle are changed, of which just two are set, across from each other.
func switchedOf(a impl.Image) []impl.Image {
	list := []impl.Image{cloneOf(a)}
	eachCell(a, func(i, j int) {
		for k := i + 1; k < len(a.Rows); k++ {
			for l := j + 1; l < a.W; l++ {
				set := cellOf(a, i, j)
				if cellOf(a, k, l) == set && cellOf(a, i, l) != set && cellOf(a, k, j) != set {
					list = append(list, flipped(flipped(flipped(flipped(a, i, j), k, l), i, l), k, j))
				}
			}
		}
	})
	return list
}

// eachPair calls a function for all pairs of images of the same size, of those with at most 9 cells.
func eachPair(visit func(a impl.Image, b impl.Image)) {
	for h := 1; h <= impl.SideMax; h++ {
		for w := 1; w <= impl.SideMax && h*w <= 9; w++ {
			list := allOf(h, w)
			for _, a := range list {
				for _, b := range list {
					visit(a, b)
				}
			}
		}
	}
}

// knownSums has images with their sums, the ends of the range among them.
func knownSums() []struct {
	a          impl.Image
	rows, cols []int
} {
	return []struct {
		a          impl.Image
		rows, cols []int
	}{
		{rowsOf(1, 0), []int{0}, []int{0}},
		{rowsOf(1, 1), []int{1}, []int{1}},
		{rowsOf(3, 5, 6), []int{2, 2}, []int{1, 1, 2}},
		{rowsOf(6, 0), []int{0}, []int{0, 0, 0, 0, 0, 0}},
		{rowsOf(6, 63), []int{6}, []int{1, 1, 1, 1, 1, 1}},
		{rowsOf(6, 13), []int{3}, []int{1, 0, 1, 1, 0, 0}},
		{rowsOf(6, 32), []int{1}, []int{0, 0, 0, 0, 0, 1}},
		{rowsOf(1, 0, 0, 0, 0, 0, 0), []int{0, 0, 0, 0, 0, 0}, []int{0}},
		{rowsOf(1, 1, 1, 1, 1, 1, 1), []int{1, 1, 1, 1, 1, 1}, []int{6}},
		{rowsOf(1, 1, 0, 0, 1, 0, 1), []int{1, 0, 0, 1, 0, 1}, []int{3}},
		{rowsOf(6, 0, 0, 0, 0, 0, 0), []int{0, 0, 0, 0, 0, 0}, []int{0, 0, 0, 0, 0, 0}},
		{rowsOf(6, 63, 63, 63, 63, 63, 63), []int{6, 6, 6, 6, 6, 6}, []int{6, 6, 6, 6, 6, 6}},
		{rowsOf(6, 1, 3, 7, 15, 31, 63), []int{1, 2, 3, 4, 5, 6}, []int{6, 5, 4, 3, 2, 1}},
		{rowsOf(6, 63, 0, 32), []int{6, 0, 1}, []int{1, 1, 1, 1, 1, 2}},
	}
}

// P18, P20: the sums of known images.
func TestP18P20KnownSums(t *testing.T) {
	for _, c := range knownSums() {
		if rows := impl.RowSums(c.a); !slices.Equal(rows, c.rows) {
			t.Errorf("RowSums of %v is %v instead of %v", c.a, rows, c.rows)
		}
		if cols := impl.ColSums(c.a); !slices.Equal(cols, c.cols) {
			t.Errorf("ColSums of %v is %v instead of %v", c.a, cols, c.cols)
		}
		if !impl.SumsValid(c.rows, c.cols) || !impl.SumsFit(c.a, c.rows, c.cols) {
			t.Errorf("%v does not fit its sums %v and %v", c.a, c.rows, c.cols)
		}
	}
}

// P18: there is a sum for each row, at most W, and ImageMany together.
func TestP18RowSums(t *testing.T) {
	for _, a := range goodImages() {
		before := cloneOf(a)
		sums := impl.RowSums(a)
		if !sameImage(a, before) {
			t.Fatalf("RowSums changed its argument %v to %v", before, a)
		}
		if !slices.Equal(sums, rowSumsOf(a)) || len(sums) != len(a.Rows) || totalOf(sums) != impl.ImageMany(a) {
			t.Fatalf("RowSums of %v is %v", a, sums)
		}
		if slices.Min(sums) < 0 || slices.Max(sums) > a.W {
			t.Fatalf("RowSums of %v is %v", a, sums)
		}
	}
	for _, a := range badImages() {
		if sums := impl.RowSums(a); len(sums) != 0 {
			t.Errorf("RowSums of the invalid image %v is %v", a, sums)
		}
	}
}

// P19: turning the image exchanges both lists.
func TestP19SumsTurned(t *testing.T) {
	for _, a := range goodImages() {
		b := get[impl.Image](t)(impl.ImageTurn(a))
		if !slices.Equal(impl.RowSums(a), impl.ColSums(b)) || !slices.Equal(impl.ColSums(a), impl.RowSums(b)) {
			t.Fatalf("%v has the sums %v and %v, and turned %v and %v",
				a, impl.RowSums(a), impl.ColSums(a), impl.RowSums(b), impl.ColSums(b))
		}
	}
}

// P20: there is a sum for each column, and they are ImageMany together.
func TestP20ColSums(t *testing.T) {
	for _, a := range goodImages() {
		before := cloneOf(a)
		sums := impl.ColSums(a)
		if !sameImage(a, before) {
			t.Fatalf("ColSums changed its argument %v to %v", before, a)
		}
		if !slices.Equal(sums, colSumsOf(a)) || len(sums) != a.W || totalOf(sums) != impl.ImageMany(a) {
			t.Fatalf("ColSums of %v is %v", a, sums)
		}
		if slices.Min(sums) < 0 || slices.Max(sums) > len(a.Rows) {
			t.Fatalf("ColSums of %v is %v", a, sums)
		}
	}
	for _, a := range badImages() {
		if sums := impl.ColSums(a); len(sums) != 0 {
			t.Errorf("ColSums of the invalid image %v is %v", a, sums)
		}
	}
}

// P18, P20: in an image with one row, that row has the sum of all, and each column 0 or 1; and the other way round.
func TestP18P20OneRowOrColumn(t *testing.T) {
	for n := 1; n <= impl.SideMax; n++ {
		for row := range pow(n) {
			a := rowsOf(n, row)
			cells := make([]int, n)
			for j := range cells {
				cells[j] = row / pow(j) % 2
			}
			if rows, cols := impl.RowSums(a), impl.ColSums(a); !slices.Equal(rows, []int{totalOf(cells)}) || !slices.Equal(cols, cells) {
				t.Fatalf("the sums of the row %v are %v and %v", a, rows, cols)
			}
			b := rowsOf(1, cells...)
			if rows, cols := impl.RowSums(b), impl.ColSums(b); !slices.Equal(rows, cells) || !slices.Equal(cols, []int{totalOf(cells)}) {
				t.Fatalf("the sums of the column %v are %v and %v", b, rows, cols)
			}
		}
	}
}

// P18, P20: the sums of images without set cells, and of those with all cells set.
func TestP18P20EmptyAndFull(t *testing.T) {
	for h := 1; h <= impl.SideMax; h++ {
		for w := 1; w <= impl.SideMax; w++ {
			none, all := rowsOf(w, fullOf(h, 0)...), rowsOf(w, fullOf(h, pow(w)-1)...)
			if !slices.Equal(impl.RowSums(none), fullOf(h, 0)) || !slices.Equal(impl.ColSums(none), fullOf(w, 0)) {
				t.Errorf("the sums of the empty image %v are %v and %v", none, impl.RowSums(none), impl.ColSums(none))
			}
			if !slices.Equal(impl.RowSums(all), fullOf(h, w)) || !slices.Equal(impl.ColSums(all), fullOf(w, h)) {
				t.Errorf("the sums of the full image %v are %v and %v", all, impl.RowSums(all), impl.ColSums(all))
			}
		}
	}
}

// P21: mirroring the image turns the column sums round, and keeps the row sums.
func TestP21SumsMirrored(t *testing.T) {
	for _, a := range goodImages() {
		b := get[impl.Image](t)(impl.ImageMirror(a))
		if !slices.Equal(impl.ColSums(b), backward(impl.ColSums(a))) || !slices.Equal(impl.RowSums(b), impl.RowSums(a)) {
			t.Fatalf("%v has the sums %v and %v, and mirrored %v and %v",
				a, impl.RowSums(a), impl.ColSums(a), impl.RowSums(b), impl.ColSums(b))
		}
	}
}

// validBoth tests SumsValid of two lists, and of both exchanged.
func validBoth(t *testing.T, rows []int, cols []int, want bool) {
	t.Helper()
	oldRows, oldCols := slices.Clone(rows), slices.Clone(cols)
	if impl.SumsValid(rows, cols) != want || impl.SumsValid(cols, rows) != want {
		t.Fatalf("SumsValid of %v and %v is %v, and exchanged %v", rows, cols, impl.SumsValid(rows, cols), impl.SumsValid(cols, rows))
	}
	if !slices.Equal(rows, oldRows) || !slices.Equal(cols, oldCols) {
		t.Fatalf("SumsValid changed %v and %v to %v and %v", oldRows, oldCols, rows, cols)
	}
}

// P22: sums are valid within the ends of the ranges, whatever their totals are.
func TestP22SumsValid(t *testing.T) {
	for h := 1; h <= impl.SideMax; h++ {
		for w := 1; w <= impl.SideMax; w++ {
			for _, rows := range [][]int{fullOf(h, 0), fullOf(h, w), withOne(fullOf(h, 0), h-1, w), withOne(fullOf(h, w), 0, 0)} {
				for _, cols := range [][]int{fullOf(w, 0), fullOf(w, h), withOne(fullOf(w, 0), 0, h), withOne(fullOf(w, h), w-1, 0)} {
					validBoth(t, rows, cols, true)
				}
			}
		}
	}
	for _, a := range goodImages() {
		validBoth(t, impl.RowSums(a), impl.ColSums(a), true)
	}
}

// P22: a sum beyond the ends of its range is not valid, wherever it stands.
func TestP22SumsBeyond(t *testing.T) {
	for h := 1; h <= impl.SideMax; h++ {
		for w := 1; w <= impl.SideMax; w++ {
			for _, good := range []int{0, 1} {
				rows, cols := fullOf(h, good), fullOf(w, good)
				for i := range rows {
					for _, bad := range []int{-1, w + 1, w + 2, 7, 99, -2, math.MaxInt, math.MinInt} {
						validBoth(t, withOne(rows, i, bad), cols, false)
					}
				}
				for j := range cols {
					for _, bad := range []int{-1, h + 1, h + 2, 7, 99, -2, math.MaxInt, math.MinInt} {
						validBoth(t, rows, withOne(cols, j, bad), false)
					}
				}
			}
		}
	}
}

// P22: without sums, and with more than SideMax of them, lists are not valid.
func TestP22SumsOfOtherLengths(t *testing.T) {
	for _, many := range []int{0, impl.SideMax + 1, impl.SideMax + 2, 2 * impl.SideMax, 100} {
		for other := 0; other <= impl.SideMax+1; other++ {
			for _, n := range []int{0, 1, impl.SideMax} {
				validBoth(t, fullOf(many, n), fullOf(other, 0), false)
				validBoth(t, fullOf(many, 0), fullOf(other, n), false)
			}
		}
	}
	for other := 1; other <= impl.SideMax; other++ {
		validBoth(t, nil, fullOf(other, 0), false)
	}
	validBoth(t, nil, nil, false)
	validBoth(t, []int{}, nil, false)
}

// P22: all lists of at most three numbers from -1 to 4.
func TestP22SumsValidAll(t *testing.T) {
	lists := [][]int{{}}
	for k := 0; k < len(lists); k++ {
		for n := -1; n <= 4 && len(lists[k]) < 3; n++ {
			lists = append(lists, append(slices.Clone(lists[k]), n))
		}
	}
	within := func(list []int, most int) bool {
		return len(list) > 0 && slices.Min(list) >= 0 && slices.Max(list) <= most
	}
	for _, rows := range lists {
		for _, cols := range lists {
			validBoth(t, rows, cols, within(rows, len(cols)) && within(cols, len(rows)))
		}
	}
}

// fits tests SumsFit, and that the arguments stay.
func fits(t *testing.T, a impl.Image, rows []int, cols []int, want bool) {
	t.Helper()
	before, oldRows, oldCols := cloneOf(a), slices.Clone(rows), slices.Clone(cols)
	if impl.SumsFit(a, rows, cols) != want {
		t.Fatalf("SumsFit of %v with %v and %v is %v", a, rows, cols, !want)
	}
	if !sameImage(a, before) || !slices.Equal(rows, oldRows) || !slices.Equal(cols, oldCols) {
		t.Fatalf("SumsFit changed %v, %v and %v to %v, %v and %v", before, oldRows, oldCols, a, rows, cols)
	}
}

// P23: an image fits its sums, which are valid, and not those with one sum changed.
func TestP23SumsFit(t *testing.T) {
	for _, a := range goodImages() {
		rows, cols := rowSumsOf(a), colSumsOf(a)
		fits(t, a, rows, cols, true)
		if !impl.SumsValid(rows, cols) || !slices.Equal(impl.RowSums(a), rows) || !slices.Equal(impl.ColSums(a), cols) {
			t.Fatalf("the sums of %v are not valid or not its own", a)
		}
		for _, change := range []int{-1, 1, 7, math.MinInt} {
			for i := range rows {
				fits(t, a, withOne(rows, i, rows[i]+change), cols, false)
			}
			for j := range cols {
				fits(t, a, rows, withOne(cols, j, cols[j]+change), false)
			}
		}
	}
}

// P23: an image does not fit lists with more or fewer sums, nor those with the same totals in other places.
func TestP23SumsFitOtherLists(t *testing.T) {
	for _, a := range goodImages() {
		rows, cols := rowSumsOf(a), colSumsOf(a)
		for _, other := range [][]int{nil, {}, rows[1:], rows[:len(rows)-1], append(slices.Clone(rows), 0), append([]int{0}, rows...)} {
			fits(t, a, other, cols, false)
			fits(t, a, other, nil, false)
		}
		for _, other := range [][]int{nil, {}, cols[1:], cols[:len(cols)-1], append(slices.Clone(cols), 0), append([]int{0}, cols...)} {
			fits(t, a, rows, other, false)
			fits(t, a, nil, other, false)
		}
		fits(t, a, cols, rows, slices.Equal(rows, cols))
		fits(t, a, backward(rows), cols, slices.Equal(rows, backward(rows)))
		fits(t, a, rows, backward(cols), slices.Equal(cols, backward(cols)))
		for i := 1; i < len(rows); i++ {
			fits(t, a, withOne(withOne(rows, 0, rows[0]+1), i, rows[i]-1), cols, false)
		}
		for j := 1; j < len(cols); j++ {
			fits(t, a, rows, withOne(withOne(cols, 0, cols[0]-1), j, cols[j]+1), false)
		}
	}
}

// looseSumsOf returns the sums of the first columns of an image, valid or not.
func looseSumsOf(a impl.Image, w int) ([]int, []int) {
	rows, cols := make([]int, len(a.Rows)), make([]int, w)
	for i, row := range a.Rows {
		for j := range w {
			rows[i] += row >> j & 1
			cols[j] += row >> j & 1
		}
	}
	return rows, cols
}

// P23: an invalid image fits no lists, not even empty ones.
func TestP23SumsFitInvalid(t *testing.T) {
	for _, a := range badImages() {
		h, w := len(a.Rows), min(max(a.W, 0), 100)
		fits(t, a, nil, nil, false)
		fits(t, a, []int{}, []int{}, false)
		for _, n := range []int{-1, 0, 1, w} {
			fits(t, a, fullOf(h, n), fullOf(w, n), false)
			fits(t, a, fullOf(h, n), nil, false)
			fits(t, a, nil, fullOf(w, n), false)
		}
		rows, cols := looseSumsOf(a, w)
		fits(t, a, rows, cols, false)
	}
}

// same tests SumsSame of two images and of both exchanged, and that the arguments stay.
func same(t *testing.T, a impl.Image, b impl.Image, want bool) {
	t.Helper()
	first, second := cloneOf(a), cloneOf(b)
	if impl.SumsSame(a, b) != want || impl.SumsSame(b, a) != want {
		t.Fatalf("SumsSame of %v and %v is %v, and exchanged %v", a, b, impl.SumsSame(a, b), impl.SumsSame(b, a))
	}
	if !sameImage(a, first) || !sameImage(b, second) {
		t.Fatalf("SumsSame changed %v and %v to %v and %v", first, second, a, b)
	}
}

// P24: SumsSame holds for both exchanged, turned, mirrored, and for ImageOther of both.
func TestP24SumsSame(t *testing.T) {
	changes := []func(impl.Image) (impl.Image, bool){impl.ImageTurn, impl.ImageMirror, impl.ImageOther}
	for _, a := range goodImages() {
		for _, b := range switchedOf(a) {
			same(t, a, b, true)
			for _, change := range changes {
				same(t, get[impl.Image](t)(change(a)), get[impl.Image](t)(change(b)), true)
			}
		}
	}
}

// P24: of all pairs of images, those with the same sums are the same, and no others.
func TestP24SumsSameAll(t *testing.T) {
	eachPair(func(a, b impl.Image) {
		if impl.SumsSame(a, b) != (slices.Equal(rowSumsOf(a), rowSumsOf(b)) && slices.Equal(colSumsOf(a), colSumsOf(b))) {
			t.Fatalf("SumsSame of %v and %v is %v", a, b, impl.SumsSame(a, b))
		}
	})
}

// P24: images with different widths or heights have not the same sums, nor has an invalid one.
func TestP24SumsSameFails(t *testing.T) {
	for _, a := range goodImages() {
		h := len(a.Rows)
		same(t, a, impl.Image{W: a.W + 1, Rows: a.Rows}, false)
		same(t, a, impl.Image{W: a.W - 1, Rows: a.Rows}, false)
		same(t, a, impl.Image{W: a.W, Rows: append(slices.Clone(a.Rows), 0)}, false)
		same(t, a, impl.Image{W: a.W, Rows: a.Rows[:h-1]}, false)
		if turned := get[impl.Image](t)(impl.ImageTurn(a)); a.W != h {
			same(t, a, turned, false)
		}
	}
	bad := badImages()
	for k, a := range bad {
		same(t, a, a, false)
		same(t, a, bad[(k+1)%len(bad)], false)
		same(t, a, rowsOf(1, 0), false)
		same(t, a, rowsOf(6, 0, 0, 0, 0, 0, 0), false)
		// The cells within the width may have the sums of a valid image.
		inside := cloneOf(a)
		for i := range inside.Rows {
			inside.Rows[i] &= 1<<min(max(a.W, 0), impl.SideMax) - 1
		}
		same(t, a, inside, false)
	}
}

// P24: images of all sizes with no cell set differ by their size alone.
func TestP24SumsSameSizes(t *testing.T) {
	for h := 1; h <= impl.SideMax; h++ {
		for w := 1; w <= impl.SideMax; w++ {
			for k := 1; k <= impl.SideMax; k++ {
				for l := 1; l <= impl.SideMax; l++ {
					same(t, rowsOf(w, fullOf(h, 0)...), rowsOf(l, fullOf(k, 0)...), h == k && w == l)
				}
			}
		}
	}
}

// P25: with any one cell of the second image changed, the sums are not the same.
func TestP25SumsSameChanged(t *testing.T) {
	for _, a := range goodImages() {
		for n, b := range switchedOf(a) {
			if n == 4 {
				break
			}
			eachCell(b, func(i, j int) {
				same(t, a, flipped(b, i, j), false)
			})
		}
	}
}

// P26: with any one cell changed, the sums of its row and its column change by 1, and no others.
func TestP26SumsOfOneCellChanged(t *testing.T) {
	for _, a := range goodImages() {
		rows, cols := impl.RowSums(a), impl.ColSums(a)
		eachCell(a, func(i, j int) {
			by := 1
			if cellOf(a, i, j) {
				by = -1
			}
			b := flipped(a, i, j)
			if sums := impl.RowSums(b); !slices.Equal(sums, withOne(rows, i, rows[i]+by)) {
				t.Fatalf("the row sums of %v are %v, and with (%d, %d) changed %v", a, rows, i, j, sums)
			}
			if sums := impl.ColSums(b); !slices.Equal(sums, withOne(cols, j, cols[j]+by)) {
				t.Fatalf("the column sums of %v are %v, and with (%d, %d) changed %v", a, cols, i, j, sums)
			}
		})
	}
}

// P27: another image fits the sums of an image exactly if both have the same sums.
func TestP27SumsFitAndSame(t *testing.T) {
	check := func(a, b impl.Image, rows, cols []int) {
		if impl.SumsFit(b, rows, cols) != impl.SumsSame(a, b) {
			t.Fatalf("%v has the sums %v and %v, and SumsFit of %v is %v", a, rows, cols, b, impl.SumsFit(b, rows, cols))
		}
	}
	eachPair(func(a, b impl.Image) {
		check(a, b, rowSumsOf(a), colSumsOf(a))
	})
	list := goodImages()
	for k, a := range list {
		rows, cols := rowSumsOf(a), colSumsOf(a)
		fits(t, a, rows, cols, true)
		for _, b := range switchedOf(a) {
			fits(t, b, rows, cols, true)
			same(t, a, b, true)
		}
		for n := range 20 {
			check(a, list[(k+n*n*17+1)%len(list)], rows, cols)
		}
	}
	for _, b := range badImages() {
		check(rowsOf(3, 5, 6), b, []int{2, 2}, []int{1, 1, 2})
	}
}

// General rule: results share no memory with arguments and with each other, the capacity of slices included.
func TestSumsShareNoMemory(t *testing.T) {
	for _, sums := range []func(impl.Image) []int{impl.RowSums, impl.ColSums} {
		for _, c := range knownSums() {
			space := append(slices.Clone(c.a.Rows), 40, 41, 42)
			old := slices.Clone(space)
			a := impl.Image{W: c.a.W, Rows: space[:len(c.a.Rows)]}
			first, second := sums(a), sums(a)
			want := slices.Clone(second)
			all := first[:cap(first)]
			for k := range all {
				all[k] = 99
			}
			if !slices.Equal(space, old) || !slices.Equal(second, want) || !slices.Equal(sums(a), want) {
				t.Errorf("the sums of %v share memory", c.a)
			}
		}
	}
}
