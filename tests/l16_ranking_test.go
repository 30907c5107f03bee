package tests

import (
	"math"
	"slices"
	"sync"
	"testing"

	"loop.example/discretetomography/impl"
)

// ahead tells whether an image stands ahead of another one of the same size: in the first row that differs, its number is less.
func ahead(a impl.Image, b impl.Image) bool {
	for i := range a.Rows {
		if a.Rows[i] != b.Rows[i] {
			return a.Rows[i] < b.Rows[i]
		}
	}
	return false
}

// ranking has sums, and all images with them in order. The rank of an image is its index.
type ranking struct {
	rows, cols []int
	images     []impl.Image
}

// cells returns the number of cells of the images.
func (r ranking) cells() int {
	return len(r.rows) * len(r.cols)
}

// rankings has a ranking for the sums of each image of at most CellsMax cells. The images are looked at one by one.
var rankings = sync.OnceValue(func() []ranking {
	var list []ranking
	places := map[string]int{}
	for _, s := range countedShapes() {
		for _, a := range allOf(s.h, s.w) {
			rows, cols := rowSumsOf(a), colSumsOf(a)
			at, ok := places[sumsText(rows, cols)]
			if !ok {
				at = len(list)
				places[sumsText(rows, cols)] = at
				list = append(list, ranking{rows: rows, cols: cols})
			}
			list[at].images = append(list[at].images, a)
		}
	}
	for _, r := range list {
		slices.SortFunc(r.images, func(a, b impl.Image) int {
			switch {
			case ahead(a, b):
				return -1
			case ahead(b, a):
				return 1
			}
			return 0
		})
	}
	return list
})

// someRankings returns all rankings of at most ten cells, and each n-th one of the others.
func someRankings(n int) []ranking {
	var list []ranking
	for k, r := range rankings() {
		if r.cells() <= 10 || k%n == 0 {
			list = append(list, r)
		}
	}
	return list
}

// eachRanking calls a function for some rankings.
func eachRanking(t *testing.T, visit func(r ranking)) {
	t.Helper()
	one, several, great := 0, 0, 0
	for _, r := range someRankings(13) {
		switch {
		case len(r.images) == 1:
			one++
		case r.cells() == cellsMost:
			great++
		default:
			several++
		}
		visit(r)
	}
	if one < 500 || several < 500 || great < 50 {
		t.Fatalf("%d sums have one image, %d several, and %d of CellsMax cells, too", one, several, great)
	}
}

// ranks tests ImageRank, and that the image stays.
func ranks(t *testing.T, a impl.Image, want int) {
	t.Helper()
	keeps(t, a, func() {
		if rank := impl.ImageRank(a); rank != want {
			t.Fatalf("ImageRank of %v is %d instead of %d", a, rank, want)
		}
	})
}

// nthOf returns ImageNth, which must not have failed, nor changed the lists.
func nthOf(t *testing.T, rows []int, cols []int, n int) impl.Image {
	t.Helper()
	var a impl.Image
	stay(t, rows, cols, func() {
		var ok bool
		if a, ok = impl.ImageNth(rows, cols, n); !ok || !impl.ImageValid(a) {
			t.Fatalf("ImageNth of %v, %v and %d returned %v, %v", rows, cols, n, a, ok)
		}
	})
	return a
}

// nthIs tests that ImageNth is an image.
func nthIs(t *testing.T, rows []int, cols []int, n int, want impl.Image) {
	t.Helper()
	if a := nthOf(t, rows, cols, n); !sameImage(a, want) {
		t.Fatalf("ImageNth of %v, %v and %d is %v instead of %v", rows, cols, n, a, want)
	}
}

// noNth tests that ImageNth fails with the zero value, and that the lists stay.
func noNth(t *testing.T, rows []int, cols []int, n int) {
	t.Helper()
	stay(t, rows, cols, func() {
		if a, ok := impl.ImageNth(rows, cols, n); ok || !zeroImage(a) {
			t.Fatalf("ImageNth of %v, %v and %d returned %v, %v", rows, cols, n, a, ok)
		}
	})
}

// nextOf returns ImageNext, which must not have failed, nor changed the image.
func nextOf(t *testing.T, a impl.Image) impl.Image {
	t.Helper()
	return changed(t, "ImageNext", impl.ImageNext, a)
}

// nextIs tests that ImageNext is an image.
func nextIs(t *testing.T, a impl.Image, want impl.Image) {
	t.Helper()
	if b := nextOf(t, a); !sameImage(b, want) {
		t.Fatalf("ImageNext of %v is %v instead of %v", a, b, want)
	}
}

// noNext tests that ImageNext fails with the zero value, and that the image stays.
func noNext(t *testing.T, a impl.Image) {
	t.Helper()
	keeps(t, a, func() {
		if b, ok := impl.ImageNext(a); ok || !zeroImage(b) {
			t.Fatalf("ImageNext of %v returned %v, %v", a, b, ok)
		}
	})
}

// ranksBeyond returns numbers that are no rank of any image with sums that a number of images have.
func ranksBeyond(many int) []int {
	return []int{-1, many, -2, many + 1, -many, -many - 1, 2*many + 1, 1 << 16, 1 << 32, math.MaxInt, -math.MaxInt, math.MinInt}
}

// knownOrders has sums with the rows of all their images in order, found by hand.
func knownOrders() []struct {
	rows, cols []int
	images     [][]int
} {
	return []struct {
		rows, cols []int
		images     [][]int
	}{
		// One image.
		{[]int{0}, []int{0}, [][]int{{0}}},
		{[]int{1}, []int{1}, [][]int{{1}}},
		{[]int{3}, []int{0, 1, 0, 1, 1, 0}, [][]int{{26}}},
		{[]int{1, 0, 1, 1, 0, 1}, []int{4}, [][]int{{1, 0, 1, 1, 0, 1}}},
		{[]int{0, 0}, []int{0, 0, 0}, [][]int{{0, 0}}},
		{[]int{3, 3}, []int{2, 2, 2}, [][]int{{7, 7}}},
		{[]int{3, 1, 2}, []int{2, 3, 1}, [][]int{{7, 2, 3}}},
		{fullOf(4, 0), fullOf(4, 0), [][]int{{0, 0, 0, 0}}},
		{fullOf(4, 4), fullOf(4, 4), [][]int{{15, 15, 15, 15}}},
		{[]int{4, 0, 3, 1}, []int{3, 2, 2, 1}, [][]int{{15, 0, 7, 1}}},
		// Several images.
		{[]int{1, 1}, []int{1, 1}, [][]int{{1, 2}, {2, 1}}},
		{[]int{2, 1}, []int{1, 1, 1}, [][]int{{3, 4}, {5, 2}, {6, 1}}},
		{[]int{1, 2, 1}, []int{2, 1, 1}, [][]int{{1, 3, 4}, {1, 5, 2}, {1, 6, 1}, {2, 5, 1}, {4, 3, 1}}},
		{[]int{1, 1, 1}, []int{1, 1, 1}, [][]int{{1, 2, 4}, {1, 4, 2}, {2, 1, 4}, {2, 4, 1}, {4, 1, 2}, {4, 2, 1}}},
		{[]int{2, 2, 2}, []int{2, 2, 2}, [][]int{{3, 5, 6}, {3, 6, 5}, {5, 3, 6}, {5, 6, 3}, {6, 3, 5}, {6, 5, 3}}},
		{[]int{2, 2}, []int{1, 1, 1, 1}, [][]int{{3, 12}, {5, 10}, {6, 9}, {9, 6}, {10, 5}, {12, 3}}},
		{fullOf(5, 1), []int{2, 3}, [][]int{
			{1, 1, 2, 2, 2}, {1, 2, 1, 2, 2}, {1, 2, 2, 1, 2}, {1, 2, 2, 2, 1}, {2, 1, 1, 2, 2},
			{2, 1, 2, 1, 2}, {2, 1, 2, 2, 1}, {2, 2, 1, 1, 2}, {2, 2, 1, 2, 1}, {2, 2, 2, 1, 1}}},
		{[]int{3, 3}, fullOf(6, 1), [][]int{
			{7, 56}, {11, 52}, {13, 50}, {14, 49}, {19, 44}, {21, 42}, {22, 41}, {25, 38}, {26, 37}, {28, 35},
			{35, 28}, {37, 26}, {38, 25}, {41, 22}, {42, 21}, {44, 19}, {49, 14}, {50, 13}, {52, 11}, {56, 7}}},
		// Rows and columns of 0, and full ones, among others.
		{[]int{2, 3, 2}, []int{2, 3, 2}, [][]int{{3, 7, 6}, {6, 7, 3}}},
		{[]int{1, 0, 1}, []int{1, 0, 1}, [][]int{{1, 0, 4}, {4, 0, 1}}},
		{[]int{0, 0, 1, 1, 2, 0}, []int{2, 2}, [][]int{{0, 0, 1, 2, 3, 0}, {0, 0, 2, 1, 3, 0}}},
		{[]int{2, 4}, []int{1, 2, 1, 0, 1, 1}, [][]int{{3, 54}, {6, 51}, {18, 39}, {34, 23}}},
		{[]int{4, 1, 1, 1}, []int{1, 2, 2, 2}, [][]int{{15, 2, 4, 8}, {15, 2, 8, 4}, {15, 4, 2, 8}, {15, 4, 8, 2}, {15, 8, 2, 4}, {15, 8, 4, 2}}},
	}
}

// P138, P140, P141, P145: the images of known sums, in order.
func TestP138P140P141P145KnownOrders(t *testing.T) {
	for _, c := range knownOrders() {
		many := len(c.images)
		counts(t, c.rows, c.cols, many)
		for n, list := range c.images {
			a := rowsOf(len(c.cols), list...)
			ranks(t, a, n)
			nthIs(t, c.rows, c.cols, n, a)
			if n+1 < many {
				nextIs(t, a, rowsOf(len(c.cols), c.images[n+1]...))
			} else {
				noNext(t, a)
			}
		}
		for _, n := range ranksBeyond(many) {
			noNth(t, c.rows, c.cols, n)
		}
	}
}

// P138, P140: ranks of images of CellsMax cells, found by hand.
func TestP138P140KnownRanks(t *testing.T) {
	for _, c := range []struct {
		sum, many, rank int
		images          []int
	}{
		// The first row tells one of 4 times 6 images, the second one of 3 times 2, and so on.
		{1, 24, 0, []int{1, 2, 4, 8}},
		{1, 24, 1, []int{1, 2, 8, 4}},
		{1, 24, 5, []int{1, 8, 4, 2}},
		{1, 24, 6, []int{2, 1, 4, 8}},
		{1, 24, 16, []int{4, 8, 1, 2}},
		{1, 24, 17, []int{4, 8, 2, 1}},
		{1, 24, 18, []int{8, 1, 2, 4}},
		{1, 24, 23, []int{8, 4, 2, 1}},
		{3, 24, 0, []int{7, 11, 13, 14}},
		{3, 24, 23, []int{14, 13, 11, 7}},
		// The first row tells one of 6 times 15 images: the second one then has the same cells in 1 of these,
		// one cell of them in 4 times 2, and none in 6.
		{2, 90, 0, []int{3, 3, 12, 12}},
		{2, 90, 1, []int{3, 5, 10, 12}},
		{2, 90, 2, []int{3, 5, 12, 10}},
		{2, 90, 8, []int{3, 10, 12, 5}},
		{2, 90, 9, []int{3, 12, 3, 12}},
		{2, 90, 14, []int{3, 12, 12, 3}},
		{2, 90, 15, []int{5, 3, 10, 12}},
		{2, 90, 44, []int{6, 12, 9, 3}},
		{2, 90, 45, []int{9, 3, 6, 12}},
		{2, 90, 75, []int{12, 3, 3, 12}},
		{2, 90, 88, []int{12, 10, 5, 3}},
		{2, 90, 89, []int{12, 12, 3, 3}},
	} {
		sums, a := fullOf(4, c.sum), rowsOf(4, c.images...)
		counts(t, sums, sums, c.many)
		ranks(t, a, c.rank)
		nthIs(t, sums, sums, c.rank, a)
		noNth(t, sums, sums, c.many)
	}
}

// P139: for an image of at most nine cells, ImageRank is the number of images with the same sums that stand ahead of it.
func TestP139AheadOneByOne(t *testing.T) {
	for _, s := range countedShapes() {
		if s.h*s.w > 9 {
			continue
		}
		all := allOf(s.h, s.w)
		for _, a := range all {
			rank := 0
			for _, b := range all {
				if ahead(b, a) && slices.Equal(rowSumsOf(b), rowSumsOf(a)) && slices.Equal(colSumsOf(b), colSumsOf(a)) {
					rank++
				}
			}
			ranks(t, a, rank)
		}
	}
}

// P138, P139: ImageRank of all images up to CellsMax cells is less than SumsCount, and the number of images ahead.
func TestP138P139AllRanks(t *testing.T) {
	total := 0
	for _, r := range rankings() {
		counts(t, r.rows, r.cols, len(r.images))
		for n, a := range r.images {
			ranks(t, a, n)
			if r.cells() == cellsMost {
				total++
			}
		}
	}
	if total != pow(cellsMost) {
		t.Errorf("%d images of CellsMax cells have a rank", total)
	}
}

// P138, P140, P142: ImageNth of each rank is the image of this rank, and has the sums; in the first row that differs, the next one is greater.
func TestP138P140P142ImageNth(t *testing.T) {
	eachRanking(t, func(r ranking) {
		last := impl.Image{}
		for n, want := range r.images {
			a := nthOf(t, r.rows, r.cols, n)
			if !sameImage(a, want) || !impl.SumsFit(a, r.rows, r.cols) || impl.ImageRank(a) != n {
				t.Fatalf("ImageNth of %v, %v and %d is %v instead of %v", r.rows, r.cols, n, a, want)
			}
			if n > 0 && !ahead(last, a) {
				t.Fatalf("of %v and %v, %v follows %v", r.rows, r.cols, a, last)
			}
			last = a
		}
	})
}

// P141: ImageNth fails for ranks less than 0, and for SumsCount and more.
func TestP141OtherRanks(t *testing.T) {
	for _, r := range someRankings(7) {
		for _, n := range ranksBeyond(len(r.images)) {
			noNth(t, r.rows, r.cols, n)
		}
	}
}

// P141: sums that no image has have no rank, not even 0.
func TestP141NoImages(t *testing.T) {
	for _, p := range knownNone() {
		for k := range 2 * len(p.rows) {
			rows, cols := mixed(p.rows, k), mixed(p.cols, k)
			for _, n := range ranksBeyond(0) {
				noNth(t, rows, cols, n)
				noNth(t, cols, rows, n)
			}
		}
	}
	eachCounted(t, func(rows, cols []int, many int) {
		if many == 0 {
			noNth(t, rows, cols, 0)
			noNth(t, rows, cols, -1)
			noNth(t, rows, cols, 1)
		}
	})
}

// P143, P145: ImageNext has the same sums and the next rank, and fails exactly for the last one.
func TestP143P145ImageNext(t *testing.T) {
	eachRanking(t, func(r ranking) {
		last := len(r.images) - 1
		for n, a := range r.images[:last] {
			b := nextOf(t, a)
			if !sameImage(b, r.images[n+1]) || !impl.SumsSame(a, b) || impl.ImageRank(b) != impl.ImageRank(a)+1 {
				t.Fatalf("ImageNext of %v is %v instead of %v", a, b, r.images[n+1])
			}
		}
		noNext(t, r.images[last])
	})
}

// P141, P143, P145: the last rank is SumsCount less 1, and its image has no next one, but is that of the image ahead of it.
func TestP141P143P145LastRanks(t *testing.T) {
	for _, r := range someRankings(5) {
		last := len(r.images) - 1
		ranks(t, r.images[last], impl.SumsCount(r.rows, r.cols)-1)
		nthIs(t, r.rows, r.cols, last, r.images[last])
		noNth(t, r.rows, r.cols, last+1)
		noNext(t, r.images[last])
		if last > 0 {
			nextIs(t, r.images[last-1], r.images[last])
		}
	}
}

// P144: ImageNext from the image of rank 0 on meets SumsCount images; for more than twelve, too.
func TestP144FromFirstToLast(t *testing.T) {
	few, many := 0, 0
	eachRanking(t, func(r ranking) {
		a, met := nthOf(t, r.rows, r.cols, 0), 1
		for {
			ranks(t, a, met-1)
			b, ok := impl.ImageNext(a)
			if !ok || met > len(r.images) {
				break
			}
			a = b
			met++
		}
		if met != impl.SumsCount(r.rows, r.cols) || met != len(r.images) {
			t.Fatalf("from the first image with %v and %v on, ImageNext meets %d images instead of %d", r.rows, r.cols, met, len(r.images))
		}
		switch {
		case met > 12:
			many++
		case met > 1:
			few++
		}
	})
	if few < 500 || many < 20 {
		t.Errorf("ImageNext meets a few images %d times, and more than twelve %d times", few, many)
	}
}

// P146: ImageRank and that of ImageOther are SumsCount less 1 together.
func TestP146RankOfOther(t *testing.T) {
	eachRanking(t, func(r ranking) {
		for _, a := range r.images {
			rank, other := impl.ImageRank(a), impl.ImageRank(otherOf(t, a))
			if rank < 0 || other < 0 || rank+other != impl.SumsCount(r.rows, r.cols)-1 {
				t.Fatalf("ImageRank of %v is %d, and that of the other cells %d", a, rank, other)
			}
		}
	})
}

// P147: none of the twelve ranks behind has the same image.
func TestP147DifferentImages(t *testing.T) {
	eachRanking(t, func(r ranking) {
		var list []impl.Image
		for n := range r.images {
			a := nthOf(t, r.rows, r.cols, n)
			for _, b := range list[max(0, n-12):] {
				if sameImage(a, b) {
					t.Fatalf("with %v and %v, the image %v has several ranks", r.rows, r.cols, a)
				}
			}
			list = append(list, a)
		}
	})
}

// P148: a path of switches leads to ImageNext, and it is not empty.
func TestP148PathToNext(t *testing.T) {
	one, several := 0, 0
	eachRanking(t, func(r ranking) {
		for _, a := range r.images[:len(r.images)-1] {
			b := nextOf(t, a)
			path := paths(t, a, b)
			if end, ok := impl.SwitchRun(a, path); len(path) == 0 || !ok || !sameImage(end, b) {
				t.Fatalf("the switches %v lead from %v to %v", path, a, b)
			}
			if len(path) == 1 {
				one++
			} else {
				several++
			}
		}
	})
	if one < 500 || several < 500 {
		t.Errorf("there is one switch to the next image %d times, and several %d times", one, several)
	}
}

// P149: ImageOther of ImageNth has the sums of SumsTurn and, from the last rank on backward, the same rank.
func TestP149OtherCells(t *testing.T) {
	eachRanking(t, func(r ranking) {
		rows, cols := turned(t, r.rows, r.cols)
		many := impl.SumsCount(r.rows, r.cols)
		for n := range many {
			nthIs(t, rows, cols, many-1-n, otherOf(t, nthOf(t, r.rows, r.cols, n)))
		}
	})
}

// P150: the first row of the image of rank 0 is at most that of each image with the same sums, and a unique image has the rank 0.
func TestP150FirstImage(t *testing.T) {
	unlike := 0
	for _, r := range someRankings(3) {
		first := nthOf(t, r.rows, r.cols, 0)
		for _, a := range r.images {
			if first.Rows[0] > a.Rows[0] {
				t.Fatalf("ImageNth of %v, %v and 0 is %v, and there is %v", r.rows, r.cols, first, a)
			}
			if first.Rows[0] < a.Rows[0] {
				unlike++
			}
		}
		if !sameImage(first, r.images[0]) {
			t.Fatalf("ImageNth of %v, %v and 0 is %v instead of %v", r.rows, r.cols, first, r.images[0])
		}
	}
	if unlike < 1000 {
		t.Errorf("the first row of %d images is greater", unlike)
	}
}

// P141, P145, P150: unique images have the rank 0, no other one, and no next image.
func TestP141P145P150Unique(t *testing.T) {
	alone := 0
	for _, a := range chainImages() {
		if len(a.Rows)*a.W > cellsMost {
			continue
		}
		alone++
		rows, cols := rowSumsOf(a), colSumsOf(a)
		unique(t, a, true)
		ranks(t, a, 0)
		nthIs(t, rows, cols, 0, a)
		noNth(t, rows, cols, 1)
		noNth(t, rows, cols, -1)
		noNext(t, a)
	}
	if alone < 400 {
		t.Errorf("there are %d unique images", alone)
	}
}

// P138, P141, P145: images of one row, and of one column, are alone, whatever their cells are.
func TestP138P141P145OneRowOrColumn(t *testing.T) {
	for n := 1; n <= impl.SideMax; n++ {
		for _, s := range []shape{{1, n}, {n, 1}} {
			for _, a := range allOf(s.h, s.w) {
				rows, cols := rowSumsOf(a), colSumsOf(a)
				ranks(t, a, 0)
				nthIs(t, rows, cols, 0, a)
				noNext(t, a)
				for _, k := range ranksBeyond(1) {
					noNth(t, rows, cols, k)
				}
			}
		}
	}
}

// P138, P141, P145: images of more than CellsMax cells have no rank, though there may be few of them.
func TestP138P141P145TooManyCells(t *testing.T) {
	for _, s := range uncountedShapes() {
		for _, a := range slices.Concat(someOf(s.h, s.w), []impl.Image{rowsOf(s.w, fullOf(s.h, 1)...)}) {
			ranks(t, a, -1)
			noNext(t, a)
			rows, cols := rowSumsOf(a), colSumsOf(a)
			for _, n := range slices.Concat(ranksBeyond(1), []int{0}) {
				noNth(t, rows, cols, n)
			}
		}
	}
	for _, s := range countedShapes() {
		for _, a := range someOf(s.h, s.w) {
			nthIs(t, rowSumsOf(a), colSumsOf(a), impl.ImageRank(a), a)
		}
	}
}

// P138, P145: invalid images have no rank and no next image.
func TestP138P145InvalidImages(t *testing.T) {
	for _, a := range slices.Concat(badImages(), spoiledImages()) {
		ranks(t, a, -1)
		noNext(t, a)
	}
	failsForBad(t, "ImageNext", impl.ImageNext)
}

// P141: sums that are not valid have no rank. SumsCount of them is -1, and so is less than each rank, or the rank itself.
func TestP141InvalidSums(t *testing.T) {
	for _, p := range badSums() {
		for _, n := range []int{0, -1, -2, 1, 2, math.MaxInt, math.MinInt} {
			noNth(t, p.rows, p.cols, n)
		}
	}
}

// General rule: arguments stay, what is behind them in memory included, and may be one list; results share no memory
// with them and with each other, the capacity of slices included.
func TestRankingSharesNoMemory(t *testing.T) {
	for _, c := range knownOrders() {
		w := len(c.cols)
		for n, list := range c.images {
			rowSpace, colSpace, imageSpace := append(slices.Clone(c.rows), 1, 2), append(slices.Clone(c.cols), 3, 4), append(slices.Clone(list), 5, 6)
			oldRows, oldCols, oldImage := slices.Clone(rowSpace), slices.Clone(colSpace), slices.Clone(imageSpace)
			rows, cols, a := rowSpace[:len(c.rows)], colSpace[:w], rowsOf(w, imageSpace[:len(list)]...)
			results := []impl.Image{nthOf(t, rows, cols, n), nthOf(t, rows, cols, n)}
			wanted := [][]int{list, list}
			ranks(t, a, n)
			if n+1 < len(c.images) {
				results = append(results, nextOf(t, a), nextOf(t, a))
				wanted = append(wanted, c.images[n+1], c.images[n+1])
			}
			for k, b := range results {
				if !slices.Equal(b.Rows, wanted[k]) {
					t.Errorf("of the images with %v and %v, results share memory", c.rows, c.cols)
				}
				all := b.Rows[:cap(b.Rows)]
				for i := range all {
					all[i] = 99
				}
			}
			if !slices.Equal(rowSpace, oldRows) || !slices.Equal(colSpace, oldCols) || !slices.Equal(imageSpace, oldImage) {
				t.Errorf("ranks of images with %v and %v share memory", c.rows, c.cols)
			}
		}
	}
	ones := []int{1, 1, 1}
	nthIs(t, ones, ones, 4, rowsOf(3, 4, 1, 2))
}
