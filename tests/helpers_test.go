package tests

import (
	"math"
	"slices"
	"testing"

	"loop.example/discretetomography/impl"
)

// pow returns 2 to the power of n. The tests work with powers and remainders,
// so that a mistake in the program's shifts and masks is not repeated here.
func pow(n int) int {
	p := 1
	for range n {
		p *= 2
	}
	return p
}

// cellOf tells whether the cell (i, j) of a valid image is set.
func cellOf(a impl.Image, i int, j int) bool {
	return a.Rows[i]/pow(j)%2 == 1
}

// rowsOf returns the image with given rows.
func rowsOf(w int, rows ...int) impl.Image {
	return impl.Image{W: w, Rows: rows}
}

// cloneOf returns a copy of an image, valid or not.
func cloneOf(a impl.Image) impl.Image {
	return impl.Image{W: a.W, Rows: slices.Clone(a.Rows)}
}

// sameImage tells whether two images are equal.
func sameImage(a impl.Image, b impl.Image) bool {
	return a.W == b.W && slices.Equal(a.Rows, b.Rows)
}

// zeroImage tells whether an image is the zero value.
func zeroImage(a impl.Image) bool {
	return a.W == 0 && len(a.Rows) == 0
}

// allOf returns all images of a height and a width.
func allOf(h int, w int) []impl.Image {
	var list []impl.Image
	for n := range pow(h * w) {
		a := impl.Image{W: w}
		for range h {
			a.Rows = append(a.Rows, n%pow(w))
			n /= pow(w)
		}
		list = append(list, a)
	}
	return list
}

// someOf returns a few images of a height and a width: empty, full, with one cell set or not set
// in each corner, like a chessboard, and several without order.
func someOf(h int, w int) []impl.Image {
	filled := func(row func(i int) int) impl.Image {
		a := impl.Image{W: w}
		for i := range h {
			a.Rows = append(a.Rows, row(i))
		}
		return a
	}
	full := pow(w) - 1
	list := []impl.Image{
		filled(func(int) int { return 0 }),
		filled(func(int) int { return full }),
		filled(func(i int) int { return 0b101010 / pow(i%2) % pow(w) }),
	}
	for _, i := range []int{0, h - 1} {
		for _, bit := range []int{1, pow(w - 1)} {
			one, other := filled(func(int) int { return 0 }), filled(func(int) int { return full })
			one.Rows[i], other.Rows[i] = bit, full-bit
			list = append(list, one, other)
		}
	}
	state := 7*h + w
	for range 12 {
		list = append(list, filled(func(int) int {
			state = (state*1103515245 + 12345) % (1 << 31)
			return state / 256 % pow(w)
		}))
	}
	return list
}

// numbersFrom returns a function that returns numbers without order that are less than a given one. They are the same for the same seed.
func numbersFrom(seed int) func(many int) int {
	state := seed
	return func(many int) int {
		state = (state*1103515245 + 12345) % (1 << 31)
		return state / 4096 % many
	}
}

// goodImages returns valid images of all heights and widths; of those with at most 9 cells, all.
func goodImages() []impl.Image {
	var list []impl.Image
	for h := 1; h <= impl.SideMax; h++ {
		for w := 1; w <= impl.SideMax; w++ {
			if h*w <= 9 {
				list = append(list, allOf(h, w)...)
			} else {
				list = append(list, someOf(h, w)...)
			}
		}
	}
	return list
}

// badImages returns images that are not valid.
func badImages() []impl.Image {
	list := []impl.Image{{}, {W: 3}, {W: 3, Rows: []int{}}, {W: 6, Rows: make([]int, impl.SideMax+1)}, {W: 1, Rows: make([]int, 100)}}
	for _, w := range []int{0, -1, -6, impl.SideMax + 1, 31, 32, 62, 63, 64, 65, math.MaxInt, math.MinInt} {
		list = append(list, rowsOf(w, 0), rowsOf(w, 0, 0, 0), rowsOf(w, 1, 0), rowsOf(w, -1), rowsOf(w))
	}
	for w := 1; w <= impl.SideMax; w++ {
		for _, row := range []int{-1, -pow(w), pow(w), pow(w) + 1, 2*pow(w) - 1, 1 << 32, math.MaxInt, math.MinInt} {
			list = append(list, rowsOf(w, row), rowsOf(w, row, 0), rowsOf(w, 0, row), rowsOf(w, 0, row, 0), rowsOf(w, 0, 0, 0, 0, 0, row))
		}
	}
	return list
}

// eachCell calls a function for each cell of a valid image.
func eachCell(a impl.Image, visit func(i int, j int)) {
	for i := range a.Rows {
		for j := range a.W {
			visit(i, j)
		}
	}
}

// outsideOf returns places that are no cells of a valid image.
func outsideOf(a impl.Image) [][2]int {
	h, w := len(a.Rows), a.W
	var list [][2]int
	for _, n := range []int{-1, -2, 7, 63, 64, math.MaxInt, math.MinInt} {
		list = append(list, [2]int{n, 0}, [2]int{n, w - 1}, [2]int{0, n}, [2]int{h - 1, n}, [2]int{n, n})
	}
	return append(list, [2]int{h, 0}, [2]int{h, w - 1}, [2]int{0, w}, [2]int{h - 1, w}, [2]int{h, w}, [2]int{-1, w - 1}, [2]int{h - 1, -1})
}

// get returns a result that must not have failed.
func get[T any](t *testing.T) func(T, bool) T {
	return func(result T, ok bool) T {
		t.Helper()
		if !ok {
			t.Fatalf("failed, and returned %v", result)
		}
		return result
	}
}
