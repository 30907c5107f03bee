package impl

import (
	"math/bits"
	"slices"
	"strings"
)

// SideMax is the greatest height and width of an image.
const SideMax = 6

// Image is a rectangle of cells that are set or not.
type Image struct {
	W    int
	Rows []int
}

// rowFull returns the row of a width whose cells are all set.
func rowFull(w int) int {
	return 1<<w - 1
}

// rowMany returns how many cells of a row are set.
func rowMany(row int) int {
	return bits.OnesCount64(uint64(row))
}

// cellInside reports whether a valid image has a cell (i, j).
func cellInside(a Image, i int, j int) bool {
	return i >= 0 && i < len(a.Rows) && j >= 0 && j < a.W
}

// sideValid reports whether a number can be the height or the width of an image.
func sideValid(n int) bool {
	return n >= 1 && n <= SideMax
}

// ImageValid reports whether an image is valid.
func ImageValid(a Image) bool {
	// The sides come first: a shift by a negative width would panic.
	if !sideValid(a.W) || !sideValid(len(a.Rows)) {
		return false
	}
	for _, row := range a.Rows {
		if row < 0 || row > rowFull(a.W) {
			return false
		}
	}
	return true
}

// imageCopy returns an image that is equal to a given one and shares no memory with it.
func imageCopy(a Image) Image {
	return Image{W: a.W, Rows: slices.Clone(a.Rows)}
}

// ImageHas reports whether an image is valid and has a cell (i, j) that is set.
func ImageHas(a Image, i int, j int) bool {
	return ImageValid(a) && cellInside(a, i, j) && a.Rows[i]>>j&1 == 1
}

// ImagePut returns an image whose cell (i, j) is set, or not, as set tells, and true.
// It fails if the image is invalid or has no such cell.
func ImagePut(a Image, i int, j int, set bool) (Image, bool) {
	if !ImageValid(a) || !cellInside(a, i, j) {
		return Image{}, false
	}
	b := imageCopy(a)
	if set {
		b.Rows[i] |= 1 << j
	} else {
		b.Rows[i] &^= 1 << j
	}
	return b, true
}

// ImageMany returns how many cells of an image are set, or -1 if it is invalid.
func ImageMany(a Image) int {
	if !ImageValid(a) {
		return -1
	}
	many := 0
	for _, row := range a.Rows {
		many += rowMany(row)
	}
	return many
}

// ImageTurn returns the transposed image, whose cell (j, i) is that of the image at (i, j), and true.
// It fails if the image is invalid.
func ImageTurn(a Image) (Image, bool) {
	if !ImageValid(a) {
		return Image{}, false
	}
	b := Image{W: len(a.Rows), Rows: make([]int, a.W)}
	for i, row := range a.Rows {
		for j := range b.Rows {
			b.Rows[j] |= row >> j & 1 << i
		}
	}
	return b, true
}

// ImageMirror returns the image with its columns in the opposite order, and true.
// It fails if the image is invalid.
func ImageMirror(a Image) (Image, bool) {
	if !ImageValid(a) {
		return Image{}, false
	}
	b := Image{W: a.W, Rows: make([]int, len(a.Rows))}
	for i, row := range a.Rows {
		// The reversed row ends up in the highest bits of the word.
		b.Rows[i] = int(bits.Reverse64(uint64(row)) >> (64 - a.W))
	}
	return b, true
}

// ImageOther returns the image whose cells are set where those of the image are not, and true.
// It fails if the image is invalid.
func ImageOther(a Image) (Image, bool) {
	if !ImageValid(a) {
		return Image{}, false
	}
	b := Image{W: a.W, Rows: make([]int, len(a.Rows))}
	for i, row := range a.Rows {
		b.Rows[i] = row ^ rowFull(a.W)
	}
	return b, true
}

// ImageText returns a line for each row of an image: # for each cell that is set, . for each other one, and a newline.
// It returns "" if the image is invalid.
func ImageText(a Image) string {
	if !ImageValid(a) {
		return ""
	}
	var text strings.Builder
	for _, row := range a.Rows {
		for j := range a.W {
			if row>>j&1 == 1 {
				text.WriteByte('#')
			} else {
				text.WriteByte('.')
			}
		}
		text.WriteByte('\n')
	}
	return text.String()
}

// ImageFrom returns the image of which ImageText is a text, and true.
// It fails if there is none.
func ImageFrom(s string) (Image, bool) {
	w := strings.IndexByte(s, '\n')
	if !sideValid(w) || len(s)%(w+1) != 0 || !sideValid(len(s)/(w+1)) {
		return Image{}, false
	}
	a := Image{W: w}
	for start := 0; start < len(s); start += w + 1 {
		row, ok := rowFrom(s[start : start+w])
		if !ok || s[start+w] != '\n' {
			return Image{}, false
		}
		a.Rows = append(a.Rows, row)
	}
	return a, true
}

// rowFrom returns the row of a line without its newline, and true.
// It fails if the line has another byte than # and . in it.
func rowFrom(line string) (int, bool) {
	row := 0
	for j := range len(line) {
		switch line[j] {
		case '#':
			row |= 1 << j
		case '.':
		default:
			return 0, false
		}
	}
	return row, true
}
