package tests

import (
	"fmt"
	"math"
	"slices"
	"strings"
	"testing"

	"loop.example/discretetomography/impl"
)

// P1: an image is valid within the ends of the ranges, and not beyond them.
func TestP1ImageValid(t *testing.T) {
	for _, a := range goodImages() {
		if !impl.ImageValid(a) {
			t.Fatalf("%v is not valid", a)
		}
		for k := 1; k <= len(a.Rows); k++ {
			if !impl.ImageValid(impl.Image{W: a.W, Rows: a.Rows[:k]}) {
				t.Fatalf("the first %d rows of %v are not valid", k, a)
			}
		}
		if impl.ImageValid(impl.Image{W: impl.SideMax + 1, Rows: a.Rows}) || impl.ImageValid(impl.Image{W: 0, Rows: a.Rows}) {
			t.Fatalf("%v is valid with another width", a)
		}
		for i := range a.Rows {
			for _, row := range []int{pow(a.W), -1} {
				b := cloneOf(a)
				b.Rows[i] = row
				if impl.ImageValid(b) {
					t.Fatalf("%v is valid", b)
				}
			}
		}
	}
	for _, a := range badImages() {
		if impl.ImageValid(a) {
			t.Errorf("%v is valid", a)
		}
	}
}

// P1: all rows that there are for each width.
func TestP1RowsOfEachWidth(t *testing.T) {
	for w := -1; w <= impl.SideMax+1; w++ {
		for row := -70; row <= 130; row++ {
			want := w >= 1 && w <= 6 && row >= 0 && row < pow(max(w, 0))
			if impl.ImageValid(rowsOf(w, row)) != want {
				t.Errorf("ImageValid of width %d and row %d is %v", w, row, !want)
			}
		}
	}
	for h := 0; h <= 2*impl.SideMax; h++ {
		if impl.ImageValid(rowsOf(6, make([]int, h)...)) != (h >= 1 && h <= 6) {
			t.Errorf("ImageValid is wrong for the height %d", h)
		}
	}
}

// P2: ImageHas is the bit of the row, and the opposite in the other image.
func TestP2ImageHas(t *testing.T) {
	for _, a := range goodImages() {
		other := get[impl.Image](t)(impl.ImageOther(a))
		eachCell(a, func(i, j int) {
			if impl.ImageHas(a, i, j) != cellOf(a, i, j) {
				t.Fatalf("ImageHas of %v at (%d, %d) is %v", a, i, j, !cellOf(a, i, j))
			}
			if impl.ImageHas(a, i, j) == impl.ImageHas(other, i, j) {
				t.Fatalf("ImageHas of %v and of the other one %v are equal at (%d, %d)", a, other, i, j)
			}
		})
	}
	for _, a := range badImages() {
		for _, n := range []int{-1, 0, 1, 5, 6, 63, 64, math.MaxInt, math.MinInt} {
			if impl.ImageHas(a, 0, n) || impl.ImageHas(a, n, 0) || impl.ImageHas(a, n, n) || impl.ImageHas(a, 6, n) {
				t.Fatalf("the invalid image %v has a cell", a)
			}
		}
	}
}

// P3: ImagePut sets or clears one cell, and no other one.
func TestP3ImagePut(t *testing.T) {
	for _, a := range goodImages() {
		before := cloneOf(a)
		eachCell(a, func(i, j int) {
			for _, set := range []bool{false, true} {
				b := get[impl.Image](t)(impl.ImagePut(a, i, j, set))
				if !impl.ImageValid(b) || b.W != a.W || len(b.Rows) != len(a.Rows) || impl.ImageHas(b, i, j) != set {
					t.Fatalf("ImagePut of %v at (%d, %d) %v is %v", a, i, j, set, b)
				}
				eachCell(a, func(k, l int) {
					if (k != i || l != j) && impl.ImageHas(b, k, l) != cellOf(a, k, l) {
						t.Fatalf("ImagePut of %v at (%d, %d) changed (%d, %d)", a, i, j, k, l)
					}
				})
			}
		})
		if !sameImage(a, before) {
			t.Fatalf("ImagePut changed its argument %v to %v", before, a)
		}
	}
}

// P3: ImagePut fails for invalid images and for cells outside.
func TestP3ImagePutFails(t *testing.T) {
	fails := func(a impl.Image, i, j int) {
		for _, set := range []bool{false, true} {
			if b, ok := impl.ImagePut(a, i, j, set); ok || !zeroImage(b) {
				t.Fatalf("ImagePut of %v at (%d, %d) returned %v, %v", a, i, j, b, ok)
			}
		}
	}
	for _, a := range goodImages() {
		for _, c := range outsideOf(a) {
			fails(a, c[0], c[1])
		}
	}
	for _, a := range badImages() {
		for _, n := range []int{-1, 0, 1, 5, 6, 64, math.MaxInt, math.MinInt} {
			fails(a, 0, n)
			fails(a, n, 0)
		}
	}
}

// P4: putting the opposite and back again is the same, and putting what is there changes nothing.
func TestP4ImagePutTwice(t *testing.T) {
	put := get[impl.Image](t)
	for _, a := range goodImages() {
		eachCell(a, func(i, j int) {
			for _, set := range []bool{false, true} {
				once := put(impl.ImagePut(a, i, j, set))
				opposite := put(impl.ImagePut(once, i, j, !set))
				if again := put(impl.ImagePut(opposite, i, j, set)); !sameImage(again, once) || sameImage(opposite, once) {
					t.Fatalf("putting (%d, %d) of %v to and fro is %v", i, j, a, again)
				}
				if twice := put(impl.ImagePut(once, i, j, set)); !sameImage(twice, once) {
					t.Fatalf("putting (%d, %d) of %v twice is %v", i, j, a, twice)
				}
			}
			if b := put(impl.ImagePut(a, i, j, cellOf(a, i, j))); !sameImage(a, b) {
				t.Fatalf("putting what is there changed %v to %v", a, b)
			}
		})
	}
}

// P5: ImageMany is the number of cells that ImageHas tells.
func TestP5ImageMany(t *testing.T) {
	for _, a := range goodImages() {
		many := 0
		eachCell(a, func(i, j int) {
			if impl.ImageHas(a, i, j) {
				many++
			}
		})
		if impl.ImageMany(a) != many {
			t.Fatalf("ImageMany of %v is %d instead of %d", a, impl.ImageMany(a), many)
		}
	}
	for _, a := range badImages() {
		if impl.ImageMany(a) != -1 {
			t.Errorf("ImageMany of the invalid image %v is %d", a, impl.ImageMany(a))
		}
	}
	for _, c := range []struct {
		a    impl.Image
		many int
	}{{rowsOf(1, 0), 0}, {rowsOf(1, 1), 1}, {rowsOf(6, 63, 63, 63, 63, 63, 63), 36}, {rowsOf(6, 32, 0, 0, 0, 0, 1), 2}, {rowsOf(3, 5, 6), 4}} {
		if impl.ImageMany(c.a) != c.many {
			t.Errorf("ImageMany of %v is %d instead of %d", c.a, impl.ImageMany(c.a), c.many)
		}
	}
}

// P6: the set cells of an image and of the other one are all cells.
func TestP6ImageManyOther(t *testing.T) {
	for _, a := range goodImages() {
		other := get[impl.Image](t)(impl.ImageOther(a))
		if impl.ImageMany(a)+impl.ImageMany(other) != len(a.Rows)*a.W {
			t.Fatalf("%v has %d set cells, and the other one %v %d", a, impl.ImageMany(a), other, impl.ImageMany(other))
		}
	}
}

// P7: ImageTurn exchanges rows and columns.
func TestP7ImageTurn(t *testing.T) {
	turn := get[impl.Image](t)
	for _, a := range goodImages() {
		b := changed(t, "ImageTurn", impl.ImageTurn, a)
		eachCell(a, func(i, j int) {
			if impl.ImageHas(b, j, i) != cellOf(a, i, j) {
				t.Fatalf("ImageTurn of %v is %v", a, b)
			}
		})
		if c := turn(impl.ImageTurn(b)); !sameImage(a, c) {
			t.Fatalf("ImageTurn of %v twice is %v", a, c)
		}
	}
	if b := turn(impl.ImageTurn(rowsOf(6, 33))); !sameImage(b, rowsOf(1, 1, 0, 0, 0, 0, 1)) {
		t.Errorf("ImageTurn of one row is %v", b)
	}
	failsForBad(t, "ImageTurn", impl.ImageTurn)
}

// P8: ImageMirror exchanges left and right.
func TestP8ImageMirror(t *testing.T) {
	mirror := get[impl.Image](t)
	for _, a := range goodImages() {
		b := changed(t, "ImageMirror", impl.ImageMirror, a)
		if b.W != a.W || len(b.Rows) != len(a.Rows) {
			t.Fatalf("ImageMirror of %v is %v", a, b)
		}
		eachCell(a, func(i, j int) {
			if impl.ImageHas(b, i, a.W-1-j) != cellOf(a, i, j) {
				t.Fatalf("ImageMirror of %v is %v", a, b)
			}
		})
		if c := mirror(impl.ImageMirror(b)); !sameImage(a, c) {
			t.Fatalf("ImageMirror of %v twice is %v", a, c)
		}
	}
	if b := mirror(impl.ImageMirror(rowsOf(6, 1, 32, 63, 0, 6, 13))); !sameImage(b, rowsOf(6, 32, 1, 63, 0, 24, 44)) {
		t.Errorf("ImageMirror of six rows is %v", b)
	}
	failsForBad(t, "ImageMirror", impl.ImageMirror)
}

// P9: turning and mirroring four times leads back.
func TestP9TurnAndMirror(t *testing.T) {
	for _, a := range goodImages() {
		b := a
		for range 4 {
			b = get[impl.Image](t)(impl.ImageTurn(b))
			b = get[impl.Image](t)(impl.ImageMirror(b))
		}
		if !sameImage(a, b) {
			t.Fatalf("%v turned and mirrored four times is %v", a, b)
		}
	}
}

// P10: ImageOther has the opposite of each cell, and turns and mirrors with the image.
func TestP10ImageOther(t *testing.T) {
	must := get[impl.Image](t)
	for _, a := range goodImages() {
		b := changed(t, "ImageOther", impl.ImageOther, a)
		if b.W != a.W || len(b.Rows) != len(a.Rows) {
			t.Fatalf("ImageOther of %v is %v", a, b)
		}
		eachCell(a, func(i, j int) {
			if cellOf(b, i, j) == cellOf(a, i, j) {
				t.Fatalf("ImageOther of %v is %v", a, b)
			}
		})
		if c := must(impl.ImageOther(b)); !sameImage(a, c) {
			t.Fatalf("ImageOther of %v twice is %v", a, c)
		}
		if !sameImage(must(impl.ImageTurn(b)), must(impl.ImageOther(must(impl.ImageTurn(a))))) {
			t.Fatalf("ImageOther of %v does not turn with the image", a)
		}
		if !sameImage(must(impl.ImageMirror(b)), must(impl.ImageOther(must(impl.ImageMirror(a))))) {
			t.Fatalf("ImageOther of %v does not mirror with the image", a)
		}
	}
	failsForBad(t, "ImageOther", impl.ImageOther)
}

// changed returns what a function makes of a valid image: a valid one, and the argument stays.
func changed(t *testing.T, name string, change func(impl.Image) (impl.Image, bool), a impl.Image) impl.Image {
	t.Helper()
	before := cloneOf(a)
	b, ok := change(a)
	if !ok || !impl.ImageValid(b) {
		t.Fatalf("%s of %v returned %v, %v", name, a, b, ok)
	}
	if !sameImage(a, before) {
		t.Fatalf("%s changed its argument %v to %v", name, before, a)
	}
	return b
}

// failsForBad tests that a function of an image fails for invalid images, with the zero value.
func failsForBad(t *testing.T, name string, change func(impl.Image) (impl.Image, bool)) {
	t.Helper()
	for _, a := range badImages() {
		if b, ok := change(a); ok || !zeroImage(b) {
			t.Errorf("%s of the invalid image %v returned %v, %v", name, a, b, ok)
		}
	}
}

// textOf returns the text of a valid image.
func textOf(a impl.Image) string {
	text := ""
	for i := range a.Rows {
		for j := range a.W {
			text += map[bool]string{true: "#", false: "."}[cellOf(a, i, j)]
		}
		text += "\n"
	}
	return text
}

// P11: ImageText has W + 1 bytes for each row, and ImageFrom leads back.
func TestP11ImageText(t *testing.T) {
	for _, a := range goodImages() {
		before := cloneOf(a)
		text := impl.ImageText(a)
		if !sameImage(a, before) {
			t.Fatalf("ImageText changed its argument %v to %v", before, a)
		}
		if text != textOf(a) || len(text) != (a.W+1)*len(a.Rows) {
			t.Fatalf("ImageText of %v is %q", a, text)
		}
		if b := get[impl.Image](t)(impl.ImageFrom(text)); !sameImage(a, b) {
			t.Fatalf("ImageFrom of %q is %v instead of %v", text, b, a)
		}
	}
	for _, a := range badImages() {
		if text := impl.ImageText(a); text != "" {
			t.Errorf("ImageText of the invalid image %v is %q", a, text)
		}
	}
	if text := impl.ImageText(rowsOf(6, 0, 63, 1, 32)); text != "......\n######\n#.....\n.....#\n" {
		t.Errorf("ImageText of the ends of the range is %q", text)
	}
}

// P12: ImageText has a # for each set cell and a . for each other one.
func TestP12ImageTextCells(t *testing.T) {
	for _, a := range goodImages() {
		text := impl.ImageText(a)
		set, other := strings.Count(text, "#"), strings.Count(text, ".")
		if set != impl.ImageMany(a) || other != len(a.Rows)*a.W-set || strings.Count(text, "\n") != len(a.Rows) {
			t.Fatalf("ImageText of %v is %q", a, text)
		}
	}
}

// fromFails tests that ImageFrom fails for a text, with the zero value.
func fromFails(t *testing.T, text string) {
	t.Helper()
	if a, ok := impl.ImageFrom(text); ok || !zeroImage(a) {
		t.Fatalf("ImageFrom of %q returned %v, %v", text, a, ok)
	}
}

// P13: what ImageFrom reads is exactly a text of a valid image.
func TestP13ImageFrom(t *testing.T) {
	for _, a := range goodImages() {
		text := textOf(a)
		b := get[impl.Image](t)(impl.ImageFrom(text))
		if !impl.ImageValid(b) || impl.ImageText(b) != text {
			t.Fatalf("ImageFrom of %q is %v", text, b)
		}
		for _, other := range []string{text[:len(text)-1], text + " ", text + "\n", text + "#", " " + text, "\n" + text} {
			fromFails(t, other)
		}
		for k := range len(text) {
			for _, c := range []string{" ", "x", "\r", "\x00", "\xff", "0", "1", "/", "-", "$"} {
				fromFails(t, text[:k]+c+text[k+1:])
			}
		}
	}
}

// P13: texts that are no text of an image.
func TestP13ImageFromFails(t *testing.T) {
	for _, text := range []string{
		"", "\n", "\n\n", "#", ".", "##", "#.\n#", "#.\n#\n", "#\n#.\n", "##\n\n", "\n##\n", "##\n\n##\n",
		"###\n#\n#\n", "#\n###\n#\n#\n", "##\r\n", "#\t\n", "# \n", " #\n", "#,\n", "＃\n", "・\n", "#\u2028",
		".......\n", "#######\n#######\n", strings.Repeat("#\n", 7), strings.Repeat("######\n", 7),
		strings.Repeat(".", 63) + "\n", strings.Repeat("#", 64) + "\n", strings.Repeat("#", 1000), strings.Repeat("\n", 1000),
		strings.Repeat("######\n", 6) + "#", strings.Repeat("######\n", 5) + "#####\n", strings.Repeat("######\n", 5) + "#######\n",
	} {
		fromFails(t, text)
	}
}

// P13: of all texts of at most 6 bytes of the three, ImageFrom reads those of images and no others.
func TestP13ImageFromAll(t *testing.T) {
	known := map[string]bool{}
	for _, a := range goodImages() {
		known[textOf(a)] = true
	}
	texts := []string{""}
	for k := 0; k < len(texts); k++ {
		text := texts[k]
		if _, ok := impl.ImageFrom(text); ok != known[text] {
			t.Fatalf("ImageFrom of %q returned %v", text, ok)
		}
		if len(text) < 6 {
			texts = append(texts, text+"#", text+".", text+"\n")
		}
	}
}

// P14: putting two cells is the same in both orders.
func TestP14ImagePutOrder(t *testing.T) {
	put := get[impl.Image](t)
	for h := 1; h <= impl.SideMax; h++ {
		for w := 1; w <= impl.SideMax; w++ {
			a := someOf(h, w)[h+w]
			eachCell(a, func(i, j int) {
				eachCell(a, func(k, l int) {
					for n := range 4 {
						if i == k && j == l {
							continue
						}
						first := put(impl.ImagePut(put(impl.ImagePut(a, i, j, n%2 == 1)), k, l, n/2 == 1))
						second := put(impl.ImagePut(put(impl.ImagePut(a, k, l, n/2 == 1)), i, j, n%2 == 1))
						if !sameImage(first, second) || cellOf(first, i, j) != (n%2 == 1) || cellOf(first, k, l) != (n/2 == 1) {
							t.Fatalf("putting (%d, %d) and (%d, %d) of %v is %v and %v", i, j, k, l, a, first, second)
						}
					}
				})
			})
		}
	}
}

// P15: ImageTurn exchanges height and width, and keeps the number of set cells.
func TestP15ImageTurnSize(t *testing.T) {
	for _, a := range goodImages() {
		b := get[impl.Image](t)(impl.ImageTurn(a))
		if b.W != len(a.Rows) || len(b.Rows) != a.W || impl.ImageMany(b) != impl.ImageMany(a) {
			t.Fatalf("ImageTurn of %v is %v", a, b)
		}
	}
}

// P16: there are no cells outside of an image.
func TestP16ImageHasOutside(t *testing.T) {
	for _, a := range goodImages() {
		for i := range a.Rows {
			if impl.ImageHas(a, i, -1) || impl.ImageHas(a, i, a.W) {
				t.Fatalf("%v has a cell outside of the row %d", a, i)
			}
		}
		for j := range a.W {
			if impl.ImageHas(a, -1, j) || impl.ImageHas(a, len(a.Rows), j) {
				t.Fatalf("%v has a cell outside of the column %d", a, j)
			}
		}
		for _, c := range outsideOf(a) {
			if impl.ImageHas(a, c[0], c[1]) {
				t.Fatalf("%v has a cell (%d, %d)", a, c[0], c[1])
			}
		}
	}
}

// P17: the text of an image is that of its first rows and behind it that of the others.
func TestP17ImageTextParts(t *testing.T) {
	for _, a := range goodImages() {
		for k := 1; k < len(a.Rows); k++ {
			first, others := impl.Image{W: a.W, Rows: a.Rows[:k]}, impl.Image{W: a.W, Rows: a.Rows[k:]}
			if impl.ImageText(first)+impl.ImageText(others) != impl.ImageText(a) {
				t.Fatalf("the text of %v is not that of its first %d rows and of the others", a, k)
			}
		}
	}
}

// General rule: results share no memory with arguments, the capacity of slices included.
func TestImagesShareNoMemory(t *testing.T) {
	changes := map[string]func(impl.Image) (impl.Image, bool){
		"ImageTurn": impl.ImageTurn, "ImageMirror": impl.ImageMirror, "ImageOther": impl.ImageOther,
		"ImagePut":  func(a impl.Image) (impl.Image, bool) { return impl.ImagePut(a, 0, 0, true) },
		"ImagePut0": func(a impl.Image) (impl.Image, bool) { return impl.ImagePut(a, 1, 1, false) },
	}
	for name, change := range changes {
		space := []int{5, 2, 7, 40, 41, 42}
		a := impl.Image{W: 3, Rows: space[:3]}
		b := get[impl.Image](t)(change(a))
		text := fmt.Sprint(b)
		all := b.Rows[:cap(b.Rows)]
		for k := range all {
			all[k] = 99
		}
		if !slices.Equal(space, []int{5, 2, 7, 40, 41, 42}) {
			t.Errorf("the result of %s shares memory with its argument", name)
		}
		if c := get[impl.Image](t)(change(a)); fmt.Sprint(c) != text {
			t.Errorf("%s returned %v, and then %v", name, text, c)
		}
	}
}
