package tests

import (
	"math"
	"slices"
	"testing"

	"loop.example/discretetomography/impl"
)

// switchOf returns a switch of the rows i and k and the columns j and l.
func switchOf(i int, k int, j int, l int) impl.Switch {
	return impl.Switch{A: i, B: k, C: j, D: l}
}

// isSwitch tells whether a valid image has a switch, by the cells that are set in one of the two ways and not in the other.
func isSwitch(a impl.Image, s impl.Switch) bool {
	if s.A < 0 || s.B <= s.A || len(a.Rows) <= s.B || s.C < 0 || s.D <= s.C || a.W <= s.D {
		return false
	}
	cells := [4]bool{cellOf(a, s.A, s.C), cellOf(a, s.A, s.D), cellOf(a, s.B, s.C), cellOf(a, s.B, s.D)}
	return cells == [4]bool{true, false, false, true} || cells == [4]bool{false, true, true, false}
}

// switchesIn returns all switches of a valid image, in ascending order of A, then of B, then of C, then of D.
func switchesIn(a impl.Image) []impl.Switch {
	var list []impl.Switch
	for i := range a.Rows {
		for k := range a.Rows {
			for j := range a.W {
				for l := range a.W {
					if isSwitch(a, switchOf(i, k, j, l)) {
						list = append(list, switchOf(i, k, j, l))
					}
				}
			}
		}
	}
	return list
}

// switchedAt returns an image with the four cells of a switch changed.
func switchedAt(a impl.Image, s impl.Switch) impl.Image {
	return flipped(flipped(flipped(flipped(a, s.A, s.C), s.A, s.D), s.B, s.C), s.B, s.D)
}

// differing returns the number of cells that are set in just one of two images of the same size.
func differing(a impl.Image, b impl.Image) int {
	many := 0
	eachCell(a, func(i, j int) {
		if cellOf(a, i, j) != cellOf(b, i, j) {
			many++
		}
	})
	return many
}

// imageOf returns the image of a text, which must be one.
func imageOf(t *testing.T, text string) impl.Image {
	t.Helper()
	return get[impl.Image](t)(impl.ImageFrom(text))
}

// keeps tests that an image stays the same while a function is called.
func keeps(t *testing.T, a impl.Image, call func()) {
	t.Helper()
	old := cloneOf(a)
	call()
	if !sameImage(a, old) {
		t.Fatalf("the image %v was changed to %v", old, a)
	}
}

// switches tests SwitchOk, and that the image stays.
func switches(t *testing.T, a impl.Image, s impl.Switch, want bool) {
	t.Helper()
	keeps(t, a, func() {
		if impl.SwitchOk(a, s) != want {
			t.Fatalf("SwitchOk of %v and %v is %v", a, s, !want)
		}
	})
}

// does returns SwitchDo, which must not have failed, nor changed the image.
func does(t *testing.T, a impl.Image, s impl.Switch) impl.Image {
	t.Helper()
	var b impl.Image
	keeps(t, a, func() {
		var ok bool
		if b, ok = impl.SwitchDo(a, s); !ok || !impl.ImageValid(b) {
			t.Fatalf("SwitchDo of %v and %v returned %v, %v", a, s, b, ok)
		}
	})
	return b
}

// noSwitch tests that SwitchOk does not hold, and that SwitchDo fails with the zero value.
func noSwitch(t *testing.T, a impl.Image, s impl.Switch) {
	t.Helper()
	switches(t, a, s, false)
	keeps(t, a, func() {
		if b, ok := impl.SwitchDo(a, s); ok || !zeroImage(b) {
			t.Fatalf("SwitchDo of %v and %v returned %v, %v", a, s, b, ok)
		}
	})
}

// noFirst tests that SwitchFirst fails with the zero value.
func noFirst(t *testing.T, a impl.Image) {
	t.Helper()
	keeps(t, a, func() {
		if b, ok := impl.SwitchFirst(a); ok || !zeroImage(b) {
			t.Fatalf("SwitchFirst of %v returned %v, %v", a, b, ok)
		}
	})
}

// lists tests SwitchList, SwitchMany and SwitchFirst of a valid image that has given switches, and that the image stays.
func lists(t *testing.T, a impl.Image, want []impl.Switch) {
	t.Helper()
	keeps(t, a, func() {
		if list := impl.SwitchList(a); !slices.Equal(list, want) {
			t.Fatalf("SwitchList of %v is %v instead of %v", a, list, want)
		}
		if many := impl.SwitchMany(a); many != len(want) {
			t.Fatalf("SwitchMany of %v is %d instead of %d", a, many, len(want))
		}
	})
	if len(want) == 0 {
		noFirst(t, a)
		return
	}
	keeps(t, a, func() {
		if b, ok := impl.SwitchFirst(a); !ok || !sameImage(b, switchedAt(a, want[0])) {
			t.Fatalf("SwitchFirst of %v returned %v, %v", a, b, ok)
		}
	})
}

// switchImages returns the images of goodImages, all of 2 rows of 5 and 5 rows of 2, of 3 rows of 4 and 4 rows of 3,
// and more of SideMax rows and columns.
func switchImages() []impl.Image {
	return slices.Concat(goodImages(), allOf(2, 5), allOf(5, 2), allOf(3, 4), allOf(4, 3), greatImages())
}

// greatImages returns images of SideMax rows and columns without order.
func greatImages() []impl.Image {
	var list []impl.Image
	number := numbersFrom(5)
	for range 40 {
		a := impl.Image{W: impl.SideMax}
		for range impl.SideMax {
			a.Rows = append(a.Rows, number(64))
		}
		list = append(list, a)
	}
	return list
}

// eachSwitch calls a function for each switch of these images, with the image that SwitchDo makes.
func eachSwitch(t *testing.T, visit func(a impl.Image, s impl.Switch, b impl.Image)) {
	t.Helper()
	many := 0
	for _, a := range switchImages() {
		for _, s := range switchesIn(a) {
			many++
			visit(a, s, does(t, a, s))
		}
	}
	if many < 10000 {
		t.Fatalf("there are %d switches only", many)
	}
}

// eachFour calls a function for all rows and columns of an image, in all orders, and those next to them outside.
func eachFour(a impl.Image, visit func(s impl.Switch)) {
	for i := -1; i <= len(a.Rows); i++ {
		for k := -1; k <= len(a.Rows); k++ {
			for j := -1; j <= a.W; j++ {
				for l := -1; l <= a.W; l++ {
					visit(switchOf(i, k, j, l))
				}
			}
		}
	}
}

// spoiledImages returns invalid images, most of which would have the switch of the first two rows and columns otherwise.
func spoiledImages() []impl.Image {
	six := []int{1, 2, 0, 0, 0, 0}
	return []impl.Image{
		{W: 2}, {W: 2, Rows: []int{}}, {W: 6, Rows: append(slices.Clone(six), 0)}, {W: 2, Rows: append(slices.Clone(six), 0)},
		rowsOf(0, 1, 2), rowsOf(-1, 1, 2), rowsOf(-2, 1, 2), rowsOf(impl.SideMax+1, 1, 2), rowsOf(64, 1, 2),
		rowsOf(math.MaxInt, 1, 2), rowsOf(math.MinInt, 1, 2), rowsOf(0, six...), rowsOf(impl.SideMax+1, six...),
		rowsOf(2, 1, 2, -1), rowsOf(2, -1, 2), rowsOf(2, -2, 1), rowsOf(2, 1, -2), rowsOf(2, -3, 2), rowsOf(2, 1, 2, math.MinInt),
		rowsOf(2, 1, 2, 4), rowsOf(2, 5, 2), rowsOf(2, 1, 6), rowsOf(2, 6, 1), rowsOf(2, 2, 5), rowsOf(2, 1, 2, math.MaxInt),
		rowsOf(6, 1, 2, 0, 0, 0, 64), rowsOf(6, 65, 2), rowsOf(6, 1, 66), rowsOf(6, 1, 2, 0, 0, 0, -1), rowsOf(1, 1, 2),
	}
}

// knownSwitches has texts of images with all of their switches, in order.
func knownSwitches() []struct {
	text string
	list []impl.Switch
} {
	return []struct {
		text string
		list []impl.Switch
	}{
		// One switch of each kind.
		{"#.\n.#\n", []impl.Switch{{A: 0, B: 1, C: 0, D: 1}}},
		{".#\n#.\n", []impl.Switch{{A: 0, B: 1, C: 0, D: 1}}},
		{"#..\n...\n..#\n", []impl.Switch{{A: 0, B: 2, C: 0, D: 2}}},
		{"...\n..#\n#..\n", []impl.Switch{{A: 1, B: 2, C: 0, D: 2}}},
		{"###\n#.#\n.##\n", []impl.Switch{{A: 1, B: 2, C: 0, D: 1}}},
		{"#.....\n......\n......\n......\n......\n.....#\n", []impl.Switch{{A: 0, B: 5, C: 0, D: 5}}},
		{".....#\n......\n......\n......\n......\n#.....\n", []impl.Switch{{A: 0, B: 5, C: 0, D: 5}}},
		{"######\n######\n######\n######\n####.#\n#####.\n", []impl.Switch{{A: 4, B: 5, C: 4, D: 5}}},
		// Several: in the order of A, then of B, then of C, then of D.
		{"##.\n..#\n", []impl.Switch{{A: 0, B: 1, C: 0, D: 2}, {A: 0, B: 1, C: 1, D: 2}}},
		{"#..\n.##\n", []impl.Switch{{A: 0, B: 1, C: 0, D: 1}, {A: 0, B: 1, C: 0, D: 2}}},
		{".#.\n#.#\n", []impl.Switch{{A: 0, B: 1, C: 0, D: 1}, {A: 0, B: 1, C: 1, D: 2}}},
		{"#.\n#.\n.#\n", []impl.Switch{{A: 0, B: 2, C: 0, D: 1}, {A: 1, B: 2, C: 0, D: 1}}},
		{"#.\n.#\n.#\n", []impl.Switch{{A: 0, B: 1, C: 0, D: 1}, {A: 0, B: 2, C: 0, D: 1}}},
		{"#..\n.#.\n..#\n", []impl.Switch{{A: 0, B: 1, C: 0, D: 1}, {A: 0, B: 2, C: 0, D: 2}, {A: 1, B: 2, C: 1, D: 2}}},
		{"..#\n.#.\n#..\n", []impl.Switch{{A: 0, B: 1, C: 1, D: 2}, {A: 0, B: 2, C: 0, D: 2}, {A: 1, B: 2, C: 0, D: 1}}},
		{".##.\n#..#\n", []impl.Switch{
			{A: 0, B: 1, C: 0, D: 1}, {A: 0, B: 1, C: 0, D: 2}, {A: 0, B: 1, C: 1, D: 3}, {A: 0, B: 1, C: 2, D: 3}}},
		{"#.\n.#\n#.\n.#\n", []impl.Switch{
			{A: 0, B: 1, C: 0, D: 1}, {A: 0, B: 3, C: 0, D: 1}, {A: 1, B: 2, C: 0, D: 1}, {A: 2, B: 3, C: 0, D: 1}}},
		{"#...\n....\n.#.#\n..#.\n", []impl.Switch{
			{A: 0, B: 2, C: 0, D: 1}, {A: 0, B: 2, C: 0, D: 3}, {A: 0, B: 3, C: 0, D: 2}, {A: 2, B: 3, C: 1, D: 2}, {A: 2, B: 3, C: 2, D: 3}}},
		// None: nested rows, equal ones, empty and full ones, and a single row or column.
		{"#.\n##\n", nil},
		{"##\n.#\n", nil},
		{"###\n##.\n#..\n...\n", nil},
		{"#.#\n...\n###\n..#\n", nil},
		{"#.#.\n#.#.\n#.#.\n", nil},
		{"......\n######\n.#.##.\n######\n......\n.#....\n", nil},
		{"...\n...\n", nil},
		{"###\n###\n", nil},
		{"#\n", nil},
		{".\n", nil},
		{"#.#.#.\n", nil},
		{"#\n.\n#\n.\n#\n.\n", nil},
		{"######\n#####.\n####..\n###...\n##....\n#.....\n", nil},
	}
}

// P59, P64, P68: known images, with one switch, with many, and with none.
func TestP59P64P68KnownSwitches(t *testing.T) {
	for _, c := range knownSwitches() {
		a := imageOf(t, c.text)
		lists(t, a, c.list)
		eachFour(a, func(s impl.Switch) {
			if slices.Contains(c.list, s) {
				switches(t, a, s, true)
			} else {
				noSwitch(t, a, s)
			}
		})
	}
}

// P59: known images with a switch done.
func TestP59KnownSwitchDo(t *testing.T) {
	for _, c := range []struct {
		text string
		s    impl.Switch
		done string
	}{
		{"#.\n.#\n", switchOf(0, 1, 0, 1), ".#\n#.\n"},
		{".#\n#.\n", switchOf(0, 1, 0, 1), "#.\n.#\n"},
		{"##.\n..#\n", switchOf(0, 1, 0, 2), ".##\n#..\n"},
		{"##.\n..#\n", switchOf(0, 1, 1, 2), "#.#\n.#.\n"},
		{"#.#\n###\n.##\n", switchOf(0, 2, 0, 1), ".##\n###\n#.#\n"},
		{".....#\n######\n......\n......\n#.#.#.\n......\n", switchOf(0, 4, 2, 5), "..#...\n######\n......\n......\n#...##\n......\n"},
	} {
		if text := impl.ImageText(does(t, imageOf(t, c.text), c.s)); text != c.done {
			t.Errorf("SwitchDo of %q and %v is %q", c.text, c.s, text)
		}
	}
}

// P59: a switch leads to another image with the same sums, in which four cells are different.
func TestP59SwitchDo(t *testing.T) {
	eachSwitch(t, func(a impl.Image, s impl.Switch, b impl.Image) {
		if !impl.SumsSame(a, b) || !slices.Equal(rowSumsOf(a), rowSumsOf(b)) || !slices.Equal(colSumsOf(a), colSumsOf(b)) {
			t.Fatalf("SwitchDo of %v and %v is %v, with other sums", a, s, b)
		}
		if differing(a, b) != 4 {
			t.Fatalf("SwitchDo of %v and %v is %v: %d cells are different", a, s, b, differing(a, b))
		}
	})
}

// P60: the switch is one of the result, and doing it there leads to the image.
func TestP60SwitchDoTwice(t *testing.T) {
	eachSwitch(t, func(a impl.Image, s impl.Switch, b impl.Image) {
		switches(t, b, s, true)
		if !slices.Contains(impl.SwitchList(b), s) {
			t.Fatalf("%v is not in SwitchList of %v", s, b)
		}
		if c := does(t, b, s); !sameImage(c, a) {
			t.Fatalf("SwitchDo of %v and %v, twice, is %v", a, s, c)
		}
	})
}

// P61: a cell changes exactly if its row is one of both and its column is one of both.
func TestP61CellsOfSwitch(t *testing.T) {
	eachSwitch(t, func(a impl.Image, s impl.Switch, b impl.Image) {
		if !sameImage(b, switchedAt(a, s)) {
			t.Fatalf("SwitchDo of %v and %v is %v", a, s, b)
		}
		eachCell(a, func(i, j int) {
			if (cellOf(a, i, j) != cellOf(b, i, j)) != ((i == s.A || i == s.B) && (j == s.C || j == s.D)) {
				t.Fatalf("SwitchDo of %v and %v is %v: see the cell (%d, %d)", a, s, b, i, j)
			}
		})
	})
}

// P61: what is no switch is not done: rows or columns that do not ascend, or are not there, and four cells with other sums.
func TestP61NoSwitch(t *testing.T) {
	for n, a := range switchImages() {
		if len(a.Rows)*a.W > 9 && n%7 != 0 {
			continue
		}
		eachFour(a, func(s impl.Switch) {
			if isSwitch(a, s) {
				switches(t, a, s, true)
			} else {
				noSwitch(t, a, s)
			}
		})
	}
}

// P61: each of the numbers of a switch, far outside.
func TestP61FarOutside(t *testing.T) {
	for _, text := range []string{"#.\n.#\n", "#.#.#.\n.#.#.#\n#.#.#.\n.#.#.#\n#.#.#.\n.#.#.#\n", "#\n", "######\n"} {
		a := imageOf(t, text)
		for _, n := range []int{-64, -63, -2, -1, impl.SideMax, impl.SideMax + 1, 31, 32, 63, 64, 65, 1 << 32, math.MaxInt, math.MinInt} {
			for _, s := range []impl.Switch{
				switchOf(n, 1, 0, 1), switchOf(0, n, 0, 1), switchOf(0, 1, n, 1), switchOf(0, 1, 0, n),
				switchOf(n, n, 0, 1), switchOf(0, 1, n, n), switchOf(n, n+1, 0, 1), switchOf(0, 1, n, n+1), switchOf(n, n, n, n),
			} {
				noSwitch(t, a, s)
			}
		}
	}
}

// P61: the four cells with all sums that they can have: two of the sixteen ways are a switch.
func TestP61FourCells(t *testing.T) {
	for _, c := range []struct{ i, k, j, l int }{{0, 1, 0, 1}, {0, 5, 0, 5}, {2, 4, 1, 3}, {4, 5, 4, 5}, {0, 1, 4, 5}} {
		for n := range 16 {
			for _, rest := range []int{0, 63} {
				a := rowsOf(6, fullOf(6, rest)...)
				for at, cell := range [][2]int{{c.i, c.j}, {c.i, c.l}, {c.k, c.j}, {c.k, c.l}} {
					if set := n/pow(at)%2 == 1; cellOf(a, cell[0], cell[1]) != set {
						a = flipped(a, cell[0], cell[1])
					}
				}
				s := switchOf(c.i, c.k, c.j, c.l)
				if n == 6 || n == 9 {
					does(t, a, s)
				} else {
					noSwitch(t, a, s)
				}
				noSwitch(t, a, switchOf(c.k, c.i, c.j, c.l))
				noSwitch(t, a, switchOf(c.i, c.k, c.l, c.j))
				noSwitch(t, a, switchOf(c.k, c.i, c.l, c.j))
			}
		}
	}
}

// P59, P64, P66, P68: an invalid image has no switches.
func TestP59P64P66P68InvalidImages(t *testing.T) {
	for _, a := range slices.Concat(badImages(), spoiledImages()) {
		if impl.ImageValid(a) {
			t.Fatalf("%v is valid", a)
		}
		for _, s := range []impl.Switch{{}, switchOf(0, 1, 0, 1), switchOf(0, 5, 0, 5), switchOf(4, 5, 4, 5), switchOf(0, 1, 62, 63),
			switchOf(0, 6, 0, 6), switchOf(0, 1, -1, 0), switchOf(-1, 0, 0, 1), switchOf(math.MinInt, math.MaxInt, math.MinInt, math.MaxInt)} {
			noSwitch(t, a, s)
		}
		keeps(t, a, func() {
			if list, many := impl.SwitchList(a), impl.SwitchMany(a); len(list) != 0 || many != -1 {
				t.Fatalf("SwitchList of %v is %v, and SwitchMany %d", a, list, many)
			}
		})
		noFirst(t, a)
	}
}

// P62: a switch is one of the turned image, with rows and columns exchanged, and of the other image.
func TestP62SwitchOtherwise(t *testing.T) {
	must := get[impl.Image](t)
	eachSwitch(t, func(a impl.Image, s impl.Switch, b impl.Image) {
		turn, other := must(impl.ImageTurn(a)), must(impl.ImageOther(a))
		switches(t, turn, switchOf(s.C, s.D, s.A, s.B), true)
		switches(t, other, s, true)
		if c := does(t, turn, switchOf(s.C, s.D, s.A, s.B)); !sameImage(c, must(impl.ImageTurn(b))) {
			t.Fatalf("%v is done in the turned image of %v: %v", s, a, c)
		}
		if c := does(t, other, s); !sameImage(c, must(impl.ImageOther(b))) {
			t.Fatalf("%v is done in the other image of %v: %v", s, a, c)
		}
	})
}

// P63: a switch is one of the mirrored image, with the mirrored columns.
func TestP63SwitchMirrored(t *testing.T) {
	must := get[impl.Image](t)
	eachSwitch(t, func(a impl.Image, s impl.Switch, b impl.Image) {
		mirror, mirrored := must(impl.ImageMirror(a)), switchOf(s.A, s.B, a.W-1-s.D, a.W-1-s.C)
		switches(t, mirror, mirrored, true)
		if c := does(t, mirror, mirrored); !sameImage(c, must(impl.ImageMirror(b))) {
			t.Fatalf("%v is done in the mirrored image of %v: %v", mirrored, a, c)
		}
		noSwitch(t, mirror, switchOf(s.A, s.B, a.W-1-s.C, a.W-1-s.D))
	})
}

// comesFirst tells whether a switch comes ahead of another one: by A, then by B, then by C, then by D.
func comesFirst(s impl.Switch, other impl.Switch) bool {
	return slices.Compare([]int{s.A, s.B, s.C, s.D}, []int{other.A, other.B, other.C, other.D}) < 0
}

// P64: SwitchList ascends, SwitchOk holds for each of its switches, and there are SwitchMany.
func TestP64SwitchList(t *testing.T) {
	for _, a := range switchImages() {
		lists(t, a, switchesIn(a))
		list := impl.SwitchList(a)
		for k, s := range list {
			if k > 0 && !comesFirst(list[k-1], s) {
				t.Fatalf("SwitchList of %v has %v ahead of %v", a, list[k-1], s)
			}
			switches(t, a, s, true)
		}
	}
}

// P65: a switch of any two rows and two columns is in SwitchList exactly if SwitchOk holds.
func TestP65SwitchListHas(t *testing.T) {
	for n, a := range switchImages() {
		if len(a.Rows)*a.W > 9 && n%7 != 0 {
			continue
		}
		list := impl.SwitchList(a)
		many := 0
		eachFour(a, func(s impl.Switch) {
			if impl.SwitchOk(a, s) != slices.Contains(list, s) {
				t.Fatalf("SwitchOk of %v and %v is %v, and SwitchList %v", a, s, impl.SwitchOk(a, s), list)
			}
			if impl.SwitchOk(a, s) {
				many++
			}
		})
		if many != len(list) {
			t.Fatalf("SwitchList of %v is %v, and SwitchOk holds for %d switches", a, list, many)
		}
	}
}

// P66: the turned, mirrored and other image have as many switches.
func TestP66SwitchManyOtherwise(t *testing.T) {
	for _, a := range switchImages() {
		many := impl.SwitchMany(a)
		for name, change := range map[string]func(impl.Image) (impl.Image, bool){
			"ImageTurn": impl.ImageTurn, "ImageMirror": impl.ImageMirror, "ImageOther": impl.ImageOther,
		} {
			if n := impl.SwitchMany(get[impl.Image](t)(change(a))); n != many {
				t.Fatalf("SwitchMany of %v is %d, and of %s %d", a, many, name, n)
			}
		}
	}
}

// P67: SwitchMany is, over all pairs of rows, the number of columns that only the first one has set times that of the second one.
func TestP67SwitchMany(t *testing.T) {
	for _, a := range switchImages() {
		total := 0
		for i := range a.Rows {
			for k := range i {
				only := [2]int{}
				for j := range a.W {
					if cellOf(a, i, j) && !cellOf(a, k, j) {
						only[0]++
					}
					if cellOf(a, k, j) && !cellOf(a, i, j) {
						only[1]++
					}
				}
				total += only[0] * only[1]
			}
		}
		if many := impl.SwitchMany(a); many != total {
			t.Fatalf("SwitchMany of %v is %d instead of %d", a, many, total)
		}
	}
}

// P67: known numbers of switches, the greatest ones among them.
func TestP67KnownMany(t *testing.T) {
	for _, c := range []struct {
		a    impl.Image
		many int
	}{
		{rowsOf(2, 1, 2), 1},
		{rowsOf(2, 1, 3), 0},
		{rowsOf(6, 7, 56), 9},
		{rowsOf(6, 1, 62), 5},
		{rowsOf(6, 3, 60), 8},
		{rowsOf(2, 1, 1, 1, 2, 2, 2), 9},
		{rowsOf(6, 7, 7, 7, 56, 56, 56), 81},
		{rowsOf(6, 1, 2, 4, 8, 16, 32), 15},
		{rowsOf(6, 62, 61, 59, 55, 47, 31), 15},
		{rowsOf(6, 21, 42, 21, 42, 21, 42), 81},
		{rowsOf(6, 1, 3, 7, 15, 31, 63), 0},
		{rowsOf(6, 63, 0, 63, 0, 63, 0), 0},
	} {
		if many := impl.SwitchMany(c.a); many != c.many {
			t.Errorf("SwitchMany of %v is %d instead of %d", c.a, many, c.many)
		}
	}
}

// P68: SwitchFirst is SwitchDo of the first one of SwitchList, and fails if there is none.
func TestP68SwitchFirst(t *testing.T) {
	fails, succeeds := 0, 0
	for _, a := range switchImages() {
		list := impl.SwitchList(a)
		if len(list) == 0 {
			fails++
			noFirst(t, a)
			continue
		}
		succeeds++
		if b, ok := impl.SwitchFirst(a); !ok || !sameImage(b, does(t, a, list[0])) {
			t.Fatalf("SwitchFirst of %v returned %v, %v", a, b, ok)
		}
	}
	if fails < 500 || succeeds < 1000 {
		t.Errorf("SwitchFirst fails for %d images and succeeds for %d", fails, succeeds)
	}
}

// P69: BuildNested has no switch, nor has it with the columns mirrored.
func TestP69NestedHasNone(t *testing.T) {
	eachNested(t, func(_ []int, _ int, a impl.Image) {
		b := get[impl.Image](t)(impl.ImageMirror(a))
		if many, mirrored := impl.SwitchMany(a), impl.SwitchMany(b); many != 0 || mirrored != 0 {
			t.Fatalf("SwitchMany of %v is %d, and mirrored %d", a, many, mirrored)
		}
	})
}

// P69: of rows of which each has all set cells of the next one, in any order of rows and columns, there is no switch.
func TestP69NestedRows(t *testing.T) {
	for n, cols := range ordersOf([]int{0, 1, 2, 3, 4, 5}) {
		for _, sums := range [][]int{{6, 5, 4, 3, 2, 1}, {5, 4, 3, 2, 1, 0}, {6, 6, 3, 3, 0, 0}, {4, 4, 4, 4, 4, 4}, {6, 3}, {0}} {
			a := impl.Image{W: impl.SideMax}
			for _, sum := range mixed(sums, n) {
				row := 0
				for _, j := range cols[:sum] {
					row += pow(j)
				}
				a.Rows = append(a.Rows, row)
			}
			lists(t, a, nil)
		}
	}
}

// P70: two switches without a common row are the same in both orders.
func TestP70TwoSwitches(t *testing.T) {
	last, common := 0, 0
	eachSwitch(t, func(a impl.Image, s impl.Switch, b impl.Image) {
		list := impl.SwitchList(b)
		for k, next := range list {
			if next.A == s.A || next.A == s.B || next.B == s.A || next.B == s.B {
				continue
			}
			if k == len(list)-1 {
				last++
			}
			if next.C == s.C || next.D == s.D {
				common++
			}
			first, second := does(t, b, next), does(t, does(t, a, next), s)
			if !sameImage(first, second) {
				t.Fatalf("%v and %v of %v are %v, and in the other order %v", s, next, a, first, second)
			}
		}
	})
	if last < 1000 || common < 1000 {
		t.Errorf("there are %d such pairs with the last switch, and %d with a common column", last, common)
	}
}

// P71: an image of one row or one column has no switch.
func TestP71OneRowOrColumn(t *testing.T) {
	for n := 1; n <= impl.SideMax; n++ {
		for _, a := range slices.Concat(allOf(1, n), allOf(n, 1)) {
			lists(t, a, nil)
			eachFour(a, func(s impl.Switch) { noSwitch(t, a, s) })
		}
	}
}

// P71: there are at most as many switches as the product of the squares of height and width, divided by 4.
func TestP71SwitchManyBound(t *testing.T) {
	for _, a := range switchImages() {
		h, w := len(a.Rows), a.W
		if many := impl.SwitchMany(a); many < 0 || 4*many > h*h*w*w {
			t.Fatalf("SwitchMany of %v is %d", a, many)
		}
	}
}

// P72: both rows are different, and so are both columns, and the numbers of both have the same sum as before.
func TestP72RowsAndColumns(t *testing.T) {
	turn := get[impl.Image](t)
	eachSwitch(t, func(a impl.Image, s impl.Switch, b impl.Image) {
		for _, c := range []struct {
			a, b          impl.Image
			first, second int
		}{{a, b, s.A, s.B}, {turn(impl.ImageTurn(a)), turn(impl.ImageTurn(b)), s.C, s.D}} {
			if c.a.Rows[c.first] == c.a.Rows[c.second] || c.b.Rows[c.first] == c.b.Rows[c.second] {
				t.Fatalf("SwitchDo of %v and %v is %v: two lines are equal", a, s, b)
			}
			if c.a.Rows[c.first]+c.a.Rows[c.second] != c.b.Rows[c.first]+c.b.Rows[c.second] {
				t.Fatalf("SwitchDo of %v and %v is %v: two lines have another sum", a, s, b)
			}
		}
	})
}

// General rule: the images that are returned share no memory with arguments and with each other, the capacity of slices included.
func TestSwitchDoSharesNoMemory(t *testing.T) {
	for name, change := range map[string]func(impl.Image) (impl.Image, bool){
		"SwitchDo":    func(a impl.Image) (impl.Image, bool) { return impl.SwitchDo(a, switchOf(0, 1, 0, 1)) },
		"SwitchFirst": impl.SwitchFirst,
	} {
		space := []int{1, 2, 3, 40, 41, 42}
		a := impl.Image{W: 2, Rows: space[:3]}
		first, second := get[impl.Image](t)(change(a)), get[impl.Image](t)(change(a))
		all := first.Rows[:cap(first.Rows)]
		for k := range all {
			all[k] = 99
		}
		if !slices.Equal(space, []int{1, 2, 3, 40, 41, 42}) || !sameImage(second, rowsOf(2, 2, 1, 3)) {
			t.Errorf("the result of %s shares memory", name)
		}
		if b := get[impl.Image](t)(change(a)); !sameImage(b, second) {
			t.Errorf("%s returned %v, and then %v", name, second, b)
		}
	}
}

// General rule: the lists of switches that are returned share no memory with each other.
func TestSwitchListSharesNoMemory(t *testing.T) {
	for _, c := range knownSwitches() {
		a := imageOf(t, c.text)
		first, second := impl.SwitchList(a), impl.SwitchList(a)
		all := first[:cap(first)]
		for k := range all {
			all[k] = switchOf(9, 9, 9, 9)
		}
		if !slices.Equal(second, c.list) || !slices.Equal(impl.SwitchList(a), c.list) {
			t.Errorf("SwitchList of %q shares memory", c.text)
		}
	}
}
