package tests

import (
	"math"
	"slices"
	"testing"

	"loop.example/discretetomography/impl"
)

// imagePair are two images.
type imagePair struct{ a, b impl.Image }

// turnedRound returns both images exchanged.
func (p imagePair) turnedRound() imagePair {
	return imagePair{p.b, p.a}
}

// shuffled returns the numbers from 0 on that are less than a given one, without order.
func shuffled(many int, number func(many int) int) []int {
	var list []int
	for n := range many {
		list = slices.Insert(list, number(n+1), n)
	}
	return list
}

// walkOf returns switches that can be done in a valid image one after the other, at most as many as told, and the image then.
func walkOf(a impl.Image, many int, number func(many int) int) ([]impl.Switch, impl.Image) {
	var list []impl.Switch
	for range many {
		all := switchesIn(a)
		if len(all) == 0 {
			break
		}
		s := all[number(len(all))]
		list, a = append(list, s), switchedAt(a, s)
	}
	return list, a
}

// ringPair returns two images with the same sums that differ in two neighboring columns of each of n rows, in a ring.
// Next to the ring, the cells are such that no switch of the first image makes the distance less, and several of the second one do.
// Rows and columns are without order. If there are two of each beside the ring, they have a switch of their own.
func ringPair(n int, side int, seed int) imagePair {
	number := numbersFrom(seed)
	rows, cols := shuffled(side, number), shuffled(side, number)
	p := imagePair{rowsOf(side, make([]int, side)...), rowsOf(side, make([]int, side)...)}
	for i := range side {
		for j := range side {
			first := number(2)
			second := first
			switch place := (j - i + n) % n; {
			case i >= n && j >= n && side == n+2:
				first = (i + j) % 2
				second = 1 - first
			case i >= n || j >= n:
			case place <= 1:
				first, second = 1-place, place
			case place == 2:
				first, second = 0, 0
			case place == n-1:
				first, second = 1, 1
			}
			p.a.Rows[rows[i]] += first * pow(cols[j])
			p.b.Rows[rows[i]] += second * pow(cols[j])
		}
	}
	return p
}

// ringPairs returns pairs of which the first image, but for a switch beside the ring, has no switch toward the other one.
func ringPairs() []imagePair {
	var list []imagePair
	for n := 4; n <= impl.SideMax; n++ {
		for side := n; side <= impl.SideMax; side++ {
			// Of the greatest rings, few need three switches of the second image.
			for seed := range pow(n + 2) {
				list = append(list, ringPair(n, side, 1000*n+seed))
			}
		}
	}
	return list
}

// sameSumsOf returns all pairs of images of a list that have the same sums, those of an image with itself among them.
func sameSumsOf(list []impl.Image) []imagePair {
	var pairs []imagePair
	groups := map[string][]impl.Image{}
	key := func(a impl.Image) string { return sumsText(rowSumsOf(a), colSumsOf(a)) }
	for _, a := range list {
		groups[key(a)] = append(groups[key(a)], a)
	}
	for _, a := range list {
		for _, b := range groups[key(a)] {
			pairs = append(pairs, imagePair{a, cloneOf(b)})
		}
	}
	return pairs
}

// someFrom returns each n-th pair of a list.
func someFrom(list []imagePair, n int) []imagePair {
	var some []imagePair
	for k := 0; k < len(list); k += n {
		some = append(some, list[k])
	}
	return some
}

// samePairs returns pairs with the same sums: equal images of all sizes, all pairs of at most 9 cells,
// many of 10 and 12 cells, pairs of all sizes that are some switches apart, and those of ringPairs in both orders.
func samePairs() []imagePair {
	var list []imagePair
	number := numbersFrom(11)
	for _, a := range slices.Concat(goodImages(), greatImages()) {
		list = append(list, imagePair{a, cloneOf(a)})
		if len(a.Rows)*a.W <= 9 {
			continue
		}
		for _, most := range []int{4, 10, 40} {
			_, b := walkOf(a, 1+number(most), number)
			list = append(list, imagePair{a, b})
		}
	}
	for h := 1; h <= impl.SideMax; h++ {
		for w := 1; w <= impl.SideMax && h*w <= 9; w++ {
			list = append(list, sameSumsOf(allOf(h, w))...)
		}
	}
	for _, all := range [][]impl.Image{allOf(2, 5), allOf(5, 2), allOf(3, 4), allOf(4, 3)} {
		list = append(list, someFrom(sameSumsOf(all), 11)...)
	}
	for _, p := range ringPairs() {
		list = append(list, p, p.turnedRound())
	}
	return list
}

// mixedPairs returns pairs of images of the same size, most of them with different sums.
func mixedPairs() []imagePair {
	var list []imagePair
	n := 0
	eachPair(func(a, b impl.Image) {
		if n++; n%17 == 0 {
			list = append(list, imagePair{a, b})
		}
	})
	for h := 1; h <= impl.SideMax; h++ {
		for w := 1; w <= impl.SideMax; w++ {
			some := someOf(h, w)
			for k, a := range some {
				list = append(list, imagePair{a, some[(k+1)%len(some)]}, imagePair{a, some[(k+7)%len(some)]})
			}
		}
	}
	return list
}

// towardOf returns the first switch of a valid image that leaves fewer cells that differ from another one of this size, and true,
// or false if there is none.
func towardOf(a impl.Image, b impl.Image) (impl.Switch, bool) {
	for _, s := range switchesIn(a) {
		if differing(switchedAt(a, s), b) < differing(a, b) {
			return s, true
		}
	}
	return impl.Switch{}, false
}

// pathOf returns the switches that lead from an image to one with the same sums, and how many of them were found in the first image.
func pathOf(t *testing.T, a impl.Image, b impl.Image) ([]impl.Switch, int) {
	t.Helper()
	var list, back []impl.Switch
	for !sameImage(a, b) {
		if s, ok := towardOf(a, b); ok {
			list, a = append(list, s), switchedAt(a, s)
		} else if s, ok := towardOf(b, a); ok {
			back, b = append(back, s), switchedAt(b, s)
		} else {
			t.Fatalf("there is no switch between %v and %v", a, b)
		}
	}
	slices.Reverse(back)
	return append(list, back...), len(list)
}

// backwardSwitches returns switches in the opposite order.
func backwardSwitches(list []impl.Switch) []impl.Switch {
	list = slices.Clone(list)
	slices.Reverse(list)
	return list
}

// distant tests ImageDistance of two images, and of both exchanged, and that they stay.
func distant(t *testing.T, a impl.Image, b impl.Image, want int) {
	t.Helper()
	for _, p := range []imagePair{{a, b}, {b, a}} {
		keepBoth(t, p, func() {
			if d := impl.ImageDistance(p.a, p.b); d != want {
				t.Fatalf("ImageDistance of %v and %v is %d instead of %d", p.a, p.b, d, want)
			}
		})
	}
}

// keepBoth tests that two images stay the same while a function is called.
func keepBoth(t *testing.T, p imagePair, call func()) {
	t.Helper()
	keeps(t, p.a, func() { keeps(t, p.b, call) })
}

// towards returns SwitchToward, which must not have failed, nor changed the images.
func towards(t *testing.T, a impl.Image, b impl.Image) impl.Switch {
	t.Helper()
	var s impl.Switch
	keepBoth(t, imagePair{a, b}, func() {
		var ok bool
		if s, ok = impl.SwitchToward(a, b); !ok {
			t.Fatalf("SwitchToward of %v and %v returned %v, %v", a, b, s, ok)
		}
	})
	return s
}

// noToward tests that SwitchToward fails with the zero value, and that the images stay.
func noToward(t *testing.T, a impl.Image, b impl.Image) {
	t.Helper()
	keepBoth(t, imagePair{a, b}, func() {
		if s, ok := impl.SwitchToward(a, b); ok || s != (impl.Switch{}) {
			t.Fatalf("SwitchToward of %v and %v returned %v, %v", a, b, s, ok)
		}
	})
}

// paths returns SwitchPath, which must not have failed, nor changed the images.
func paths(t *testing.T, a impl.Image, b impl.Image) []impl.Switch {
	t.Helper()
	var list []impl.Switch
	keepBoth(t, imagePair{a, b}, func() {
		var ok bool
		if list, ok = impl.SwitchPath(a, b); !ok {
			t.Fatalf("SwitchPath of %v and %v returned %v, %v", a, b, list, ok)
		}
	})
	return list
}

// noPath tests that SwitchPath fails without switches, and that the images stay.
func noPath(t *testing.T, a impl.Image, b impl.Image) {
	t.Helper()
	keepBoth(t, imagePair{a, b}, func() {
		if list, ok := impl.SwitchPath(a, b); ok || len(list) != 0 {
			t.Fatalf("SwitchPath of %v and %v returned %v, %v", a, b, list, ok)
		}
	})
}

// runs tests that SwitchRun leads from an image to another one, and that its arguments stay.
func runs(t *testing.T, a impl.Image, list []impl.Switch, want impl.Image) {
	t.Helper()
	old := slices.Clone(list)
	keeps(t, a, func() {
		if b, ok := impl.SwitchRun(a, list); !ok || !sameImage(b, want) {
			t.Fatalf("SwitchRun of %v and %v returned %v, %v instead of %v", a, list, b, ok, want)
		}
	})
	if !slices.Equal(list, old) {
		t.Fatalf("SwitchRun changed the switches %v to %v", old, list)
	}
}

// noRun tests that SwitchRun fails with the zero value, and that its arguments stay.
func noRun(t *testing.T, a impl.Image, list []impl.Switch) {
	t.Helper()
	old := slices.Clone(list)
	keeps(t, a, func() {
		if b, ok := impl.SwitchRun(a, list); ok || !zeroImage(b) {
			t.Fatalf("SwitchRun of %v and %v returned %v, %v", a, list, b, ok)
		}
	})
	if !slices.Equal(list, old) {
		t.Fatalf("SwitchRun changed the switches %v to %v", old, list)
	}
}

// knownPath has texts of two images with the same sums, their distance, and the path from the first one to the second one.
type knownPath struct {
	a, b     string
	distance int
	list     []impl.Switch
}

// knownPaths has paths of all kinds: of equal images, of one switch, and of many, all of them done in the first image.
func knownPaths() []knownPath {
	return []knownPath{
		// Equal images, with and without switches.
		{".\n", ".\n", 0, nil},
		{"#.\n.#\n", "#.\n.#\n", 0, nil},
		{"##.\n#..\n", "##.\n#..\n", 0, nil},
		{"#.#.#.\n.#.#.#\n#.#.#.\n.#.#.#\n#.#.#.\n.#.#.#\n", "#.#.#.\n.#.#.#\n#.#.#.\n.#.#.#\n#.#.#.\n.#.#.#\n", 0, nil},
		// One switch: the only one of the image, and one behind others.
		{"#.\n.#\n", ".#\n#.\n", 4, []impl.Switch{switchOf(0, 1, 0, 1)}},
		{"##.\n..#\n", "#.#\n.#.\n", 4, []impl.Switch{switchOf(0, 1, 1, 2)}},
		{"#...\n.#..\n..#.\n...#\n", "#...\n.#..\n...#\n..#.\n", 4, []impl.Switch{switchOf(2, 3, 2, 3)}},
		{"......\n.....#\n......\n......\n......\n#.....\n", "......\n#.....\n......\n......\n......\n.....#\n", 4, []impl.Switch{switchOf(1, 5, 0, 5)}},
		// Two: the first one leaves 4 cells, of 6 and of 8.
		{"#..\n.#.\n..#\n", ".#.\n..#\n#..\n", 6, []impl.Switch{switchOf(0, 1, 0, 1), switchOf(1, 2, 0, 2)}},
		{"#..\n.#.\n..#\n", "..#\n#..\n.#.\n", 6, []impl.Switch{switchOf(0, 1, 0, 1), switchOf(0, 2, 1, 2)}},
		{"#.#.\n.#.#\n", ".#.#\n#.#.\n", 8, []impl.Switch{switchOf(0, 1, 0, 1), switchOf(0, 1, 2, 3)}},
		// Many.
		{"#.#.#.\n.#.#.#\n#.#.#.\n.#.#.#\n#.#.#.\n.#.#.#\n", ".#.#.#\n#.#.#.\n.#.#.#\n#.#.#.\n.#.#.#\n#.#.#.\n", 36, []impl.Switch{
			switchOf(0, 1, 0, 1), switchOf(0, 1, 2, 3), switchOf(0, 1, 4, 5), switchOf(2, 3, 0, 1), switchOf(2, 3, 2, 3),
			switchOf(2, 3, 4, 5), switchOf(4, 5, 0, 1), switchOf(4, 5, 2, 3), switchOf(4, 5, 4, 5)}},
		{"#.....\n.#....\n..#...\n...#..\n....#.\n.....#\n", ".....#\n....#.\n...#..\n..#...\n.#....\n#.....\n", 12, []impl.Switch{
			switchOf(0, 5, 0, 5), switchOf(1, 4, 1, 4), switchOf(2, 3, 2, 3)}},
		{"#.....\n.#....\n..#...\n...#..\n....#.\n.....#\n", ".#....\n..#...\n...#..\n....#.\n.....#\n#.....\n", 12, []impl.Switch{
			switchOf(0, 1, 0, 1), switchOf(1, 2, 0, 2), switchOf(2, 3, 0, 3), switchOf(3, 4, 0, 4), switchOf(4, 5, 0, 5)}},
	}
}

// knownBackPaths has paths of which the last switches are done in the second image, with the number of these, from the last one on.
func knownBackPaths() []struct {
	knownPath
	back int
} {
	return []struct {
		knownPath
		back int
	}{
		{knownPath{".##.\n##..\n..##\n#..#\n", "#.#.\n.#.#\n.#.#\n#.#.\n", 8,
			[]impl.Switch{switchOf(1, 2, 1, 2), switchOf(1, 3, 2, 3), switchOf(0, 1, 0, 1)}}, 1},
		{knownPath{"#...#\n#.#.#\n...##\n.###.\n###..\n", "..#.#\n##..#\n#..#.\n.##.#\n#.##.\n", 10,
			[]impl.Switch{switchOf(2, 3, 1, 4), switchOf(3, 4, 1, 3), switchOf(1, 2, 0, 1), switchOf(0, 1, 0, 2)}}, 2},
		{knownPath{"#.#.##\n##..#.\n#....#\n###..#\n.#.#.#\n...##.\n", "##..##\n.#..##\n#.#...\n#.##.#\n.#..##\n#..#..\n", 12,
			[]impl.Switch{switchOf(1, 2, 1, 5), switchOf(3, 4, 0, 3), switchOf(4, 5, 0, 4), switchOf(1, 3, 0, 1), switchOf(0, 2, 1, 2)}}, 2},
		{knownPath{".###..\n.##..#\n#.###.\n.####.\n.#...#\n#...##\n", ".##.#.\n.#.#.#\n..####\n####..\n..#..#\n##..#.\n", 12,
			[]impl.Switch{switchOf(2, 4, 1, 2), switchOf(2, 5, 1, 5), switchOf(0, 2, 0, 2), switchOf(0, 3, 0, 4), switchOf(0, 1, 2, 3)}}, 3},
		// A switch of the first image comes ahead of those of the second one.
		{knownPath{".##...\n##....\n..##..\n#..#..\n....#.\n.....#\n", "#.#...\n.#.#..\n.#.#..\n#.#...\n.....#\n....#.\n", 12,
			[]impl.Switch{switchOf(4, 5, 4, 5), switchOf(1, 2, 1, 2), switchOf(1, 3, 2, 3), switchOf(0, 1, 0, 1)}}, 1},
	}
}

// goes tests the path of two images with the same sums, and SwitchToward.
func goes(t *testing.T, a impl.Image, b impl.Image, distance int, list []impl.Switch) {
	t.Helper()
	same(t, a, b, true)
	distant(t, a, b, distance)
	if got := paths(t, a, b); !slices.Equal(got, list) {
		t.Fatalf("SwitchPath of %v and %v is %v instead of %v", a, b, got, list)
	}
	runs(t, a, list, b)
}

// P73, P79, P80: known paths of switches of the first image.
func TestP73P79P80KnownPaths(t *testing.T) {
	for _, c := range knownPaths() {
		a, b := imageOf(t, c.a), imageOf(t, c.b)
		goes(t, a, b, c.distance, c.list)
		if len(c.list) == 0 {
			noToward(t, a, b)
		} else if s := towards(t, a, b); s != c.list[0] {
			t.Fatalf("SwitchToward of %v and %v is %v instead of %v", a, b, s, c.list[0])
		}
	}
}

// P78, P79: known paths with switches of the second image behind those of the first one.
func TestP78P79KnownBackPaths(t *testing.T) {
	for _, c := range knownBackPaths() {
		a, b := imageOf(t, c.a), imageOf(t, c.b)
		goes(t, a, b, c.distance, c.list)
		if _, ok := towardOf(a, b); !ok {
			noToward(t, a, b)
			if s, last := towards(t, b, a), c.list[len(c.list)-1]; s != last {
				t.Fatalf("SwitchToward of %v and %v is %v instead of %v", b, a, s, last)
			}
		}
		if list, own := pathOf(t, a, b); !slices.Equal(list, c.list) || own != len(list)-c.back {
			t.Fatalf("the path of %v and %v is %v, with %d switches of the first image", a, b, list, own)
		}
		// With both images exchanged, the first one never lacks a switch.
		list, own := pathOf(t, b, a)
		if own != len(list) {
			t.Fatalf("the path of %v and %v is %v, with %d switches of the first image", b, a, list, own)
		}
		goes(t, b, a, c.distance, list)
	}
}

// P73: known distances of images with different sums.
func TestP73KnownDistances(t *testing.T) {
	for _, c := range []struct {
		a, b     string
		distance int
	}{
		{".\n", "#\n", 1},
		{"#.\n", ".#\n", 2},
		{"#\n.\n", ".\n#\n", 2},
		{"##\n..\n", "#.\n#.\n", 2},
		{"...\n...\n", "###\n###\n", 6},
		{"#.#\n.#.\n", "###\n...\n", 2},
		{"......\n", ".....#\n", 1},
		{"......\n......\n......\n......\n......\n......\n", "######\n######\n######\n######\n######\n######\n", 36},
		{"......\n......\n......\n......\n......\n......\n", "......\n......\n......\n......\n......\n.....#\n", 1},
		{"######\n......\n######\n......\n######\n......\n", "#.#.#.\n#.#.#.\n#.#.#.\n#.#.#.\n#.#.#.\n#.#.#.\n", 18},
	} {
		distant(t, imageOf(t, c.a), imageOf(t, c.b), c.distance)
	}
}

// P73: the distance of all pairs of small images: the same for both exchanged, 0 for equal ones only, at most the number of cells.
func TestP73ImageDistance(t *testing.T) {
	test := func(a impl.Image, b impl.Image) {
		d := impl.ImageDistance(a, b)
		if d != differing(a, b) || d != impl.ImageDistance(b, a) || (d == 0) != sameImage(a, b) || d > len(a.Rows)*a.W {
			t.Fatalf("ImageDistance of %v and %v is %d, and exchanged %d", a, b, d, impl.ImageDistance(b, a))
		}
	}
	eachPair(test)
	for _, p := range slices.Concat(mixedPairs(), samePairs()) {
		test(p.a, p.b)
	}
}

// P73, P76, P80: equal images of all sizes have the distance 0, no switch toward each other, and a path without switches.
func TestP73P76P80EqualImages(t *testing.T) {
	for _, a := range switchImages() {
		for _, b := range []impl.Image{a, cloneOf(a)} {
			distant(t, a, b, 0)
			noToward(t, a, b)
			if list := paths(t, a, b); len(list) != 0 {
				t.Fatalf("SwitchPath of %v and itself is %v", a, list)
			}
		}
	}
}

// unlike tests that two images, in both orders, have no distance, no switch toward each other, and no path.
func unlike(t *testing.T, a impl.Image, b impl.Image) {
	t.Helper()
	distant(t, a, b, -1)
	for _, p := range []imagePair{{a, b}, {b, a}} {
		noToward(t, p.a, p.b)
		noPath(t, p.a, p.b)
	}
}

// P73, P76, P81: images of different widths or heights.
func TestP73P76P81OtherSizes(t *testing.T) {
	var list []impl.Image
	for h := 1; h <= impl.SideMax; h++ {
		for w := 1; w <= impl.SideMax; w++ {
			full := pow(w) - 1
			list = append(list, rowsOf(w, fullOf(h, 0)...), rowsOf(w, fullOf(h, full)...), someOf(h, w)[2], someOf(h, w)[12])
		}
	}
	for _, a := range list {
		for _, b := range list {
			if a.W != b.W || len(a.Rows) != len(b.Rows) {
				unlike(t, a, b)
			}
		}
	}
	// The same rows, but for the width and rows of 0 behind them.
	a := rowsOf(2, 1, 2)
	for _, b := range []impl.Image{rowsOf(3, 1, 2), rowsOf(6, 1, 2), rowsOf(3, 2, 1), rowsOf(2, 1, 2, 0), rowsOf(2, 2, 1, 0), rowsOf(2, 1), rowsOf(2, 2),
		rowsOf(3, 1, 2, 0)} {
		unlike(t, a, b)
	}
}

// P73, P76, P81, P83: invalid images, as the first and as the second argument, and as both.
func TestP73P76P81P83InvalidImages(t *testing.T) {
	one := []impl.Switch{switchOf(0, 1, 0, 1)}
	for _, a := range slices.Concat(badImages(), spoiledImages()) {
		// The next valid image: with the width, the height and the rows brought into their ranges.
		h, w := min(max(len(a.Rows), 1), impl.SideMax), min(max(a.W, 1), impl.SideMax)
		near := rowsOf(w, fullOf(h, 0)...)
		for i := range min(h, len(a.Rows)) {
			near.Rows[i] = max(a.Rows[i], 0) % pow(w)
		}
		for _, b := range []impl.Image{near, rowsOf(w, fullOf(h, 0)...), rowsOf(2, 1, 2), rowsOf(2, 2, 1), rowsOf(6, 2, 1, 0, 0, 0, 0), rowsOf(1, 0), cloneOf(a), {},
			rowsOf(2, 4, 2), rowsOf(2, -1, 2), rowsOf(0, 1, 2)} {
			unlike(t, a, b)
		}
		// The same height or the same width, which may be out of their ranges.
		unlike(t, a, rowsOf(w, fullOf(len(a.Rows), 1)...))
		unlike(t, a, rowsOf(a.W, fullOf(h, 1)...))
		for _, list := range [][]impl.Switch{nil, {}, one, append(one, one...), {{}}} {
			noRun(t, a, list)
		}
	}
}

// P74: with one cell of the first image changed, the distance is 1 more or less; to ImageOther, it is the rest of all cells.
func TestP74DistanceOfOneCell(t *testing.T) {
	for _, p := range someFrom(slices.Concat(mixedPairs(), samePairs()), 5) {
		d := impl.ImageDistance(p.a, p.b)
		eachCell(p.a, func(i, j int) {
			want := d + 1
			if cellOf(p.a, i, j) != cellOf(p.b, i, j) {
				want = d - 1
			}
			if n := impl.ImageDistance(flipped(p.a, i, j), p.b); n != want {
				t.Fatalf("ImageDistance of %v and %v is %d, and with the cell (%d, %d) changed %d", p.a, p.b, d, i, j, n)
			}
		})
		distant(t, p.a, get[impl.Image](t)(impl.ImageOther(p.b)), len(p.a.Rows)*p.a.W-d)
		distant(t, get[impl.Image](t)(impl.ImageOther(p.a)), p.b, len(p.a.Rows)*p.a.W-d)
	}
}

// P75: the distance of images with the same sums is even, and not 2.
func TestP75DistanceEven(t *testing.T) {
	many := map[int]int{}
	for _, p := range samePairs() {
		d := impl.ImageDistance(p.a, p.b)
		if d < 0 || d%2 != 0 || d == 2 {
			t.Fatalf("ImageDistance of %v and %v is %d", p.a, p.b, d)
		}
		many[d]++
	}
	for _, d := range []int{0, 4, 6, 8, 10, 12, 14, 16} {
		if many[d] < 10 {
			t.Errorf("there are %d pairs with the distance %d only", many[d], d)
		}
	}
}

// P76, P77: SwitchToward is the first switch of the first image that makes the distance less, by 2 or 4.
func TestP76P77SwitchToward(t *testing.T) {
	less, ahead, fails := map[int]int{}, 0, 0
	for _, p := range slices.Concat(mixedPairs(), samePairs()) {
		want, ok := towardOf(p.a, p.b)
		if !ok {
			fails++
			noToward(t, p.a, p.b)
			continue
		}
		s := towards(t, p.a, p.b)
		if s != want {
			t.Fatalf("SwitchToward of %v and %v is %v instead of %v", p.a, p.b, s, want)
		}
		d := impl.ImageDistance(p.a, p.b)
		less[d-impl.ImageDistance(does(t, p.a, s), p.b)]++
		for _, other := range impl.SwitchList(p.a) {
			if other == s {
				break
			}
			ahead++
			if impl.ImageDistance(does(t, p.a, other), p.b) < d {
				t.Fatalf("SwitchToward of %v and %v is %v, and %v is ahead of it", p.a, p.b, s, other)
			}
		}
	}
	if len(less) != 2 || less[2] < 1000 || less[4] < 1000 || ahead < 1000 || fails < 1000 {
		t.Errorf("SwitchToward makes the distance less by %v; %d switches are ahead; it fails for %d pairs", less, ahead, fails)
	}
}

// P76, P81: SwitchToward of images with different sums, of which none has a path to the other one.
func TestP76P81OtherSums(t *testing.T) {
	for _, c := range []struct {
		a, b string
		s    impl.Switch
		ok   bool
	}{
		{"#.\n.#\n", ".#\n..\n", switchOf(0, 1, 0, 1), true},
		{"#.\n.#\n", "##\n#.\n", switchOf(0, 1, 0, 1), true},
		{"#.\n.#\n", "##\n##\n", impl.Switch{}, false},
		{"#.\n.#\n", "#.\n..\n", impl.Switch{}, false},
		{"#.\n.#\n", "#.\n#.\n", impl.Switch{}, false},
		{"#.#\n.#.\n", ".##\n##.\n", switchOf(0, 1, 0, 1), true},
		{"#.#\n.#.\n", ".##\n#.#\n", switchOf(0, 1, 0, 1), true},
		{"#.#\n.#.\n", "##.\n...\n", switchOf(0, 1, 1, 2), true},
		{"#.#\n.#.\n", "#..\n.##\n", impl.Switch{}, false},
		{"##.\n#..\n", "#..\n##.\n", impl.Switch{}, false},
		{"###\n...\n", "...\n###\n", impl.Switch{}, false},
		{"#\n.\n", ".\n#\n", impl.Switch{}, false},
		{"##....\n......\n......\n......\n......\n....##\n", "....##\n.#....\n......\n......\n......\n#.....\n", switchOf(0, 5, 0, 4), true},
	} {
		a, b := imageOf(t, c.a), imageOf(t, c.b)
		if s, ok := impl.SwitchToward(a, b); s != c.s || ok != c.ok {
			t.Errorf("SwitchToward of %q and %q returned %v, %v", c.a, c.b, s, ok)
		}
		noPath(t, a, b)
		noPath(t, b, a)
	}
}

// P76, P80: images without switches have none toward any other image, and a path to themselves alone.
func TestP76P80NoSwitches(t *testing.T) {
	for _, c := range knownSwitches() {
		if len(c.list) > 0 {
			continue
		}
		a := imageOf(t, c.text)
		if list := paths(t, a, cloneOf(a)); len(list) != 0 {
			t.Fatalf("SwitchPath of %v and itself is %v", a, list)
		}
		others := append(someOf(len(a.Rows), a.W), get[impl.Image](t)(impl.ImageMirror(a)), get[impl.Image](t)(impl.ImageOther(a)))
		for _, b := range others {
			noToward(t, a, b)
			if !sameImage(a, b) {
				noPath(t, a, b)
				noPath(t, b, a)
			}
		}
		runs(t, a, nil, a)
		eachFour(a, func(s impl.Switch) { noRun(t, a, []impl.Switch{s}) })
	}
}

// P78: of two different images with the same sums, one has a switch toward the other one; at times, only one has.
func TestP78SwitchToward(t *testing.T) {
	first, second, both := 0, 0, 0
	for _, p := range samePairs() {
		if sameImage(p.a, p.b) {
			noToward(t, p.a, p.b)
			continue
		}
		_, ok := impl.SwitchToward(p.a, p.b)
		_, back := impl.SwitchToward(p.b, p.a)
		switch {
		case ok && back:
			both++
		case ok:
			first++
		case back:
			second++
		default:
			t.Fatalf("SwitchToward of %v and %v fails, and for both exchanged", p.a, p.b)
		}
	}
	if first < 100 || second < 100 || both < 1000 {
		t.Errorf("only the first image has a switch for %d pairs, only the second one for %d, and both for %d", first, second, both)
	}
}

// P79: SwitchPath is found as the specification tells, and leads from the first image to the second one.
func TestP79SwitchPath(t *testing.T) {
	// By the number of switches that are done in the second image.
	many := map[int]int{}
	mixed := 0
	for _, p := range samePairs() {
		want, own := pathOf(t, p.a, p.b)
		goes(t, p.a, p.b, differing(p.a, p.b), want)
		many[len(want)-own]++
		if own > 0 && own < len(want) {
			mixed++
		}
	}
	if many[1] < 100 || many[2] < 20 || many[3] < 2 || mixed < 100 {
		t.Errorf("there are too few paths with switches of both images: %v, %d", many, mixed)
	}
}

// P79: two images in the same memory, and in memory that overlaps.
func TestP79SharedRows(t *testing.T) {
	space := []int{1, 2, 1, 2}
	a, b := impl.Image{W: 2, Rows: space[:2]}, impl.Image{W: 2, Rows: space[1:3]}
	goes(t, a, a, 0, nil)
	goes(t, a, b, 4, []impl.Switch{switchOf(0, 1, 0, 1)})
	goes(t, b, a, 4, []impl.Switch{switchOf(0, 1, 0, 1)})
	if !slices.Equal(space, []int{1, 2, 1, 2}) {
		t.Errorf("the rows were changed to %v", space)
	}
}

// P80: a path has at most half of the distance less 1 switches, and at least a quarter of it.
func TestP80LengthOfPath(t *testing.T) {
	least, most := 0, 0
	for _, p := range samePairs() {
		n, d := len(paths(t, p.a, p.b)), impl.ImageDistance(p.a, p.b)
		if d == 0 {
			if n != 0 {
				t.Fatalf("SwitchPath of %v and itself has %d switches", p.a, n)
			}
			continue
		}
		if n > d/2-1 || 4*n < d {
			t.Fatalf("SwitchPath of %v and %v has %d switches, for the distance %d", p.a, p.b, n, d)
		}
		if 4*n == d {
			least++
		}
		if n == d/2-1 {
			most++
		}
	}
	if least < 100 || most < 100 {
		t.Errorf("there are %d paths with the least and %d with the greatest number of switches", least, most)
	}
}

// P81: of all pairs of small images, those with the same sums have a path, and no others.
func TestP81SwitchPathAll(t *testing.T) {
	has, n := 0, 0
	test := func(a impl.Image, b impl.Image) {
		_, ok := impl.SwitchPath(a, b)
		want := slices.Equal(rowSumsOf(a), rowSumsOf(b)) && slices.Equal(colSumsOf(a), colSumsOf(b))
		if ok != want || ok != impl.SumsSame(a, b) {
			t.Fatalf("SwitchPath of %v and %v returned %v", a, b, ok)
		}
		n++
		if ok {
			has++
		} else if n%7 == 0 {
			noPath(t, a, b)
		}
	}
	eachPair(test)
	for _, p := range slices.Concat(mixedPairs(), samePairs()) {
		test(p.a, p.b)
	}
	if has < 5000 || n-has < 100000 {
		t.Errorf("%d of %d pairs have a path", has, n)
	}
}

// P81: with one cell of the second image changed, or two in a row or in a column, there is no path.
func TestP81OneSumOff(t *testing.T) {
	for _, p := range someFrom(samePairs(), 13) {
		eachCell(p.b, func(i, j int) {
			b := flipped(p.b, i, j)
			noPath(t, p.a, b)
			noPath(t, b, p.a)
			if j > 0 {
				noPath(t, p.a, flipped(b, i, j-1))
			}
			if i > 0 {
				noPath(t, p.a, flipped(b, i-1, j))
			}
		})
	}
}

// P82: the same switches in the opposite order lead from the second image to the first one.
func TestP82PathBackward(t *testing.T) {
	for _, p := range samePairs() {
		runs(t, p.b, backwardSwitches(paths(t, p.a, p.b)), p.a)
	}
}

// walk are switches that lead from an image to another one.
type walk struct {
	a    impl.Image
	list []impl.Switch
	b    impl.Image
}

// walks returns walks without order in images of all sizes: of no switch, of one, and of many.
func walks() []walk {
	var all []walk
	number := numbersFrom(3)
	for n, a := range switchImages() {
		if len(a.Rows)*a.W <= 12 && n%5 != 0 {
			continue
		}
		list, b := walkOf(a, n%9, number)
		all = append(all, walk{a, list, b})
	}
	return all
}

// P83: SwitchRun leads to an image with the same sums; it is that of the first switches, and of the others then.
func TestP83SwitchRun(t *testing.T) {
	many := map[int]int{}
	for _, w := range walks() {
		many[len(w.list)]++
		runs(t, w.a, w.list, w.b)
		same(t, w.a, w.b, true)
		for k := range len(w.list) + 1 {
			middle, ok := impl.SwitchRun(w.a, w.list[:k])
			if !ok {
				t.Fatalf("SwitchRun of %v and %v failed", w.a, w.list[:k])
			}
			runs(t, middle, w.list[k:], w.b)
		}
	}
	for n := range 9 {
		if many[n] < 20 {
			t.Errorf("there are %d runs of %d switches only", many[n], n)
		}
	}
}

// P83: no switches lead to the image itself.
func TestP83NoSwitches(t *testing.T) {
	for _, a := range switchImages() {
		runs(t, a, nil, a)
		runs(t, a, []impl.Switch{}, a)
	}
}

// P83: a run fails if one of its switches, in any place, is no switch of the image so far.
func TestP83NoSwitchSoFar(t *testing.T) {
	bad := []impl.Switch{{}, {A: 1, B: 0, C: 0, D: 1}, {A: 0, B: 1, C: 1, D: 0}, {A: 1, B: 0, C: 1, D: 0}, {A: -1, B: 0, C: 0, D: 1},
		{A: 0, B: impl.SideMax, C: 0, D: 1}, {A: 0, B: 1, C: 0, D: impl.SideMax}, {A: 0, B: 1, C: -1, D: 0},
		{A: 0, B: 1, C: 0, D: math.MaxInt}, {A: math.MinInt, B: math.MaxInt, C: math.MinInt, D: math.MaxInt}}
	for n, w := range walks() {
		for k := range len(w.list) + 1 {
			noRun(t, w.a, slices.Insert(slices.Clone(w.list), k, bad[(n+k)%len(bad)]))
			if k == len(w.list) {
				continue
			}
			noRun(t, w.a, slices.Replace(slices.Clone(w.list), k, k+1, bad[(n+k)%len(bad)]))
		}
		eachFour(w.b, func(s impl.Switch) {
			if n%10 == 0 && !isSwitch(w.b, s) {
				noRun(t, w.a, append(slices.Clone(w.list), s))
			}
		})
	}
}

// P83: known runs, of switches that the image itself has or has not, but the image so far has not or has.
func TestP83KnownRuns(t *testing.T) {
	for _, c := range []struct {
		text string
		list []impl.Switch
		want string
	}{
		{"#..\n.#.\n..#\n", []impl.Switch{switchOf(0, 1, 0, 1)}, ".#.\n#..\n..#\n"},
		{"#..\n.#.\n..#\n", []impl.Switch{switchOf(0, 1, 0, 1), switchOf(1, 2, 0, 2)}, ".#.\n..#\n#..\n"},
		{"#..\n.#.\n..#\n", []impl.Switch{switchOf(0, 1, 0, 1), switchOf(0, 2, 1, 2)}, "..#\n#..\n.#.\n"},
		{"#..\n.#.\n..#\n", []impl.Switch{switchOf(0, 1, 0, 1), switchOf(0, 1, 0, 1)}, "#..\n.#.\n..#\n"},
		{"#..\n.#.\n..#\n", []impl.Switch{switchOf(0, 1, 0, 1), switchOf(0, 1, 0, 1), switchOf(0, 1, 0, 1)}, ".#.\n#..\n..#\n"},
		{"#..\n.#.\n..#\n", []impl.Switch{switchOf(0, 1, 0, 1), switchOf(0, 2, 0, 2)}, ""},
		{"#..\n.#.\n..#\n", []impl.Switch{switchOf(0, 1, 0, 1), switchOf(1, 2, 1, 2)}, ""},
		{"#..\n.#.\n..#\n", []impl.Switch{switchOf(0, 2, 1, 2)}, ""},
		{"#..\n.#.\n..#\n", []impl.Switch{switchOf(0, 2, 1, 2), switchOf(0, 1, 0, 1)}, ""},
		{"#..\n.#.\n..#\n", []impl.Switch{switchOf(0, 1, 0, 1), switchOf(1, 2, 0, 1), switchOf(1, 2, 0, 2)}, ""},
		{"#\n", []impl.Switch{}, "#\n"},
		{"#\n", []impl.Switch{{}}, ""},
	} {
		if a := imageOf(t, c.text); c.want == "" {
			noRun(t, a, c.list)
		} else {
			runs(t, a, c.list, imageOf(t, c.want))
		}
	}
}

// P83: a very long run, and one that fails with its last switch.
func TestP83LongRun(t *testing.T) {
	a := imageOf(t, "#.#.#.\n.#.#.#\n#.#.#.\n.#.#.#\n#.#.#.\n.#.#.#\n")
	list, b := walkOf(a, 2000, numbersFrom(8))
	if len(list) != 2000 {
		t.Fatalf("there are %d switches only", len(list))
	}
	runs(t, a, list, b)
	noRun(t, a, append(list, switchOf(0, 0, 0, 0)))
}

// P84: the distance that a run makes is at most 4 times the number of its switches.
func TestP84DistanceOfRun(t *testing.T) {
	equal, less := 0, 0
	for _, w := range walks() {
		b := get[impl.Image](t)(impl.SwitchRun(w.a, w.list))
		switch d := impl.ImageDistance(w.a, b); {
		case d < 0 || d > 4*len(w.list):
			t.Fatalf("SwitchRun of %v and %v leads to %v, with the distance %d", w.a, w.list, b, d)
		case d == 4*len(w.list):
			equal++
		default:
			less++
		}
	}
	if equal < 100 || less < 100 {
		t.Errorf("%d runs make the greatest distance, and %d a lesser one", equal, less)
	}
}

// P85: the distance is at most that of both images to a third one together.
func TestP85ThirdImage(t *testing.T) {
	for _, list := range [][]impl.Image{allOf(1, 1), allOf(1, 4), allOf(4, 1), allOf(2, 2), allOf(2, 3), allOf(3, 2), someOf(4, 5), greatImages()} {
		for _, a := range list {
			for _, b := range list {
				d := impl.ImageDistance(a, b)
				for _, c := range list {
					if d < 0 || d > impl.ImageDistance(a, c)+impl.ImageDistance(c, b) {
						t.Fatalf("ImageDistance of %v and %v is %d, and over %v less", a, b, d, c)
					}
				}
			}
		}
	}
}

// P86: a path leads from each image to BuildImage of its sums.
func TestP86PathToBuilt(t *testing.T) {
	longest := 0
	for n, a := range switchImages() {
		if len(a.Rows)*a.W == 12 && n%5 != 0 {
			continue
		}
		rows, cols := rowSumsOf(a), colSumsOf(a)
		b := get[impl.Image](t)(impl.BuildImage(rows, cols))
		if !sameImage(b, columnsBuilt(rows, cols)) {
			t.Fatalf("BuildImage of %v and %v is %v", rows, cols, b)
		}
		list, _ := pathOf(t, a, b)
		goes(t, a, b, differing(a, b), list)
		runs(t, b, backwardSwitches(list), a)
		longest = max(longest, len(list))
	}
	if longest < 6 {
		t.Errorf("the longest path has %d switches only", longest)
	}
}

// P87: the switches with rows and columns exchanged lead from the first turned image to the second one.
func TestP87PathTurned(t *testing.T) {
	must := get[impl.Image](t)
	for _, p := range samePairs() {
		list := paths(t, p.a, p.b)
		for k, s := range list {
			list[k] = switchOf(s.C, s.D, s.A, s.B)
		}
		runs(t, must(impl.ImageTurn(p.a)), list, must(impl.ImageTurn(p.b)))
	}
}

// P88: the switches lead from ImageOther of the first image to that of the second one.
func TestP88PathOfOthers(t *testing.T) {
	must := get[impl.Image](t)
	for _, p := range samePairs() {
		runs(t, must(impl.ImageOther(p.a)), paths(t, p.a, p.b), must(impl.ImageOther(p.b)))
	}
}

// P89: doing switches, and then all of them in the opposite order, leads to the image.
func TestP89RunAndBack(t *testing.T) {
	for _, w := range walks() {
		back := backwardSwitches(w.list)
		runs(t, w.a, append(slices.Clone(w.list), back...), w.a)
		runs(t, get[impl.Image](t)(impl.SwitchRun(w.a, w.list)), back, w.a)
	}
}

// General rule: the images that SwitchRun returns share no memory with arguments and with each other, the capacity of slices included.
func TestSwitchRunSharesNoMemory(t *testing.T) {
	one := switchOf(0, 1, 0, 1)
	for _, list := range [][]impl.Switch{nil, {}, {one}, {one, one}, {one, one, one}} {
		space := []int{1, 2, 3, 40, 41, 42}
		a := impl.Image{W: 2, Rows: space[:3]}
		want := rowsOf(2, 1, 2, 3)
		if len(list)%2 == 1 {
			want = rowsOf(2, 2, 1, 3)
		}
		run := func() impl.Image { return get[impl.Image](t)(impl.SwitchRun(a, list)) }
		first, second := run(), run()
		all := first.Rows[:cap(first.Rows)]
		for k := range all {
			all[k] = 99
		}
		if !slices.Equal(space, []int{1, 2, 3, 40, 41, 42}) || !sameImage(second, want) || !sameImage(run(), want) {
			t.Errorf("the result of SwitchRun of %v shares memory", list)
		}
	}
}

// General rule: SwitchRun does not change its switches, nor what is behind them in memory.
func TestSwitchRunKeepsSwitches(t *testing.T) {
	one, other := switchOf(0, 1, 0, 1), switchOf(7, 8, 9, 10)
	space := []impl.Switch{one, one, one, other, other}
	get[impl.Image](t)(impl.SwitchRun(rowsOf(2, 1, 2), space[:3]))
	noRun(t, rowsOf(2, 1, 2), space[:4])
	if !slices.Equal(space, []impl.Switch{one, one, one, other, other}) {
		t.Errorf("SwitchRun changed the switches to %v", space)
	}
}

// General rule: the paths that SwitchPath returns share no memory with each other.
func TestSwitchPathSharesNoMemory(t *testing.T) {
	test := func(c knownPath) {
		a, b := imageOf(t, c.a), imageOf(t, c.b)
		first, second := paths(t, a, b), paths(t, a, b)
		all := first[:cap(first)]
		for k := range all {
			all[k] = switchOf(9, 9, 9, 9)
		}
		if !slices.Equal(second, c.list) || !slices.Equal(paths(t, a, b), c.list) {
			t.Errorf("SwitchPath of %q and %q shares memory", c.a, c.b)
		}
	}
	for _, c := range knownPaths() {
		test(c)
	}
	for _, c := range knownBackPaths() {
		test(c.knownPath)
	}
}
