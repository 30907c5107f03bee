package tests

import (
	"math"
	"slices"
	"testing"

	"loop.example/discretetomography/impl"
)

// listsOf returns all lists of at most a number of elements, each from low to high.
func listsOf(most int, low int, high int) [][]int {
	lists := [][]int{{}}
	for k := 0; k < len(lists); k++ {
		for n := low; n <= high && len(lists[k]) < most; n++ {
			lists = append(lists, append(slices.Clone(lists[k]), n))
		}
	}
	return lists
}

// isPartition tells whether a list is a partition.
func isPartition(list []int) bool {
	for i, n := range list {
		if n < 0 || n > impl.SideMax || i > 0 && n > list[i-1] {
			return false
		}
	}
	return len(list) <= impl.SideMax
}

// partitionsOf returns all partitions.
func partitionsOf() [][]int {
	lists := [][]int{{}}
	for k := 0; k < len(lists); k++ {
		p := lists[k]
		for n := 0; n <= impl.SideMax && len(p) < impl.SideMax; n++ {
			if len(p) == 0 || n <= p[len(p)-1] {
				lists = append(lists, append(slices.Clone(p), n))
			}
		}
	}
	return lists
}

// longLists returns lists that have too many elements, all of them in range and in descending order.
func longLists() [][]int {
	var lists [][]int
	for _, many := range []int{impl.SideMax + 1, impl.SideMax + 2, 2 * impl.SideMax, 100} {
		for n := range impl.SideMax + 1 {
			lists = append(lists, fullOf(many, n), withOne(fullOf(many, 0), 0, n))
		}
	}
	return append(lists, []int{6, 5, 4, 3, 2, 1, 0})
}

// beyondLists returns lists of at most SideMax elements that have one out of range, most of them in descending order.
func beyondLists() [][]int {
	var lists [][]int
	for many := 1; many <= impl.SideMax; many++ {
		for _, n := range []int{-1, -2, -7, impl.SideMax + 1, impl.SideMax + 2, 99, 1 << 32, math.MaxInt, math.MinInt} {
			for _, rest := range []int{0, 3, impl.SideMax} {
				lists = append(lists, withOne(fullOf(many, rest), 0, n), withOne(fullOf(many, rest), many-1, n))
			}
		}
	}
	return lists
}

// ascendingLists returns lists of elements in range that ascend somewhere.
func ascendingLists() [][]int {
	return [][]int{
		{0, 1}, {1, 2}, {5, 6}, {0, 6}, {1, 2, 3}, {0, 1, 2, 3, 4, 5}, {1, 2, 3, 4, 5, 6},
		{3, 1, 2}, {1, 3, 2}, {2, 1, 3}, {2, 3, 1}, {3, 0, 1}, {0, 0, 1}, {0, 1, 0}, {1, 1, 2}, {1, 2, 2},
		{6, 5, 4, 3, 1, 2}, {5, 6, 4, 3, 2, 1}, {6, 6, 6, 6, 5, 6}, {6, 6, 4, 5, 3, 3}, {0, 0, 0, 0, 0, 1}, {0, 1, 0, 0, 0, 0},
	}
}

// badPartitions returns lists that are not partitions.
func badPartitions() [][]int {
	return slices.Concat(longLists(), beyondLists(), ascendingLists())
}

// countOf returns for how many elements of a list a condition holds.
func countOf(list []int, holds func(n int) bool) int {
	many := 0
	for _, n := range list {
		if holds(n) {
			many++
		}
	}
	return many
}

// positiveOf returns the elements of a list that are not 0.
func positiveOf(list []int) []int {
	return slices.DeleteFunc(slices.Clone(list), func(n int) bool { return n == 0 })
}

// conjOf returns the conjugate of a partition with n elements.
func conjOf(p []int, n int) []int {
	q := make([]int, n)
	for k := range q {
		q[k] = countOf(p, func(element int) bool { return element >= k+1 })
	}
	return q
}

// isBelow tells whether a partition is below another one.
func isBelow(a []int, b []int) bool {
	most := max(len(a), len(b))
	a, b = append(slices.Clone(a), make([]int, most-len(a))...), append(slices.Clone(b), make([]int, most-len(b))...)
	for k := range most {
		if totalOf(a[:k]) > totalOf(b[:k]) {
			return false
		}
	}
	return totalOf(a) == totalOf(b)
}

// eachBelow calls a function for all pairs of partitions of which the first one is below the second one.
func eachBelow(t *testing.T, visit func(a []int, b []int)) {
	t.Helper()
	all := partitionsOf()
	pairs := 0
	for _, a := range all {
		for _, b := range all {
			if impl.PartBelow(a, b) {
				pairs++
				visit(a, b)
			}
		}
	}
	if pairs < len(all) {
		t.Fatalf("PartBelow holds for %d pairs of %d partitions", pairs, len(all))
	}
}

// below tests PartBelow of two lists, and that they stay.
func below(t *testing.T, a []int, b []int, want bool) {
	t.Helper()
	oldA, oldB := slices.Clone(a), slices.Clone(b)
	if impl.PartBelow(a, b) != want {
		t.Fatalf("PartBelow of %v and %v is %v", a, b, !want)
	}
	if !slices.Equal(a, oldA) || !slices.Equal(b, oldB) {
		t.Fatalf("PartBelow changed %v and %v to %v and %v", oldA, oldB, a, b)
	}
}

// conj returns PartConj, which must not have failed, nor changed its argument.
func conj(t *testing.T, p []int, n int) []int {
	t.Helper()
	before := slices.Clone(p)
	q, ok := impl.PartConj(p, n)
	if !ok {
		t.Fatalf("PartConj of %v with %d elements failed", p, n)
	}
	if !slices.Equal(p, before) {
		t.Fatalf("PartConj changed %v to %v", before, p)
	}
	return q
}

// eachConj calls a function for all partitions and numbers of elements that their conjugates can have.
func eachConj(t *testing.T, visit func(p []int, n int, q []int)) {
	t.Helper()
	for _, p := range partitionsOf() {
		for n := range impl.SideMax + 1 {
			if len(p) == 0 || p[0] <= n {
				visit(p, n, conj(t, p, n))
			}
		}
	}
}

// P28: which lists are partitions, of all lists of at most four elements from -1 to SideMax+1.
func TestP28PartValid(t *testing.T) {
	for _, list := range listsOf(4, -1, impl.SideMax+1) {
		if impl.PartValid(list) != isPartition(list) {
			t.Fatalf("PartValid of %v is %v", list, impl.PartValid(list))
		}
	}
	for _, list := range listsOf(impl.SideMax, 0, 3) {
		if impl.PartValid(list) != isPartition(list) {
			t.Fatalf("PartValid of %v is %v", list, impl.PartValid(list))
		}
	}
	for _, p := range partitionsOf() {
		before := slices.Clone(p)
		if !impl.PartValid(p) || !slices.Equal(p, before) {
			t.Fatalf("PartValid of %v is false, or changed it to %v", before, p)
		}
	}
	for _, list := range badPartitions() {
		if impl.PartValid(list) {
			t.Errorf("PartValid of %v is true", list)
		}
	}
	if !impl.PartValid(nil) || !impl.PartValid([]int{}) {
		t.Errorf("PartValid of the empty list is false")
	}
}

// P28: known lists in descending order.
func TestP28KnownPartitions(t *testing.T) {
	for _, c := range []struct{ list, p []int }{
		{nil, nil},
		{[]int{}, nil},
		{[]int{0}, []int{0}},
		{[]int{6}, []int{6}},
		{[]int{0, 0, 0}, []int{0, 0, 0}},
		{[]int{0, 1}, []int{1, 0}},
		{[]int{1, 0}, []int{1, 0}},
		{[]int{1, 3, 2}, []int{3, 2, 1}},
		{[]int{0, 4, 0, 4, 1}, []int{4, 4, 1, 0, 0}},
		{[]int{1, 2, 3, 4, 5, 6}, []int{6, 5, 4, 3, 2, 1}},
		{[]int{0, 6, 0, 6, 0, 6}, []int{6, 6, 6, 0, 0, 0}},
		{[]int{6, 6, 6, 6, 6, 6}, []int{6, 6, 6, 6, 6, 6}},
		{[]int{0, 0, 0, 0, 0, 0}, []int{0, 0, 0, 0, 0, 0}},
	} {
		if p, ok := impl.PartOf(c.list); !ok || !slices.Equal(p, c.p) {
			t.Errorf("PartOf of %v is %v, %v instead of %v", c.list, p, ok, c.p)
		}
	}
}

// P28, P29: the result is a partition with the same elements, wherever the list begins; the list stays.
func TestP28P29PartOf(t *testing.T) {
	for _, list := range listsOf(impl.SideMax, 0, impl.SideMax) {
		before := slices.Clone(list)
		p := get[[]int](t)(impl.PartOf(list))
		if !slices.Equal(list, before) {
			t.Fatalf("PartOf changed %v to %v", before, list)
		}
		if !isPartition(p) || !impl.PartValid(p) || len(p) != len(list) || totalOf(p) != totalOf(list) {
			t.Fatalf("PartOf of %v is %v", list, p)
		}
		for n := range impl.SideMax + 1 {
			is := func(element int) bool { return element == n }
			if countOf(p, is) != countOf(list, is) {
				t.Fatalf("PartOf of %v is %v, with another number of elements %d", list, p, n)
			}
		}
	}
}

// P28: moving first elements to the end leads to the same partition, and a partition to itself.
func TestP28PartOfMoved(t *testing.T) {
	for _, list := range listsOf(5, 0, 5) {
		p := get[[]int](t)(impl.PartOf(list))
		for k := range list {
			if moved := slices.Concat(list[k:], list[:k]); !slices.Equal(get[[]int](t)(impl.PartOf(moved)), p) {
				t.Fatalf("PartOf of %v is %v, but not that of %v", list, p, moved)
			}
		}
	}
	for _, p := range partitionsOf() {
		if !slices.Equal(get[[]int](t)(impl.PartOf(p)), p) || !slices.Equal(get[[]int](t)(impl.PartOf(backward(p))), p) {
			t.Fatalf("PartOf of the partition %v, or of it backward, is not this partition", p)
		}
	}
}

// P28, P29: PartOf fails for lists with too many elements, and for those with an element out of range.
func TestP28P29PartOfFails(t *testing.T) {
	for _, list := range slices.Concat(longLists(), beyondLists()) {
		if p, ok := impl.PartOf(list); ok || len(p) != 0 {
			t.Errorf("PartOf of %v is %v, %v", list, p, ok)
		}
	}
	for _, list := range listsOf(4, -1, impl.SideMax+1) {
		p, ok := impl.PartOf(list)
		if good := len(list) == 0 || slices.Min(list) >= 0 && slices.Max(list) <= impl.SideMax; ok != good || !ok && len(p) != 0 {
			t.Fatalf("PartOf of %v is %v, %v", list, p, ok)
		}
	}
}

// P30, P37: known conjugates.
func TestP30P37KnownConjugates(t *testing.T) {
	for _, c := range []struct {
		p []int
		n int
		q []int
	}{
		{nil, 0, nil},
		{nil, 1, []int{0}},
		{[]int{}, 6, []int{0, 0, 0, 0, 0, 0}},
		{[]int{0}, 0, nil},
		{[]int{0, 0, 0, 0, 0, 0}, 0, nil},
		{[]int{0, 0}, 3, []int{0, 0, 0}},
		{[]int{1}, 1, []int{1}},
		{[]int{1, 0}, 1, []int{1}},
		{[]int{3, 2, 1}, 3, []int{3, 2, 1}},
		{[]int{3, 2, 1}, 4, []int{3, 2, 1, 0}},
		{[]int{3, 3, 1, 0, 0}, 3, []int{3, 2, 2}},
		{[]int{4, 1}, 4, []int{2, 1, 1, 1}},
		{[]int{6}, 6, []int{1, 1, 1, 1, 1, 1}},
		{[]int{1, 1, 1, 1, 1, 1}, 1, []int{6}},
		{[]int{1, 1, 1, 1, 1, 1}, 6, []int{6, 0, 0, 0, 0, 0}},
		{[]int{6, 6, 6, 6, 6, 6}, 6, []int{6, 6, 6, 6, 6, 6}},
		{[]int{6, 0, 0, 0, 0, 0}, 6, []int{1, 1, 1, 1, 1, 1}},
		{[]int{6, 5, 4, 3, 2, 1}, 6, []int{6, 5, 4, 3, 2, 1}},
		{[]int{5, 5, 2, 2}, 6, []int{4, 4, 2, 2, 2, 0}},
	} {
		if q, ok := impl.PartConj(c.p, c.n); !ok || !slices.Equal(q, c.q) {
			t.Errorf("PartConj of %v with %d elements is %v, %v instead of %v", c.p, c.n, q, ok, c.q)
		}
	}
}

// P30: a conjugate is a partition with n elements and the same sum.
func TestP30PartConj(t *testing.T) {
	eachConj(t, func(p []int, n int, q []int) {
		if !slices.Equal(q, conjOf(p, n)) || !impl.PartValid(q) || len(q) != n || totalOf(q) != totalOf(p) {
			t.Fatalf("PartConj of %v with %d elements is %v", p, n, q)
		}
	})
}

// P30: PartConj fails for other lists, for n out of range, and where an element exceeds n.
func TestP30PartConjFails(t *testing.T) {
	fails := func(p []int, n int) {
		t.Helper()
		before := slices.Clone(p)
		if q, ok := impl.PartConj(p, n); ok || len(q) != 0 {
			t.Fatalf("PartConj of %v with %d elements is %v, %v", p, n, q, ok)
		}
		if !slices.Equal(p, before) {
			t.Fatalf("PartConj changed %v to %v", before, p)
		}
	}
	for _, p := range partitionsOf() {
		for _, n := range []int{-1, -2, impl.SideMax + 1, impl.SideMax + 2, 100, math.MaxInt, math.MinInt} {
			fails(p, n)
		}
		for n := 0; len(p) > 0 && n < p[0]; n++ {
			fails(p, n)
		}
	}
	for _, p := range badPartitions() {
		for n := -1; n <= impl.SideMax+1; n++ {
			fails(p, n)
		}
		fails(p, len(p))
		fails(p, math.MaxInt)
		fails(p, math.MinInt)
	}
	fails(nil, -1)
	fails(nil, impl.SideMax+1)
}

// P31: the conjugate of the conjugate is the partition.
func TestP31ConjugateTwice(t *testing.T) {
	eachConj(t, func(p []int, n int, q []int) {
		if back := conj(t, q, len(p)); !slices.Equal(back, p) {
			t.Fatalf("PartConj of %v with %d elements is %v, and of this %v", p, n, q, back)
		}
	})
}

// P32: the element k of the conjugate is at least i exactly if the element i of the partition is at least k.
func TestP32ConjugateElements(t *testing.T) {
	eachConj(t, func(p []int, n int, q []int) {
		for i := 1; i <= len(p); i++ {
			for k := 1; k <= n; k++ {
				if (q[k-1] >= i) != (p[i-1] >= k) {
					t.Fatalf("PartConj of %v with %d elements is %v", p, n, q)
				}
			}
		}
	})
}

// P33: PartSum does not decrease, and is the sum of all elements from their number on.
func TestP33PartSum(t *testing.T) {
	for _, p := range partitionsOf() {
		before := slices.Clone(p)
		for k := range impl.SideMax + 2 {
			if sum := impl.PartSum(p, k); sum != totalOf(p[:min(k, len(p))]) || impl.PartSum(p, k+1) < sum {
				t.Fatalf("PartSum of the first %d of %v is %d, and of one more %d", k, p, sum, impl.PartSum(p, k+1))
			}
		}
		for _, k := range []int{len(p), len(p) + 1, impl.SideMax, impl.SideMax + 1, 100, math.MaxInt} {
			if sum := impl.PartSum(p, k); sum != totalOf(p) {
				t.Fatalf("PartSum of the first %d of %v is %d", k, p, sum)
			}
		}
		if !slices.Equal(p, before) {
			t.Fatalf("PartSum changed %v to %v", before, p)
		}
	}
}

// P33: PartSum is -1 for other lists and for a negative k.
func TestP33PartSumFails(t *testing.T) {
	for _, p := range partitionsOf() {
		for _, k := range []int{-1, -2, -impl.SideMax, math.MinInt} {
			if sum := impl.PartSum(p, k); sum != -1 {
				t.Fatalf("PartSum of the first %d of %v is %d", k, p, sum)
			}
		}
	}
	for _, p := range badPartitions() {
		for _, k := range []int{-1, 0, 1, 2, impl.SideMax, impl.SideMax + 1, len(p), math.MaxInt, math.MinInt} {
			if sum := impl.PartSum(p, k); sum != -1 {
				t.Fatalf("PartSum of the first %d of %v is %d", k, p, sum)
			}
		}
	}
	if impl.PartSum(nil, -1) != -1 || impl.PartSum(nil, 0) != 0 || impl.PartSum(nil, 1) != 0 {
		t.Errorf("PartSum of the empty list is wrong")
	}
}

// P34: known pairs of which the first partition is below the second one, and is not.
func TestP34KnownBelow(t *testing.T) {
	for _, c := range []struct {
		a, b []int
		want bool
	}{
		{nil, nil, true},
		{nil, []int{}, true},
		{nil, []int{0}, true},
		{[]int{0}, nil, true},
		{[]int{0, 0, 0, 0, 0, 0}, nil, true},
		{nil, []int{1}, false},
		{[]int{1}, nil, false},
		{[]int{0}, []int{1}, false},
		{[]int{1}, []int{1, 0, 0}, true},
		{[]int{1, 0, 0}, []int{1}, true},
		{[]int{2, 2}, []int{3, 1}, true},
		{[]int{3, 1}, []int{2, 2}, false},
		{[]int{2, 2, 0, 0}, []int{3, 1}, true},
		{[]int{2, 2}, []int{3, 1, 0, 0}, true},
		{[]int{2, 1, 1}, []int{4}, true},
		{[]int{4}, []int{2, 1, 1}, false},
		{[]int{2, 2}, []int{3}, false},
		{[]int{2, 1}, []int{3, 1}, false},
		{[]int{3, 1}, []int{3}, false},
		{[]int{2, 1}, []int{2}, false},
		{[]int{2}, []int{2, 1}, false},
		{[]int{3, 3}, []int{4, 1, 1}, false},
		{[]int{4, 1, 1}, []int{3, 3}, false},
		{[]int{2, 2, 2}, []int{3, 1, 1, 1}, false},
		{[]int{3, 1, 1, 1}, []int{2, 2, 2}, false},
		{[]int{1, 1, 1, 1, 1, 1}, []int{6}, true},
		{[]int{6}, []int{1, 1, 1, 1, 1, 1}, false},
		{[]int{6, 6, 6, 6, 6, 5}, []int{6, 6, 6, 6, 6, 6}, false},
		{[]int{6, 6, 6, 6, 6, 6}, []int{6, 6, 6, 6, 6, 5}, false},
		{[]int{6, 6, 6, 6, 5, 5}, []int{6, 6, 6, 6, 6, 4}, true},
		{[]int{6, 6, 6, 6, 6, 4}, []int{6, 6, 6, 6, 5, 5}, false},
	} {
		below(t, c.a, c.b, c.want)
	}
}

// P34: PartBelow of all pairs of partitions with at most four elements, and of all others with the same sum.
func TestP34PartBelowAll(t *testing.T) {
	all := partitionsOf()
	for _, a := range all {
		for _, b := range all {
			if totalOf(a) == totalOf(b) || len(a) <= 4 && len(b) <= 4 {
				below(t, a, b, isBelow(a, b))
			}
		}
	}
}

// P34: both of two partitions are below the other one only if they are equal, but for zeros at the end.
func TestP34PartBelowBoth(t *testing.T) {
	eachBelow(t, func(a []int, b []int) {
		if impl.PartBelow(b, a) != slices.Equal(positiveOf(a), positiveOf(b)) {
			t.Fatalf("PartBelow of %v and %v is true, and exchanged %v", a, b, impl.PartBelow(b, a))
		}
	})
}

// P34: a partition is below itself, and it and the one without zeros at the end are below each other.
func TestP34PartBelowItself(t *testing.T) {
	for _, p := range partitionsOf() {
		below(t, p, p, true)
		for zeros := range impl.SideMax - len(positiveOf(p)) + 1 {
			other := append(positiveOf(p), make([]int, zeros)...)
			below(t, p, other, true)
			below(t, other, p, true)
		}
	}
}

// P34: lists that are no partitions are below none and not even themselves, and none is below them.
func TestP34PartBelowFails(t *testing.T) {
	all := partitionsOf()
	for _, bad := range badPartitions() {
		below(t, bad, bad, false)
		below(t, bad, nil, false)
		below(t, nil, bad, false)
		if p, ok := impl.PartOf(bad); ok {
			below(t, bad, p, false)
			below(t, p, bad, false)
		}
		if cut := bad[:min(len(bad), impl.SideMax)]; isPartition(cut) && len(cut) < len(bad) {
			below(t, bad, cut, false)
			below(t, cut, bad, false)
		}
		for k := 0; k < len(all); k += 7 {
			if totalOf(all[k]) == totalOf(bad) {
				below(t, bad, all[k], false)
				below(t, all[k], bad, false)
			}
		}
	}
}

// P35: the conjugates of two partitions are below each other the other way round.
func TestP35ConjugatesBelow(t *testing.T) {
	conjugates := func(p []int) []int { return get[[]int](t)(impl.PartConj(p, impl.SideMax)) }
	eachBelow(t, func(a []int, b []int) {
		if !impl.PartBelow(conjugates(b), conjugates(a)) {
			t.Fatalf("PartBelow of %v and %v is true, but not of the conjugates", a, b)
		}
	})
}

// P36: moving 1 from the last element that is not 0 to the first one leads to a partition that both are below.
func TestP36PartBelowMoved(t *testing.T) {
	moves := 0
	eachBelow(t, func(a []int, b []int) {
		last := len(positiveOf(b)) - 1
		if last < 1 || b[0] == impl.SideMax {
			return
		}
		moves++
		moved := withOne(withOne(b, 0, b[0]+1), last, b[last]-1)
		if !impl.PartBelow(a, moved) || !impl.PartBelow(b, moved) || impl.PartBelow(moved, b) {
			t.Fatalf("%v is below %v, and %v not as it must be", a, b, moved)
		}
	})
	if moves == 0 {
		t.Fatalf("there is no partition to move 1 in")
	}
}

// P37: the first element of each is the number of elements of the other one that are not 0.
func TestP37ConjugateFirst(t *testing.T) {
	eachConj(t, func(p []int, n int, q []int) {
		if n == 0 {
			return
		}
		first := 0
		if len(p) > 0 {
			first = p[0]
		}
		if q[0] != len(positiveOf(p)) || len(positiveOf(q)) != first {
			t.Fatalf("PartConj of %v with %d elements is %v", p, n, q)
		}
	})
}

// P38: one element more adds this element, and the sum of none is 0.
func TestP38PartSumSteps(t *testing.T) {
	for _, p := range partitionsOf() {
		if impl.PartSum(p, 0) != 0 {
			t.Fatalf("PartSum of the first 0 of %v is %d", p, impl.PartSum(p, 0))
		}
		for k, element := range p {
			if impl.PartSum(p, k+1) != impl.PartSum(p, k)+element {
				t.Fatalf("PartSum of the first %d of %v is %d, and of one more %d", k, p, impl.PartSum(p, k), impl.PartSum(p, k+1))
			}
		}
	}
}

// P39: the partition of elements 1 is below all of its sum, and all of these are below that of a single element.
func TestP39PartBelowEnds(t *testing.T) {
	met := make([]bool, impl.SideMax+1)
	eachBelow(t, func(a []int, b []int) {
		sum := totalOf(a)
		if sum > impl.SideMax {
			return
		}
		met[sum] = true
		ones, one := fullOf(sum, 1), []int{sum}
		if !impl.PartBelow(ones, a) || !impl.PartBelow(ones, b) || !impl.PartBelow(a, one) || !impl.PartBelow(b, one) {
			t.Fatalf("%v and %v are not between %v and %v", a, b, ones, one)
		}
	})
	if slices.Contains(met, false) {
		t.Fatalf("not all sums are there: %v", met)
	}
}

// General rule: results share no memory with arguments and with each other, the capacity of slices included.
func TestPartitionsShareNoMemory(t *testing.T) {
	results := []func(p []int) ([]int, bool){
		impl.PartOf,
		func(p []int) ([]int, bool) { return impl.PartConj(p, impl.SideMax) },
		func(p []int) ([]int, bool) { return impl.PartConj(p, p[0]) },
	}
	for _, result := range results {
		for _, p := range [][]int{{0}, {3, 2, 1}, {3, 0, 0}, {6, 6, 6, 6, 6, 6}, {4, 4, 1}, {1, 1, 1, 1, 1, 1}} {
			space := append(slices.Clone(p), 40, 41, 42)
			old := slices.Clone(space)
			list := space[:len(p)]
			first, second := get[[]int](t)(result(list)), get[[]int](t)(result(list))
			want := slices.Clone(second)
			all := first[:cap(first)]
			for k := range all {
				all[k] = 99
			}
			if !slices.Equal(space, old) || !slices.Equal(second, want) || !slices.Equal(get[[]int](t)(result(list)), want) {
				t.Errorf("a result of %v shares memory", p)
			}
		}
	}
}
