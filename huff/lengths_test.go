package huff_test

import (
	"math"
	"slices"
	"testing"

	"vignette/api"
	"vignette/huff"
)

const mostFrequency = 1 << 40

// cost is the sum of frequency times length.
func cost(freq []int, lens []uint8) int {
	sum := 0
	for i, f := range freq {
		sum += f * int(lens[i])
	}
	return sum
}

// ofKind tells whether lengths are of the kinds that Lengths may tell, by the chapter's words.
func ofKind(freq []int, limit int, lens []uint8) bool {
	if len(lens) != len(freq) {
		return false
	}
	above := 0
	for i, f := range freq {
		if f > 0 {
			above++
		}
		if (f == 0) != (lens[i] == 0) || int(lens[i]) > limit {
			return false
		}
	}
	if above == 1 {
		return slices.Max(lens) == 1
	}
	return makeCode(lens)
}

// leastOfAll is the least cost of lengths of these kinds: all lists of lengths are tried.
func leastOfAll(freq []int, limit int) int {
	least := -1
	for lens := range lists(len(freq), uint8(limit)) {
		if c := cost(freq, lens); ofKind(freq, limit, lens) && (least < 0 || c < least) {
			least = c
		}
	}
	return least
}

// leastOf is the least cost, by growing a tree row by row: an open place of a row takes the symbol that is most frequent
// of those left, or all open ones go on, with two places of the next row each, and each symbol left costs one bit more.
func leastOf(freq []int, limit int) int {
	l := slices.DeleteFunc(slices.Clone(freq), func(f int) bool { return f == 0 })
	if len(l) < 2 {
		return cost(l, []uint8{1})
	}
	slices.Sort(l)
	slices.Reverse(l)
	n := len(l)
	left := make([]int, n+1) // the frequencies from a symbol on
	for i := n - 1; i >= 0; i-- {
		left[i] = left[i+1] + l[i]
	}
	row := newRow(n)
	row[0][1] = 0
	least := never
	for range limit + 1 {
		next := newRow(n)
		for placed := range n {
			for open := 1; open <= n-placed; open++ {
				take(row, placed+1, open-1, row[placed][open])
				take(next, placed, 2*open, row[placed][open]+left[placed])
			}
		}
		least = min(least, row[n][0])
		row = next
	}
	return least
}

const never = math.MaxInt / 2

// newRow is what each count of placed symbols and of open places costs: nothing is known yet.
func newRow(n int) [][]int {
	row := make([][]int, n+1)
	for i := range row {
		row[i] = slices.Repeat([]int{never}, n+2)
	}
	return row
}

func take(row [][]int, placed, open, cost int) {
	if cost < never && placed < len(row) && open < len(row[placed]) {
		row[placed][open] = min(row[placed][open], cost)
	}
}

func mustLengths(t *testing.T, freq []int, limit int) []uint8 {
	t.Helper()
	lens, e := huff.Lengths(freq, limit)
	if e != api.OK || !ofKind(freq, limit, lens) {
		t.Fatalf("Lengths(%v, %d) is %v, %v", freq, limit, lens, e)
	}
	return lens
}

func wantLeast(t *testing.T, freq []int, limit int) {
	t.Helper()
	lens := mustLengths(t, freq, limit)
	if got, want := cost(freq, lens), leastOf(freq, limit); got != want {
		t.Fatalf("Lengths(%v, %d) is %v, which costs %d, not %d", freq, limit, lens, got, want)
	}
}

func refused(t *testing.T, freq []int, limit int, want api.Errno) {
	t.Helper()
	if lens, e := huff.Lengths(freq, limit); e != want || len(lens) != 0 {
		t.Errorf("Lengths of %d frequencies, %d, is %v, %v, not %v", len(freq), limit, lens, e, want)
	}
}

// P6.1

func TestLengthsOfTheExamples(t *testing.T) {
	for _, x := range []struct {
		freq  []int
		limit int
		want  []uint8
	}{
		{[]int{1, 1, 2, 4}, 15, []uint8{3, 3, 2, 1}},
		{[]int{1, 1, 2, 4}, 3, []uint8{3, 3, 2, 1}},
		{[]int{1, 1, 2, 4}, 2, []uint8{2, 2, 2, 2}},
		{[]int{0, 5}, 3, []uint8{0, 1}},
		{[]int{5, 0}, 1, []uint8{1, 0}},
		{[]int{0, 0, 1, 0, 9}, 1, []uint8{0, 0, 1, 0, 1}},
		{[]int{mostFrequency}, 15, []uint8{1}},
		{[]int{0, 0, 0}, 1, []uint8{0, 0, 0}},
		{nil, 1, nil},
		{[]int{}, 15, nil},
	} {
		if got := mustLengths(t, x.freq, x.limit); !slices.Equal(got, x.want) {
			t.Errorf("Lengths(%v, %d) is %v, not %v", x.freq, x.limit, got, x.want)
		}
	}
	refused(t, []int{1, 1, 1}, 1, api.ErrCode)
}

// TestLengthsOfShortLists tries all other lengths.
func TestLengthsOfShortLists(t *testing.T) {
	values := []int{0, 1, 2, 3, 5, 11}
	for n := range 5 {
		for picks := range lists(n, uint8(len(values)-1)) {
			freq := make([]int, n)
			for i, p := range picks {
				freq[i] = values[p]
			}
			for limit := 1; limit < 5; limit++ {
				want := leastOfAll(freq, limit)
				if want < 0 {
					refused(t, freq, limit, api.ErrCode)
					continue
				}
				lens := mustLengths(t, freq, limit)
				if got := cost(freq, lens); got != want || leastOf(freq, limit) != want {
					t.Fatalf("Lengths(%v, %d) is %v, which costs %d, not %d", freq, limit, lens, got, want)
				}
			}
		}
	}
}

// shapes are frequencies that make trees of many forms.
func shapes(n int) [][]int {
	s := numbers(n)
	var falling, even, steep, like, great, rare [320]int
	a, b := 1, 1
	for i := range n {
		falling[i] = n - i
		even[i] = 7
		steep[i] = min(a, mostFrequency)
		a, b = b, min(a+b, mostFrequency)
		like[i] = 1 << (i % 20)
		great[i] = mostFrequency - s.below(3)
		rare[i] = max(0, s.below(1000)-900)
	}
	return [][]int{falling[:n], even[:n], steep[:n], like[:n], great[:n], rare[:n]}
}

// TestLengthsCostLeast holds lists of all sizes against a tree that is grown row by row.
func TestLengthsCostLeast(t *testing.T) {
	for _, n := range []int{1, 2, 3, 4, 5, 6, 7, 8, 9, 15, 16, 17, 30, 33, 64, 100, 256, 257, 286, 319, 320} {
		for _, freq := range shapes(n) {
			above := n - count(freq, 0)
			for limit := 1; limit <= 15; limit++ {
				if above > 1<<limit {
					refused(t, freq, limit, api.ErrCode)
				} else if n < 40 || limit > 13 || 1<<limit < 2*above {
					wantLeast(t, freq, limit)
				}
			}
		}
	}
}

func TestLengthsOfAnyLists(t *testing.T) {
	for seed := range 400 {
		s := numbers(seed)
		freq := make([]int, s.below(60))
		most := []int{2, 5, 100, 1 << 20, mostFrequency}[s.below(5)]
		for i := range freq {
			freq[i] = max(0, s.below(most+1+most/4)-most/4)
			// Numbers by chance are much alike: some are made small.
			freq[i] >>= s.below(40) * s.below(2)
		}
		for _, limit := range []int{6, 7, 9, 15} {
			wantLeast(t, freq, limit)
		}
	}
}

// count is how often a number stands in a list.
func count(l []int, v int) int {
	n := 0
	for _, x := range l {
		if x == v {
			n++
		}
	}
	return n
}

// If there are just as many symbols as codes of the limit, all have that length; one more is too many.
func TestLengthsOfAllCodesOfTheLimit(t *testing.T) {
	for limit := 1; limit <= 8; limit++ {
		s := numbers(limit)
		freq := make([]int, 1<<limit)
		for i := range freq {
			freq[i] = 1 + s.below(1<<(i%40))
		}
		freq = append([]int{0, 0}, append(freq, 0)...)
		lens := mustLengths(t, freq, limit)
		if slices.Max(lens) != uint8(limit) || cost(freq, lens) != sum(freq)*limit {
			t.Errorf("limit %d: %v", limit, lens)
		}
		freq[1] = 1
		refused(t, freq, limit, api.ErrCode)
		freq[1] = mostFrequency
		refused(t, freq, limit, api.ErrCode)
		mustLengths(t, freq, limit+1)
	}
	for limit := 9; limit <= 15; limit++ {
		mustLengths(t, slices.Repeat([]int{1}, 320), limit)
	}
}

func sum(l []int) int {
	s := 0
	for _, x := range l {
		s += x
	}
	return s
}

func TestLengthsRefused(t *testing.T) {
	lists := [][]int{nil, {0}, {1}, {1, 1, 1}, {mostFrequency, 0, 1}}
	for _, limit := range []int{0, -1, 16, 17, 64, 256, 257, math.MaxInt, math.MinInt} {
		for _, freq := range lists {
			refused(t, freq, limit, api.ErrArg)
		}
	}
	for _, limit := range []int{1, 2, 15} {
		for _, wrong := range []int{-1, math.MinInt, mostFrequency + 1, math.MaxInt} {
			for _, freq := range lists {
				refused(t, append(slices.Clone(freq), wrong), limit, api.ErrArg)
				refused(t, append([]int{wrong}, freq...), limit, api.ErrArg)
			}
			// What may not be is told ahead of what has no codes.
			refused(t, append(slices.Repeat([]int{1}, 319), wrong), limit, api.ErrArg)
		}
		for _, f := range []int{0, 1} {
			refused(t, slices.Repeat([]int{f}, 321), limit, api.ErrArg)
			refused(t, slices.Repeat([]int{f}, 5000), limit, api.ErrArg)
		}
	}
	mustLengths(t, make([]int, 320), 1)
	mustLengths(t, append(make([]int, 318), mostFrequency, mostFrequency), 1)
}

// TestLengthsAreTheSame asks twice, with other lists between, and looks at what was handed in and out.
func TestLengthsAreTheSame(t *testing.T) {
	for n := 2; n <= 320; n += 53 {
		for _, freq := range shapes(n) {
			if n-count(freq, 0) < 2 {
				continue
			}
			room := append(slices.Clone(freq), 9, 9, 9)
			lens := mustLengths(t, room[:n], 12)
			kept := slices.Clone(lens)
			if !slices.Equal(room, append(slices.Clone(freq), 9, 9, 9)) {
				t.Fatalf("what was handed in is now %v", room)
			}
			mustLengths(t, []int{1, 2, 3}, 5)
			clear(lens[:cap(lens)])
			if again := mustLengths(t, freq, 12); !slices.Equal(again, kept) {
				t.Fatalf("Lengths(%v) is %v, and then %v", freq, kept, again)
			}
		}
	}
}
