package tests

import (
	"fmt"
	"math"
	"reflect"
	"slices"
	"sort"
	"testing"

	"loop.example/cloth/impl"
)

// squareOf makes a square from a rule.
func squareOf(n int, rule func(a, b int) int) [][]int {
	out := make([][]int, n)
	for a := range out {
		out[a] = make([]int, n)
		for b := range out[a] {
			out[a][b] = rule(a, b)
		}
	}
	return out
}

func sameAnswer(n, answer int) [][]int {
	return squareOf(n, func(a, b int) int { return answer })
}

func rankSquare(ranks []int) [][]int {
	return squareOf(len(ranks), func(a, b int) int {
		if ranks[a] < ranks[b] {
			return 1
		}
		return 0
	})
}

func copySquare(x [][]int) [][]int {
	return squareOf(len(x), func(a, b int) int { return x[a][b] })
}

// dice is a plain generator of numbers, the same at every run.
type dice uint64

func (d *dice) below(n int) int {
	*d = *d*6364136223846793005 + 1442695040888963407
	return int(uint64(*d)>>33) % n
}

func (d *dice) ranks(n, kinds int) []int {
	out := make([]int, n)
	for i := range out {
		out[i] = d.below(kinds)
	}
	return out
}

// everySquare calls with each square of n items and answers below kinds.
func everySquare(n, kinds int, call func(x [][]int)) {
	x := sameAnswer(n, 0)
	for {
		call(x)
		place := 0
		for ; place < n*n; place++ {
			x[place/n][place%n]++
			if x[place/n][place%n] < kinds {
				break
			}
			x[place/n][place%n] = 0
		}
		if place == n*n {
			return
		}
	}
}

// modelSort tells chapter 1 another way: rounds over a list of pieces.
func modelSort(x [][]int) impl.Sorted {
	var pieces [][]int
	for i := range x {
		pieces = append(pieces, []int{i})
	}
	var asked []impl.Ask
	for len(pieces) > 1 {
		var next [][]int
		for i := 0; i < len(pieces); i += 2 {
			if i+1 == len(pieces) {
				next = append(next, pieces[i])
				break
			}
			var both []int
			first, second := pieces[i], pieces[i+1]
			f, s := 0, 0
			for f+s < len(first)+len(second) {
				if f < len(first) && s < len(second) {
					asked = append(asked, impl.Ask{A: second[s], B: first[f]})
					if x[second[s]][first[f]] == 2 {
						return impl.Sorted{Code: 2, Asked: asked}
					}
				}
				if f == len(first) || s < len(second) && x[second[s]][first[f]] == 1 {
					both = append(both, second[s])
					s++
				} else {
					both = append(both, first[f])
					f++
				}
			}
			next = append(next, both)
		}
		pieces = next
	}
	var order []int
	if len(pieces) == 1 {
		order = pieces[0]
	}
	return impl.Sorted{Order: order, Asked: asked}
}

func alike(a, b impl.Sorted) bool {
	return a.Code == b.Code && slices.Equal(a.Order, b.Order) && slices.Equal(a.Asked, b.Asked)
}

// checkSort holds a sort of a square against the model and against P1.
func checkSort(t *testing.T, x [][]int) {
	t.Helper()
	got := impl.Sort(x)
	if want := modelSort(x); !alike(got, want) {
		t.Fatalf("square %v\ngot  %v\nwant %v", x, got, want)
	}
	if most := impl.MostAsked(len(x)); len(got.Asked) > most {
		t.Fatalf("square %v: asked %d, at most %d", x, len(got.Asked), most)
	}
	if got.Code == 0 {
		each := slices.Clone(got.Order)
		slices.Sort(each)
		for i, item := range each {
			if i != item {
				t.Fatalf("square %v: order %v", x, got.Order)
			}
		}
		if len(each) != len(x) {
			t.Fatalf("square %v: order %v", x, got.Order)
		}
	}
}

// asks makes questions of their A and B, one behind the other.
func asks(ab ...int) []impl.Ask {
	var out []impl.Ask
	for i := 0; i < len(ab); i += 2 {
		out = append(out, impl.Ask{A: ab[i], B: ab[i+1]})
	}
	return out
}

func TestP1SortTold(t *testing.T) {
	for _, c := range []struct {
		name string
		x    [][]int
		want impl.Sorted
	}{
		{"no items", [][]int{}, impl.Sorted{}},
		{"one item", [][]int{{0}}, impl.Sorted{Order: []int{0}}},
		{"one item ahead of itself", [][]int{{1}}, impl.Sorted{Order: []int{0}}},
		{"one item that fails at itself", [][]int{{2}}, impl.Sorted{Order: []int{0}}},
		{"two that stay", [][]int{{0, 1}, {0, 0}}, impl.Sorted{Order: []int{0, 1}, Asked: asks(1, 0)}},
		{"two that change", [][]int{{0, 0}, {1, 0}}, impl.Sorted{Order: []int{1, 0}, Asked: asks(1, 0)}},
		{"both ahead", [][]int{{0, 1}, {1, 0}}, impl.Sorted{Order: []int{1, 0}, Asked: asks(1, 0)}},
		{"three, a last piece alone", rankSquare([]int{2, 1, 0}),
			impl.Sorted{Order: []int{2, 1, 0}, Asked: asks(1, 0, 2, 1)}},
		{"a ring of three", [][]int{{0, 1, 0}, {0, 0, 1}, {1, 0, 0}},
			impl.Sorted{Order: []int{2, 0, 1}, Asked: asks(1, 0, 2, 0)}},
		{"five, alone in two rounds", rankSquare([]int{0, 1, 2, 3, 4}),
			impl.Sorted{Order: []int{0, 1, 2, 3, 4}, Asked: asks(1, 0, 3, 2, 2, 0, 2, 1, 4, 0, 4, 1, 4, 2, 4, 3)}},
		{"six, a last piece that is shorter", sameAnswer(6, 1),
			impl.Sorted{Order: []int{5, 4, 3, 2, 1, 0}, Asked: asks(1, 0, 3, 2, 5, 4, 3, 1, 2, 1, 5, 3, 4, 3)}},
		{"seven, a shorter one in an earlier round", rankSquare([]int{6, 5, 4, 3, 2, 1, 0}),
			impl.Sorted{Order: []int{6, 5, 4, 3, 2, 1, 0}, Asked: asks(1, 0, 3, 2, 5, 4, 3, 1, 2, 1, 6, 5, 6, 3, 5, 3, 4, 3)}},
	} {
		if got := impl.Sort(c.x); !alike(got, c.want) {
			t.Errorf("%s: got %v, want %v", c.name, got, c.want)
		}
	}
	if got := impl.Sort(nil); !alike(got, impl.Sorted{}) {
		t.Errorf("nil: %v", got)
	}
}

func TestP1SortEverySmallSquare(t *testing.T) {
	for n := 0; n <= 3; n++ {
		everySquare(n, 3, func(x [][]int) { checkSort(t, x) })
	}
	everySquare(4, 2, func(x [][]int) { checkSort(t, x) })
}

func TestP1SortEverySize(t *testing.T) {
	d := dice(1)
	for n := 0; n <= impl.MaxItems; n++ {
		checkSort(t, sameAnswer(n, 0))
		checkSort(t, sameAnswer(n, 1))
		checkSort(t, rankSquare(d.ranks(n, n+1)))
		checkSort(t, squareOf(n, func(a, b int) int { return d.below(2) }))
		checkSort(t, squareOf(n, func(a, b int) int { return max(0, d.below(2*n+4)-2*n-1) }))
	}
}

func TestP1SortFailsAtEachQuestion(t *testing.T) {
	d := dice(2)
	for _, n := range []int{2, 3, 5, 6, 7, 8, 13} {
		for _, x := range [][][]int{
			rankSquare(d.ranks(n, 4)),
			squareOf(n, func(a, b int) int { return d.below(2) }),
		} {
			whole := impl.Sort(x)
			for i, ask := range whole.Asked {
				bad := copySquare(x)
				bad[ask.A][ask.B] = 2
				want := impl.Sorted{Code: 2, Asked: whole.Asked[:i+1]}
				if got := impl.Sort(bad); !alike(got, want) {
					t.Fatalf("square %v: got %v, want %v", bad, got, want)
				}
			}
		}
	}
	if got := impl.Sort(sameAnswer(3, 2)); !alike(got, impl.Sorted{Code: 2, Asked: asks(1, 0)}) {
		t.Error(got)
	}
}

func TestP1SortNeverAskedDoesNotFail(t *testing.T) {
	d := dice(3)
	for _, n := range []int{1, 2, 3, 6, 9} {
		x := rankSquare(d.ranks(n, 4))
		whole := impl.Sort(x)
		bad := squareOf(n, func(a, b int) int {
			if slices.Contains(whole.Asked, impl.Ask{A: a, B: b}) {
				return x[a][b]
			}
			return 2
		})
		if got := impl.Sort(bad); !alike(got, whole) {
			t.Errorf("square %v: got %v, want %v", bad, got, whole)
		}
	}
}

// noSquares are wrong inputs, by name.
func noSquares() map[string][][]int {
	out := map[string][][]int{
		"one item too many":       sameAnswer(impl.MaxItems+1, 0),
		"too many, and no rows":   make([][]int, impl.MaxItems+1),
		"an empty row":            {{}},
		"a nil row":               {nil},
		"no rows of answers":      make([][]int, impl.MaxItems),
		"a row too long":          {{0, 0}},
		"a last row too long":     {{0, 0}, {0, 0, 0}},
		"a last row too short":    {{0, 0}, {0}},
		"more answers than items": {{0, 0, 0}, {0, 0, 0}},
		"more items than answers": {{0, 0}, {0, 0}, {0, 0}},
	}
	for _, answer := range []int{3, -1, 4, -2, 257, 1 << 32, math.MaxInt, math.MinInt} {
		for _, place := range []int{0, 1, 3, 8} {
			x := sameAnswer(3, 0)
			x[place/3][place%3] = answer
			out[fmt.Sprint("answer ", answer, " at ", place)] = x
		}
	}
	behind := sameAnswer(3, 2)
	behind[2][2] = 3
	out["a wrong answer behind a failed question"] = behind
	return out
}

func TestP1SortNoSquare(t *testing.T) {
	for name, x := range noSquares() {
		if got := impl.Sort(x); !alike(got, impl.Sorted{Code: 1}) {
			t.Errorf("%s: %v", name, got)
		}
	}
	full := impl.Sort(sameAnswer(impl.MaxItems, 0))
	if full.Code != 0 || len(full.Order) != impl.MaxItems {
		t.Errorf("MaxItems items: %v", full)
	}
}

// hardest gives ranks by which every two pieces are asked about to the last:
// the two highest ranks of both together stand in different pieces.
func hardest(ranks []int) []int {
	n := len(ranks)
	if n < 2 {
		return ranks
	}
	first := 1
	for first*2 < n {
		first *= 2
	}
	low := slices.Clone(ranks[:first-1])
	high := slices.Clone(ranks[first-1 : n-2])
	return append(hardest(append(low, ranks[n-2])), hardest(append(high, ranks[n-1]))...)
}

func TestP1MostAsked(t *testing.T) {
	for n, want := range map[int]int{
		0: 0, 1: 0, 2: 1, 3: 3, 4: 5, 5: 9, 6: 11, 7: 14, 8: 17, 9: 25, 16: 49, 128: 769, 199: 1372, 200: 1377,
		-1: -1, 201: -1, math.MaxInt: -1, math.MinInt: -1,
	} {
		if got := impl.MostAsked(n); got != want {
			t.Errorf("MostAsked(%d) = %d, want %d", n, got, want)
		}
	}
	for n := 0; n <= impl.MaxItems; n++ {
		ranks := make([]int, n)
		for i := range ranks {
			ranks[i] = i
		}
		s := impl.Sort(rankSquare(hardest(ranks)))
		if got := impl.MostAsked(n); got != len(s.Asked) {
			t.Errorf("MostAsked(%d) = %d, but %d can be asked", n, got, len(s.Asked))
		}
	}
}

// checkRanked holds the sort of items with ranks against P2.
func checkRanked(t *testing.T, ranks []int) {
	t.Helper()
	x := rankSquare(ranks)
	if !impl.Ranked(x) {
		t.Fatalf("ranks %v: not ranked", ranks)
	}
	order := impl.Sort(x).Order
	want := make([]int, len(ranks))
	for i := range want {
		want[i] = i
	}
	sort.SliceStable(want, func(i, j int) bool { return ranks[want[i]] < ranks[want[j]] })
	if !slices.Equal(order, want) {
		t.Fatalf("ranks %v: order %v, want %v", ranks, order, want)
	}
	for i, a := range order {
		for _, b := range order[i+1:] {
			if x[b][a] == 1 || x[a][b] == 0 && b < a {
				t.Fatalf("ranks %v: order %v: %d stands ahead of %d", ranks, order, a, b)
			}
		}
	}
}

func TestP2RankedItems(t *testing.T) {
	for n := 0; n <= 5; n++ {
		every := 1
		for range n {
			every *= n
		}
		for code := range every {
			ranks := make([]int, n)
			for i := range ranks {
				ranks[i] = code % n
				code /= n
			}
			checkRanked(t, ranks)
		}
	}
	d := dice(4)
	for n := 6; n <= impl.MaxItems; n += 1 + d.below(9) {
		for _, kinds := range []int{1, 2, 7, 4 * n} {
			checkRanked(t, d.ranks(n, kinds))
		}
	}
	checkRanked(t, d.ranks(impl.MaxItems, 50))
}

// modelRanked says the words of the document one by one.
func modelRanked(x [][]int) bool {
	for a := range x {
		for b := range x {
			if x[a][b] == 2 || x[a][b] == 1 && x[b][a] == 1 {
				return false
			}
			for c := range x {
				if x[a][b] == 0 && x[b][c] == 0 && x[a][c] != 0 {
					return false
				}
			}
		}
	}
	return true
}

func TestP2Ranked(t *testing.T) {
	check := func(x [][]int) {
		if got, want := impl.Ranked(x), modelRanked(x); got != want {
			t.Fatalf("Ranked(%v) = %v", x, got)
		}
	}
	for n := 0; n <= 3; n++ {
		everySquare(n, 3, check)
	}
	everySquare(4, 2, check)
	if !impl.Ranked(nil) || !impl.Ranked([][]int{{0}}) {
		t.Error("no item, and one, have ranks")
	}
	for name, x := range noSquares() {
		if impl.Ranked(x) {
			t.Errorf("%s: ranked", name)
		}
	}
}

func TestP2OneAnswerOff(t *testing.T) {
	d := dice(5)
	for _, n := range []int{2, 5, 40, impl.MaxItems} {
		x := rankSquare(d.ranks(n, n))
		for range 400/n + 1 {
			a, b := d.below(n), d.below(n)
			for answer := range 3 {
				bad := copySquare(x)
				bad[a][b] = answer
				if got := impl.Ranked(bad); got != modelRanked(bad) {
					t.Fatalf("%d items, answer %d at %d, %d: %v", n, answer, a, b, got)
				}
			}
		}
	}
}

func TestNothingWrittenNothingShared(t *testing.T) {
	d := dice(6)
	for _, n := range []int{0, 1, 2, 9, 64} {
		for _, kinds := range []int{2, 3} {
			x := squareOf(n, func(a, b int) int { return d.below(kinds) })
			kept := copySquare(x)
			ranked := impl.Ranked(x)
			first := impl.Sort(x)
			again := impl.Sort(x)
			if !alike(first, again) || ranked != impl.Ranked(x) {
				t.Fatalf("square %v: %v, then %v", x, first, again)
			}
			for i := range first.Order {
				first.Order[i] = -1
			}
			for i := range first.Asked {
				first.Asked[i] = impl.Ask{A: -1, B: -1}
			}
			if !alike(impl.Sort(x), again) {
				t.Fatalf("square %v: an answer is kept", x)
			}
			if !reflect.DeepEqual(x, kept) {
				t.Fatalf("square %v was %v", x, kept)
			}
		}
	}
}
