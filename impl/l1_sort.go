package impl

import "errors"

const MaxItems = 200

// The answers that a square may hold.
const (
	notAhead    = 0
	isAhead     = 1
	scriptFails = 2
)

// The codes of a sort.
const (
	codeSorted    = 0
	codeNoSquare  = 1
	codeFailedAsk = 2
)

// Ask is a question of a sort: whether one item comes ahead of another.
type Ask struct {
	A int
	B int
}

// Sorted is the items in their order, and what was asked for it.
type Sorted struct {
	Code  int
	Order []int
	Asked []Ask
}

var errScriptFails = errors.New("the script fails at this question")

// failedAsk is a type of its own so that the recover takes up nothing but a
// question that failed; any other panic would be a fault of the sort itself.
type failedAsk struct {
	err error
}

// script keeps the questions on its own side: they are told even when the
// sort is given up in the middle.
type script struct {
	ahead [][]int
	asked []Ask
}

func (s *script) comesAhead(a, b int) (bool, error) {
	s.asked = append(s.asked, Ask{A: a, B: b})
	answer := s.ahead[a][b]
	if answer == scriptFails {
		return false, errScriptFails
	}
	return answer == isAhead, nil
}

func Sort(ahead [][]int) Sorted {
	if !isSquare(ahead) {
		return Sorted{Code: codeNoSquare}
	}
	order := make([]int, len(ahead))
	for i := range order {
		order[i] = i
	}
	s := &script{ahead: ahead}
	if err := sortBy(order, s.comesAhead); err != nil {
		return Sorted{Code: codeFailedAsk, Asked: s.asked}
	}
	return Sorted{Code: codeSorted, Order: order, Asked: s.asked}
}

// Ranked counts for each item those ahead of it. If there are ranks at all,
// these counts are ranks too, so it is enough to hold the answers against them
// instead of looking at every three items.
func Ranked(ahead [][]int) bool {
	if !isSquare(ahead) {
		return false
	}
	ranks := countsAhead(ahead)
	for a, row := range ahead {
		for b, answer := range row {
			want := notAhead
			if ranks[a] < ranks[b] {
				want = isAhead
			}
			if answer != want {
				return false
			}
		}
	}
	return true
}

func MostAsked(n int) int {
	if n < 0 || n > MaxItems {
		return -1
	}
	most := 0
	eachMerge(n, func(from, middle, to int) {
		most += to - from - 1
	})
	return most
}

func isSquare(ahead [][]int) bool {
	if len(ahead) > MaxItems {
		return false
	}
	for _, row := range ahead {
		if len(row) != len(ahead) {
			return false
		}
		for _, answer := range row {
			if answer < notAhead || answer > scriptFails {
				return false
			}
		}
	}
	return true
}

func countsAhead(ahead [][]int) []int {
	counts := make([]int, len(ahead))
	for _, row := range ahead {
		for b, answer := range row {
			if answer == isAhead {
				counts[b]++
			}
		}
	}
	return counts
}

// sortBy sorts the row in place; after an error the row is in no order that
// means anything. The panic spares each step of the merging its own error path.
func sortBy[T any](row []T, ahead func(a, b T) (bool, error)) (err error) {
	defer func() {
		if r := recover(); r != nil {
			failed, ok := r.(failedAsk)
			if !ok {
				panic(r)
			}
			err = failed.err
		}
	}()
	surely := func(a, b T) bool {
		yes, err := ahead(a, b)
		if err != nil {
			panic(failedAsk{err: err})
		}
		return yes
	}
	eachMerge(len(row), func(from, middle, to int) {
		copy(row[from:to], merged(row[from:middle], row[middle:to], surely))
	})
	return nil
}

// eachMerge alone says which pieces are put together, and when, so that what
// Sort does and what MostAsked counts cannot part.
func eachMerge(n int, merge func(from, middle, to int)) {
	for size := 1; size < n; size *= 2 {
		for from := 0; from+size < n; from += 2 * size {
			merge(from, from+size, min(from+2*size, n))
		}
	}
}

// merged asks about the second piece's item first: where neither comes ahead,
// the first piece's goes on, and equal items stay as they stood.
func merged[T any](first, second []T, ahead func(a, b T) bool) []T {
	out := make([]T, 0, len(first)+len(second))
	for len(first) > 0 && len(second) > 0 {
		if ahead(second[0], first[0]) {
			out = append(out, second[0])
			second = second[1:]
		} else {
			out = append(out, first[0])
			first = first[1:]
		}
	}
	out = append(out, first...)
	return append(out, second...)
}
