package tests

import (
	"fmt"
	"math"
	"reflect"
	"slices"
	"strings"
	"testing"

	"loop.example/cloth/impl"
)

// never is the distance of what does not part.
const never = math.MaxInt

// modelAt is nothing where the table has not got the key.
func modelAt(t impl.Table, key impl.Val) impl.Val {
	for _, p := range t.Pairs {
		if p.Key == key {
			return p.Val
		}
	}
	return none
}

// modelKeys is all keys of two tables, sorted and each once.
func modelKeys(a, b impl.Table) []impl.Val {
	var out []impl.Val
	for _, p := range slices.Concat(a.Pairs, b.Pairs) {
		if !slices.Contains(out, p.Key) {
			out = append(out, p.Key)
		}
	}
	slices.SortFunc(out, impl.KeyOrder)
	return out
}

// modelDistances tells for each table of a and each of b how many keys lead to
// where they part at the least: a square that is filled up until nothing in it
// grows less.
func modelDistances(a, b impl.Graph) [][]int {
	far := make([][]int, len(a.Tables))
	for i := range far {
		far[i] = slices.Repeat([]int{never}, len(b.Tables))
	}
	for changed := true; changed; {
		changed = false
		for i := range a.Tables {
			for k := range b.Tables {
				for _, key := range modelKeys(a.Tables[i], b.Tables[k]) {
					d := modelFar(far, modelAt(a.Tables[i], key), modelAt(b.Tables[k], key))
					if d < never && d+1 < far[i][k] {
						far[i][k], changed = d+1, true
					}
				}
			}
		}
	}
	return far
}

// modelFar is the distance of two values by that of all tables.
func modelFar(far [][]int, v, w impl.Val) int {
	switch {
	case v.Kind == impl.VTable && w.Kind == impl.VTable:
		return far[v.At][w.At]
	case v == w:
		return never
	}
	return 0
}

func modelSame(a, b impl.Graph) bool {
	return modelOk(a) && modelOk(b) && modelFar(modelDistances(a, b), a.Root, b.Root) == never
}

func modelClasses(g impl.Graph) []int {
	if !modelOk(g) {
		return nil
	}
	var out []int
	for _, row := range modelDistances(g, g) {
		out = append(out, slices.Index(row, never))
	}
	return out
}

// modelApart goes down the distances, at each table by the first key that is
// on a shortest way.
func modelApart(a, b impl.Graph) []impl.Val {
	if !modelOk(a) || !modelOk(b) {
		return nil
	}
	far := modelDistances(a, b)
	left := modelFar(far, a.Root, b.Root)
	if left == never {
		return nil
	}
	var path []impl.Val
	for v, w := a.Root, b.Root; left > 0; left-- {
		for _, key := range modelKeys(a.Tables[v.At], b.Tables[w.At]) {
			x, y := modelAt(a.Tables[v.At], key), modelAt(b.Tables[w.At], key)
			if modelFar(far, x, y) == left-1 {
				path, v, w = append(path, key), x, y
				break
			}
		}
	}
	return path
}

// modelShrink leads everything to the first of each class, sorts, and numbers anew.
func modelShrink(g impl.Graph) impl.Graph {
	if !modelOk(g) {
		return impl.Graph{}
	}
	class := modelClasses(g)
	first := func(v impl.Val) impl.Val {
		if v.Kind == impl.VTable {
			v.At = class[v.At]
		}
		return v
	}
	out := copyGraph(g)
	out.Root = first(out.Root)
	for _, t := range out.Tables {
		for i := range t.Pairs {
			t.Pairs[i].Val = first(t.Pairs[i].Val)
		}
		slices.SortFunc(t.Pairs, func(p, q impl.Pair) int { return impl.KeyOrder(p.Key, q.Key) })
	}
	return modelCanon(out)
}

// checkShrink holds Classes and Shrink against the models and P7.
func checkShrink(t *testing.T, name string, g impl.Graph) {
	t.Helper()
	before := copyGraph(g)
	if got, want := impl.Classes(g), modelClasses(g); !slices.Equal(got, want) {
		t.Fatalf("%s: Classes of %v\ngot  %v\nwant %v", name, g, got, want)
	}
	s := impl.Shrink(g)
	if want := modelShrink(g); !graphsAlike(s, want) {
		t.Fatalf("%s: Shrink of %v\ngot  %v\nwant %v", name, g, s, want)
	}
	if modelOk(g) {
		checkSmallest(t, name, g, s)
	}
	if !graphsAlike(g, before) {
		t.Fatalf("%s: the graph was written into", name)
	}
}

// checkSmallest asks of s what P7 promises of Shrink of g.
func checkSmallest(t *testing.T, name string, g, s impl.Graph) {
	t.Helper()
	if !impl.Same(g, s) || !impl.Same(s, g) || len(impl.Apart(g, s)) != 0 {
		t.Fatalf("%s: Shrink is not the same\nof  %v\nwas %v", name, g, s)
	}
	for i, class := range impl.Classes(s) {
		if class != i {
			t.Fatalf("%s: tables %d and %d are the same in Shrink's %v", name, class, i, s)
		}
	}
	if again := impl.Shrink(s); !graphsAlike(again, s) {
		t.Fatalf("%s: Shrink is not its own\nof  %v\nwas %v", name, s, again)
	}
	if c := impl.Canon(s); !graphsAlike(c, s) {
		t.Fatalf("%s: Shrink is not canonical: %v", name, s)
	}
	for _, table := range s.Tables {
		if !slices.IsSortedFunc(table.Pairs, func(p, q impl.Pair) int { return impl.KeyOrder(p.Key, q.Key) }) {
			t.Fatalf("%s: pairs not in order: %v", name, table)
		}
	}
}

// checkTwo holds Same and Apart against the models, and P6 and P8.
func checkTwo(t *testing.T, name string, a, b impl.Graph) {
	t.Helper()
	a0, b0 := copyGraph(a), copyGraph(b)
	same := impl.Same(a, b)
	if want := modelSame(a, b); same != want || impl.Same(b, a) != want {
		t.Fatalf("%s: Same %v, want %v, of\n%v\n%v", name, same, want, a, b)
	}
	path, want := impl.Apart(a, b), modelApart(a, b)
	if !slices.Equal(path, want) || !slices.Equal(impl.Apart(b, a), want) {
		t.Fatalf("%s: Apart %v, want %v, of\n%v\n%v", name, path, want, a, b)
	}
	if modelOk(a) && modelOk(b) {
		if alike := graphsAlike(impl.Shrink(a), impl.Shrink(b)); alike != same {
			t.Fatalf("%s: Same %v, but the shrunk ones alike %v", name, same, alike)
		}
		x, y := impl.Freeze(impl.Shrink(a)), impl.Freeze(impl.Shrink(b))
		if (x != "" || y != "") && (x == y) != same {
			t.Fatalf("%s: Same %v, but the shrunk ones' texts are\n%s\n%s", name, same, x, y)
		}
		checkParting(t, name, a, b, path, same)
	}
	if !graphsAlike(a, a0) || !graphsAlike(b, b0) {
		t.Fatalf("%s: a graph was written into", name)
	}
}

// checkParting follows the path in both graphs by Get.
func checkParting(t *testing.T, name string, a, b impl.Graph, path []impl.Val, same bool) {
	t.Helper()
	for i := range path {
		if impl.Get(a, path[:i]).Kind != impl.VTable || impl.Get(b, path[:i]).Kind != impl.VTable {
			t.Fatalf("%s: no tables at %v", name, path[:i])
		}
	}
	x, y := impl.Get(a, path), impl.Get(b, path)
	parts := x != y && (x.Kind != impl.VTable || y.Kind != impl.VTable)
	if parts == same {
		t.Fatalf("%s: Same %v, but at %v stand %v and %v", name, same, path, x, y)
	}
}

// doubled is a graph with some of its tables twice or more, led to anew, the
// tables in another order, and pairs in another order.
func (d *dice) doubled(g impl.Graph, tables int) impl.Graph {
	var from []int
	for i := range g.Tables {
		from = append(from, i)
	}
	for len(from) > 0 && len(from) < tables {
		from = append(from, d.below(len(g.Tables)))
	}
	d.shuffle(len(from), func(i, k int) { from[i], from[k] = from[k], from[i] })
	anew := func(v impl.Val) impl.Val {
		if v.Kind == impl.VTable {
			for old := v.At; ; {
				v.At = d.below(len(from))
				if from[v.At] == old {
					break
				}
			}
		}
		return v
	}
	out := impl.Graph{Root: anew(g.Root)}
	for _, at := range from {
		var t impl.Table
		for _, p := range g.Tables[at].Pairs {
			t.Pairs = append(t.Pairs, impl.Pair{Key: p.Key, Val: anew(p.Val)})
		}
		d.shuffle(len(t.Pairs), func(i, k int) { t.Pairs[i], t.Pairs[k] = t.Pairs[k], t.Pairs[i] })
		out.Tables = append(out.Tables, t)
	}
	return out
}

func (d *dice) shuffle(n int, swap func(i, k int)) {
	for i := n - 1; i > 0; i-- {
		swap(i, d.below(i+1))
	}
}

// even is a graph whose tables have few keys and few values, so that many of
// them are the same.
func (d *dice) even(tables int) impl.Graph {
	g := graphOf(leads(d.below(tables)))
	for range tables {
		t := tableOf(num(1), leads(d.below(tables)), num(0), leads(d.below(tables)))
		if d.below(6) == 0 {
			t.Pairs[d.below(2)].Val = num(int64(d.below(2)))
		}
		g.Tables = append(g.Tables, t)
	}
	return g
}

// withPair has one pair more in one of its tables.
func withPair(g impl.Graph, at int, key, val impl.Val) impl.Graph {
	out := copyGraph(g)
	out.Tables[at].Pairs = append(out.Tables[at].Pairs, impl.Pair{Key: key, Val: val})
	return out
}

// chain is n tables, each with the next at all of the keys; the last has none.
func chain(n int, keys ...impl.Val) impl.Graph {
	g := graphOf(leads(0))
	for i := range n {
		var t impl.Table
		for _, key := range keys {
			if i+1 < n {
				t.Pairs = append(t.Pairs, impl.Pair{Key: key, Val: leads(i + 1)})
			}
		}
		g.Tables = append(g.Tables, t)
	}
	return g
}

// manyKeys is MaxPairs keys, the last first.
func manyKeys() []impl.Val {
	var out []impl.Val
	for i := range impl.MaxPairs {
		out = append(out, num(int64(-i)))
	}
	return out
}

// notWellMade has something of all that is well made around one fault.
func notWellMade() map[string]impl.Graph {
	out := map[string]impl.Graph{
		"a table too many":         {Root: num(1), Tables: make([]impl.Table, impl.MaxTables+1)},
		"a ring, a table too long": ring(impl.MaxTables + 1),
		"a pair too many":          graphOf(leads(0), manyPairs(impl.MaxPairs+1)),
		"no such table":            graphOf(leads(0)),
		"a key twice":              graphOf(leads(0), tableOf(num(1), num(1), num(1), num(1))),
		"a key that is nothing":    graphOf(leads(0), tableOf(none, num(1))),
		"a value that is nothing":  graphOf(leads(0), tableOf(num(1), none)),
		"not met, a key twice":     graphOf(leads(0), impl.Table{}, tableOf(num(1), num(1), num(1), num(1))),
		"not met, nothing":         graphOf(num(1), tableOf(num(1), none)),
	}
	for i, v := range notVals(1) {
		out[fmt.Sprint("root ", i)] = graphOf(v, impl.Table{})
		out[fmt.Sprint("value ", i)] = graphOf(leads(0), tableOf(num(1), v))
		out[fmt.Sprint("key ", i)] = graphOf(leads(0), tableOf(v, num(1)))
	}
	return out
}

func TestP6SameTold(t *testing.T) {
	one := graphOf(leads(0), tableOf(text("a"), num(1), text("b"), leads(0)))
	for _, c := range []struct {
		name string
		a, b impl.Graph
		want bool
	}{
		{"nothing", impl.Graph{}, impl.Graph{Tables: []impl.Table{}}, true},
		{"numbers", graphOf(num(-3)), graphOf(num(-3)), true},
		{"texts", graphOf(text("a\x00")), graphOf(text("a\x00")), true},
		{"other numbers", graphOf(num(3)), graphOf(num(4)), false},
		{"a number and its text", graphOf(num(1)), graphOf(text("1")), false},
		{"a number and a bool", graphOf(num(1)), graphOf(flag(true)), false},
		{"nothing and false", graphOf(none), graphOf(flag(false)), false},
		{"nothing and an empty text", graphOf(none), graphOf(text("")), false},
		{"nothing and an empty table", graphOf(none), graphOf(leads(0), impl.Table{}), false},
		{"0 and a table at 0", graphOf(num(0), impl.Table{}), graphOf(leads(0), impl.Table{}), false},
		{"empty tables", graphOf(leads(0), impl.Table{}), graphOf(leads(1), manyPairs(3), impl.Table{Pairs: []impl.Pair{}}), true},
		{"only what is not met differs", graphOf(num(1), manyPairs(3)), graphOf(num(1), ring(2).Tables...), true},
		{"itself", shared(), shared(), true},
		{"pairs in another order", one, graphOf(leads(0), tableOf(text("b"), leads(0), text("a"), num(1))), true},
		{"another place", one, graphOf(leads(1), manyPairs(2), tableOf(text("b"), leads(1), text("a"), num(1))), true},
		{"another key", one, graphOf(leads(0), tableOf(text("a"), num(1), text("c"), leads(0))), false},
		{"a key of another kind", graphOf(leads(0), tableOf(num(1), num(1))), graphOf(leads(0), tableOf(flag(true), num(1))), false},
		{"another value", one, graphOf(leads(0), tableOf(text("a"), num(2), text("b"), leads(0))), false},
		{"a pair less", one, graphOf(leads(0), tableOf(text("b"), leads(0))), false},
		{"keys and values changed over", graphOf(leads(0), tableOf(num(1), num(2), num(2), num(1))), graphOf(leads(0), tableOf(num(1), num(1), num(2), num(2))), false},
		{"a table for a number", one, graphOf(leads(0), tableOf(text("a"), leads(1), text("b"), leads(0)), impl.Table{}), false},
		{"shared, or two", graphOf(leads(0), tableOf(num(1), leads(1), num(2), leads(1)), tableOf(num(3), num(4))),
			graphOf(leads(0), tableOf(num(1), leads(1), num(2), leads(2)), tableOf(num(3), num(4)), tableOf(num(3), num(4))), true},
		{"two that are not one", graphOf(leads(0), tableOf(num(1), leads(1), num(2), leads(1)), tableOf(num(3), num(4))),
			graphOf(leads(0), tableOf(num(1), leads(1), num(2), leads(2)), tableOf(num(3), num(4)), tableOf(num(3), num(5))), false},
		{"a ring and a way into it", ring(1), graphOf(leads(2), tableOf(num(1), leads(1)), tableOf(num(1), leads(0)), tableOf(num(1), leads(0))), true},
		{"a ring and a way that ends", ring(1), chain(5, num(1)), false},
		{"ways of other lengths", chain(5, num(1)), chain(6, num(1)), false},
		{"a ring by other keys", ring(2), graphOf(leads(0), tableOf(num(1), leads(1)), tableOf(num(2), leads(0))), false},
		{"a ring of two that part", graphOf(leads(0), tableOf(num(1), leads(1), num(2), num(0)), tableOf(num(1), leads(0), num(2), num(1))),
			graphOf(leads(1), tableOf(num(1), leads(1), num(2), num(0)), tableOf(num(1), leads(0), num(2), num(1))), false},
	} {
		if got := impl.Same(c.a, c.b); got != c.want {
			t.Errorf("%s: %v", c.name, got)
		}
		checkTwo(t, c.name, c.a, c.b)
	}
}

func TestP6Doubled(t *testing.T) {
	d := dice(6)
	for i := range 1500 {
		g := d.graph(d.below(6), 6)
		if i%2 == 0 {
			g = d.even(1 + d.below(6))
		}
		two := d.doubled(g, len(g.Tables)+d.below(8))
		if !impl.Same(g, two) || !impl.Same(two, g) || !graphsAlike(impl.Shrink(g), impl.Shrink(two)) {
			t.Fatalf("graph %d, doubled, is not the same:\n%v\n%v", i, g, two)
		}
		checkTwo(t, fmt.Sprint("doubled ", i), g, two)
		checkTwo(t, fmt.Sprint("doubled and spoilt ", i), g, d.spoil(two))
	}
	for _, g := range []impl.Graph{fullGraph(), chain(100, manyKeys()...), ring(61), chain(impl.MaxTables, num(1))} {
		two := d.doubled(g, impl.MaxTables)
		if !impl.Same(g, two) || len(impl.Apart(g, two)) != 0 || !graphsAlike(impl.Shrink(g), impl.Shrink(two)) {
			t.Fatal("a great graph, doubled, is not the same")
		}
	}
}

// What tells two graphs apart may stand anywhere in them.
func TestP6FarPlaces(t *testing.T) {
	far := func(at int, v impl.Val) impl.Graph {
		g := graphOf(leads(0), make([]impl.Table, impl.MaxTables)...)
		g.Tables[0] = tableOf(num(1), leads(at))
		g.Tables[at] = tableOf(text("end"), v)
		return g
	}
	for at := 1; at < impl.MaxTables; at++ {
		for _, place := range []int{1, 100, impl.MaxTables - 1} {
			a, same, other := far(place, num(1)), far(at, num(1)), far(at, num(2))
			if !impl.Same(a, same) || impl.Same(a, other) || impl.Same(other, a) {
				t.Fatalf("%d and %d: Same", place, at)
			}
			if p := impl.Apart(a, other); !slices.Equal(p, []impl.Val{num(1), text("end")}) {
				t.Fatalf("%d and %d: Apart %v", place, at, p)
			}
		}
	}
}

func TestP6AnyTwo(t *testing.T) {
	d := dice(7)
	same := 0
	for i := range 4000 {
		a, b := d.even(1+d.below(5)), d.even(1+d.below(5))
		if i%4 == 0 {
			a, b = d.graph(d.below(4), 3), d.graph(d.below(4), 3)
		}
		if impl.Same(a, b) {
			same++
		}
		checkTwo(t, fmt.Sprint("two ", i), a, b)
	}
	if same < 100 {
		t.Fatalf("only %d the same: too few to tell", same)
	}
}

func TestNotWellMadeIsNotTheSame(t *testing.T) {
	well := []impl.Graph{{}, graphOf(num(1)), ring(3), graphOf(leads(0), tableOf(num(1), num(1))), graphOf(leads(0), impl.Table{})}
	for name, g := range notWellMade() {
		if impl.Same(g, g) {
			t.Errorf("%s: the same as itself", name)
		}
		for _, w := range well {
			if impl.Same(g, w) || impl.Same(w, g) {
				t.Errorf("%s: the same as %v", name, w)
			}
			if p, q := impl.Apart(g, w), impl.Apart(w, g); len(p) != 0 || len(q) != 0 {
				t.Errorf("%s: parts from %v at %v and %v", name, w, p, q)
			}
		}
		if c := impl.Classes(g); len(c) != 0 {
			t.Errorf("%s: Classes %v", name, c)
		}
		if s := impl.Shrink(g); !reflect.DeepEqual(s, impl.Graph{}) {
			t.Errorf("%s: Shrink %v", name, s)
		}
	}
}

func TestP7ClassesTold(t *testing.T) {
	for _, c := range []struct {
		name string
		g    impl.Graph
		want []int
	}{
		{"none", graphOf(num(1)), nil},
		{"empty ones", graphOf(num(1), make([]impl.Table, 4)...), []int{0, 0, 0, 0}},
		{"not met, the same as what is", graphOf(leads(2), tableOf(num(1), leads(2)), impl.Table{}, tableOf(num(1), leads(0))), []int{0, 1, 0}},
		{"the ends of a way", chain(4, num(1)), []int{0, 1, 2, 3}},
		{"a ring", ring(5), []int{0, 0, 0, 0, 0}},
		{"two rings and a way into one", graphOf(none,
			tableOf(num(1), leads(1)), tableOf(num(1), leads(0)),
			tableOf(num(2), leads(3)), tableOf(num(2), leads(2)),
			tableOf(num(1), leads(1)), tableOf(num(1), leads(3))), []int{0, 0, 2, 2, 0, 5}},
		{"pairs in another order", graphOf(none,
			tableOf(num(1), num(1), num(2), num(2)), tableOf(num(2), num(2), num(1), num(1)), tableOf(num(1), num(2), num(2), num(1))), []int{0, 0, 2}},
		{"a pair more", graphOf(none, tableOf(num(1), num(1)), tableOf(num(1), num(1), num(2), num(2)), impl.Table{}, tableOf(num(2), num(2), num(1), num(1))), []int{0, 1, 2, 1}},
		{"tables, at other keys", graphOf(none,
			tableOf(num(1), leads(0), num(2), num(0)), tableOf(num(1), num(0), num(2), leads(1)), tableOf(num(2), leads(2), num(1), num(0))), []int{0, 1, 1}},
		{"a table and 0", graphOf(none, tableOf(num(1), leads(0)), tableOf(num(1), num(0)), tableOf(num(1), leads(1))), []int{0, 1, 2}},
		{"the same tables at other keys", graphOf(none,
			impl.Table{}, tableOf(num(1), num(1)),
			tableOf(num(1), leads(0), num(2), leads(1)), tableOf(num(1), leads(1), num(2), leads(0)), tableOf(num(2), leads(1), num(1), leads(0))), []int{0, 1, 2, 3, 2}},
	} {
		if got := impl.Classes(c.g); !slices.Equal(got, c.want) {
			t.Errorf("%s: got %v, want %v", c.name, got, c.want)
		}
		checkShrink(t, c.name, c.g)
	}
}

func TestP7ShrinkTold(t *testing.T) {
	for _, c := range []struct {
		name string
		g    impl.Graph
		want impl.Graph
	}{
		{"nothing", impl.Graph{}, impl.Graph{}},
		{"no table", graphOf(text("a"), manyPairs(2), manyPairs(3)), graphOf(text("a"))},
		{"what is not met", graphOf(leads(1), manyPairs(2), impl.Table{}), graphOf(leads(0), impl.Table{})},
		{"a ring", graphOf(leads(2), ring(6).Tables...), ring(1)},
		{"pairs in order", graphOf(leads(0), tableOf(text("b"), num(1), text("B"), num(2), num(10), num(3), num(9), num(4), num(-1), num(5), flag(true), num(6), flag(false), num(7), text(""), num(8))),
			graphOf(leads(0), tableOf(flag(false), num(7), flag(true), num(6), num(-1), num(5), num(9), num(4), num(10), num(3), text(""), num(8), text("B"), num(2), text("b"), num(1)))},
		// the tables are numbered as they are met by the new order, not by the old one
		{"met in order", graphOf(leads(0), tableOf(num(2), leads(1), num(1), leads(2)), tableOf(num(7), num(7)), tableOf(num(8), num(8))),
			graphOf(leads(0), tableOf(num(1), leads(1), num(2), leads(2)), tableOf(num(8), num(8)), tableOf(num(7), num(7)))},
		{"doubled", graphOf(leads(3), tableOf(num(1), num(1)), tableOf(num(5), leads(0)), tableOf(num(1), num(1)), tableOf(num(3), leads(4), num(2), leads(1)), tableOf(num(5), leads(2))),
			graphOf(leads(0), tableOf(num(2), leads(1), num(3), leads(1)), tableOf(num(5), leads(2)), tableOf(num(1), num(1)))},
		{"shared", shared(), graphOf(leads(0),
			tableOf(num(0), flag(false), text("a"), leads(1), text("b"), leads(2)),
			tableOf(flag(false), leads(0), num(-7), leads(2)),
			tableOf(flag(true), leads(2), text(""), text("a \x00 \xff")))},
	} {
		if got := impl.Shrink(c.g); !graphsAlike(got, c.want) {
			t.Errorf("%s\ngot  %v\nwant %v", c.name, got, c.want)
		}
		checkShrink(t, c.name, c.g)
	}
}

func TestP7AnyGraph(t *testing.T) {
	d := dice(8)
	smaller := 0
	for i := range 3000 {
		g := d.graph(d.below(7), 5)
		if i%3 > 0 {
			g = d.even(1 + d.below(9))
		}
		if len(impl.Shrink(g).Tables) < len(impl.Canon(g).Tables) {
			smaller++
		}
		checkShrink(t, fmt.Sprint("graph ", i), g)
		checkShrink(t, fmt.Sprint("spoilt graph ", i), d.spoil(g))
	}
	if smaller < 300 {
		t.Fatalf("only %d are smaller: too few to tell", smaller)
	}
}

func TestP7GreatGraphs(t *testing.T) {
	all := slices.Collect(func(yield func(int) bool) {
		for i := range impl.MaxTables {
			if !yield(i) {
				return
			}
		}
	})
	// each class is told from the next one only by the end of the way
	long := chain(impl.MaxTables, manyKeys()...)
	if c := impl.Classes(long); !slices.Equal(c, all) {
		t.Errorf("a way: %v", c)
	}
	checkSmallest(t, "a way", long, impl.Shrink(long))
	// all tables of this one hold tables only, and as many
	full := fullGraph()
	if c := impl.Classes(full); !slices.Equal(c, make([]int, impl.MaxTables)) {
		t.Errorf("full: %v", c)
	}
	if s := impl.Shrink(full); len(s.Tables) != 1 || len(s.Tables[0].Pairs) != impl.MaxPairs {
		t.Errorf("full: %v", s)
	}
	// the pairs of two graphs that are all different
	var wide, other impl.Graph
	for i := range impl.MaxTables {
		var a, b impl.Table
		for k := range impl.MaxPairs {
			key := text(strings.Repeat("k", impl.MaxText-10) + fmt.Sprint(i*impl.MaxPairs+k))
			a.Pairs = append(a.Pairs, impl.Pair{Key: key, Val: num(int64(-k))})
			b.Pairs = append(b.Pairs, impl.Pair{Key: key, Val: num(int64(k + 1))})
		}
		wide.Tables, other.Tables = append(wide.Tables, a), append(other.Tables, b)
	}
	wide.Root, other.Root = leads(7), leads(7)
	if c := impl.Classes(wide); !slices.Equal(c, all) {
		t.Errorf("wide: %v", c)
	}
	if !impl.Same(wide, copyGraph(wide)) || impl.Same(wide, other) {
		t.Error("wide: Same")
	}
	if p := impl.Apart(wide, other); !slices.Equal(p, []impl.Val{wide.Tables[7].Pairs[0].Key}) {
		t.Errorf("wide: Apart %v", p)
	}
	// a ring of which the half that is not met is the same
	half := ring(impl.MaxTables / 2)
	for i := range half.Tables {
		half.Tables = append(half.Tables, tableOf(num(1), leads(impl.MaxTables/2+(i+1)%(impl.MaxTables/2))))
	}
	if c := impl.Classes(half); !slices.Equal(c, make([]int, impl.MaxTables)) {
		t.Errorf("half: %v", c)
	}
}

func TestP8ApartTold(t *testing.T) {
	for _, c := range []struct {
		name string
		a, b impl.Graph
		want []impl.Val
	}{
		{"Roots part", graphOf(num(1)), graphOf(num(2)), nil},
		{"Roots part, one is a table", graphOf(leads(0), manyPairs(1)), graphOf(num(2)), nil},
		{"Roots part, one is nothing", graphOf(leads(0), manyPairs(1)), graphOf(none), nil},
		{"Roots are the same", graphOf(num(1), manyPairs(1)), graphOf(num(1)), nil},
		{"the same", ring(2), ring(3), nil},
		{"not met", graphOf(leads(0), impl.Table{}, manyPairs(1)), graphOf(leads(0), impl.Table{}, manyPairs(2)), nil},
		{"another value", graphOf(leads(0), tableOf(num(1), num(1))), graphOf(leads(0), tableOf(num(1), num(2))), []impl.Val{num(1)}},
		{"a value of another kind", graphOf(leads(0), tableOf(num(1), flag(true))), graphOf(leads(0), tableOf(num(1), num(1))), []impl.Val{num(1)}},
		{"a table for a value", graphOf(leads(0), tableOf(num(1), leads(0))), graphOf(leads(0), tableOf(num(1), num(0))), []impl.Val{num(1)}},
		{"none for an empty table", graphOf(leads(0), tableOf(num(1), leads(1)), impl.Table{}), graphOf(leads(0), impl.Table{}), []impl.Val{num(1)}},
		{"the first of those that one has, and the other", graphOf(leads(0), tableOf(num(5), num(1), num(3), num(1))), graphOf(leads(0), tableOf(num(4), num(1), num(2), num(1))), []impl.Val{num(2)}},
		{"by KeyOrder, not as they came", graphOf(leads(0), tableOf(text("b"), num(1), text("a"), num(1), num(10), num(1), num(9), num(1), flag(true), num(1))), graphOf(leads(0), tableOf(flag(true), num(1))), []impl.Val{num(9)}},
		{"a bool ahead of a number", graphOf(leads(0), tableOf(num(-5), num(1), flag(true), num(1))), graphOf(leads(0), impl.Table{}), []impl.Val{flag(true)}},
		{"the shorter, though its key is behind",
			graphOf(leads(0), tableOf(num(1), leads(1), num(2), num(1)), tableOf(num(1), num(1))),
			graphOf(leads(0), tableOf(num(1), leads(1), num(2), num(2)), tableOf(num(1), num(2))), []impl.Val{num(2)}},
		{"the first key counts, not the last",
			graphOf(leads(0), tableOf(num(2), leads(1), num(1), leads(2)), tableOf(num(1), num(1)), tableOf(num(9), num(1))),
			graphOf(leads(0), tableOf(num(1), leads(2), num(2), leads(1)), tableOf(num(1), num(2)), tableOf(num(9), num(2))), []impl.Val{num(1), num(9)}},
		{"two deep, one is shared in one of them",
			graphOf(leads(0), tableOf(text("x"), leads(1), text("y"), leads(1)), tableOf(text("z"), num(1))),
			graphOf(leads(0), tableOf(text("y"), leads(2), text("x"), leads(1)), tableOf(text("z"), num(1)), tableOf(text("z"), num(2))), []impl.Val{text("y"), text("z")}},
		// round the ring once more: a is at its first table again, b at its third
		{"through a ring",
			graphOf(leads(0), tableOf(num(1), leads(1)), tableOf(num(1), leads(0))),
			graphOf(leads(0), tableOf(num(1), leads(1)), tableOf(num(1), leads(2)), tableOf(num(1), leads(3)), tableOf(num(1), leads(0), text("end"), num(1))), []impl.Val{num(1), num(1), num(1), text("end")}},
	} {
		if got := impl.Apart(c.a, c.b); !slices.Equal(got, c.want) {
			t.Errorf("%s: got %v, want %v", c.name, got, c.want)
		}
		checkTwo(t, c.name, c.a, c.b)
	}
}

func TestP8GreatGraphs(t *testing.T) {
	ones := func(n int) []impl.Val { return slices.Repeat([]impl.Val{num(1)}, n) }
	n := impl.MaxTables
	// both have the mark at Root; the shorter ring comes back to it first
	a, b := withPair(ring(n), 0, text("mark"), num(1)), withPair(ring(n-1), 0, text("mark"), num(1))
	if p := impl.Apart(a, b); !slices.Equal(p, append(ones(n-1), text("mark"))) {
		t.Errorf("rings: %d keys", len(p))
	}
	if p := impl.Apart(withPair(chain(n, num(1)), n-1, num(1), num(0)), chain(n, num(1))); !slices.Equal(p, ones(n)) {
		t.Errorf("ways: %d keys", len(p))
	}
	// of very many ways as long the one by the first key only
	keys := manyKeys()
	first := slices.MinFunc(keys, impl.KeyOrder)
	wide := withPair(chain(n, keys...), n-1, text("end"), num(1))
	if p := impl.Apart(wide, chain(n, keys...)); !slices.Equal(p, append(slices.Repeat([]impl.Val{first}, n-1), text("end"))) {
		t.Errorf("wide ways: %v", p)
	}
	full := fullGraph()
	full.Tables[full.Root.At].Pairs[40].Val = num(1)
	if p := impl.Apart(fullGraph(), full); !slices.Equal(p, []impl.Val{num(40)}) {
		t.Errorf("full: %v", p)
	}
	if p := impl.Apart(ring(n), ring(n-1)); len(p) != 0 {
		t.Errorf("rings that are the same: %v", p)
	}
	if p := impl.Apart(ring(1), chain(n, num(1))); !slices.Equal(p, ones(n)) || impl.Same(ring(1), chain(n, num(1))) {
		t.Errorf("a ring and a way: %d keys", len(p))
	}
}

func TestP8AnyTwo(t *testing.T) {
	d := dice(9)
	long := 0
	for i := range 3000 {
		a := d.even(2 + d.below(8))
		b := d.doubled(a, len(a.Tables)+d.below(3))
		// one value more or other, anywhere
		at, key := d.below(len(b.Tables)), d.key()
		if modelAt(b.Tables[at], key) == none {
			b = withPair(b, at, key, d.val(len(b.Tables)))
		} else {
			b.Tables[at].Pairs[0].Val = d.val(len(b.Tables))
		}
		if len(impl.Apart(a, b)) > 3 {
			long++
		}
		checkTwo(t, fmt.Sprint("two ", i), a, b)
	}
	if long < 100 {
		t.Fatalf("only %d long paths: too few to tell", long)
	}
}

func TestP9Rings(t *testing.T) {
	for n := 1; n <= 60; n++ {
		if s := impl.Shrink(ring(n)); !graphsAlike(s, ring(1)) {
			t.Fatalf("ring of %d: Shrink %v", n, s)
		}
		if c := impl.Classes(ring(n)); !slices.Equal(c, make([]int, n)) {
			t.Fatalf("ring of %d: Classes %v", n, c)
		}
		at := n * 2 / 3
		more := withPair(ring(n), at, text("more"), num(1))
		all := slices.Repeat([]impl.Val{num(1)}, at)
		for m := 1; m <= 60; m++ {
			if !impl.Same(ring(n), ring(m)) || len(impl.Apart(ring(n), ring(m))) != 0 {
				t.Fatalf("rings of %d and %d are not the same", n, m)
			}
			if impl.Same(more, ring(m)) || impl.Same(ring(m), more) {
				t.Fatalf("a ring of %d with a pair more is the same as one of %d", n, m)
			}
			if p := impl.Apart(more, ring(m)); !slices.Equal(p, append(slices.Clone(all), text("more"))) {
				t.Fatalf("a ring of %d with a pair more at %d, and one of %d: Apart %v", n, at, m, p)
			}
		}
	}
}

// A mark at every fifth table is one ring, whatever the number of fives; a mark
// at another place, or at one place less, is another.
func TestP9MarkedRings(t *testing.T) {
	marked := func(n int) impl.Graph {
		g := ring(n)
		for i := 0; i < n; i += 5 {
			g = withPair(g, i, text("mark"), num(1))
		}
		return g
	}
	for n := 5; n <= impl.MaxTables; n += 5 {
		g := marked(n)
		if !impl.Same(g, marked(5)) || len(impl.Shrink(g).Tables) != 5 {
			t.Errorf("ring of %d marked at every fifth", n)
		}
		g.Tables[n-5].Pairs = g.Tables[n-5].Pairs[:1]
		if impl.Same(g, marked(5)) {
			t.Errorf("ring of %d with a mark less is the same", n)
		}
		if n > 5 && len(impl.Shrink(g).Tables) != n {
			t.Errorf("ring of %d with a mark less: %d tables", n, len(impl.Shrink(g).Tables))
		}
		if impl.Same(marked(n), marked(n-1)) {
			t.Errorf("ring of %d is the same as one whose last piece is no five", n)
		}
	}
}

func TestSameNothingWrittenNothingShared(t *testing.T) {
	d := dice(10)
	for i := range 300 {
		a := d.even(1 + d.below(8))
		if i%3 == 0 {
			a = d.graph(1+d.below(6), 6)
		}
		b := d.spoil(d.doubled(a, 8))
		a0, b0 := copyGraph(a), copyGraph(b)
		classes, shrunk, path := impl.Classes(a), impl.Shrink(a), impl.Apart(a, b)
		classes0, shrunk0, path0 := slices.Clone(classes), copyGraph(shrunk), slices.Clone(path)
		for k := range shrunk.Tables {
			each := impl.Shrink(a)
			overwrite(impl.Graph{Tables: []impl.Table{each.Tables[k]}})
			each.Tables[k] = shrunk0.Tables[k]
			if !graphsAlike(each, shrunk0) {
				t.Fatalf("graph %d: table %d of Shrink shares its pairs with another", i, k)
			}
		}
		overwrite(shrunk)
		for k := range classes[:cap(classes)] {
			classes[:cap(classes)][k] = -9
		}
		for k := range path[:cap(path)] {
			path[:cap(path)][k] = text("over")
		}
		if !graphsAlike(a, a0) || !graphsAlike(b, b0) {
			t.Fatalf("graph %d: an answer shares with it", i)
		}
		classes, shrunk, path = impl.Classes(a), impl.Shrink(a), impl.Apart(a, b)
		overwrite(a)
		overwrite(b)
		if !slices.Equal(classes, classes0) || !graphsAlike(shrunk, shrunk0) || !slices.Equal(path, path0) {
			t.Fatalf("graph %d: two answers, or one that shares with the graph", i)
		}
	}
}
