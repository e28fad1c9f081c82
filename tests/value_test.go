package tests

import (
	"fmt"
	"math"
	"reflect"
	"slices"
	"strings"
	"testing"

	"loop.example/cloth/impl"
)

var none = impl.Val{}

func flag(yes bool) impl.Val {
	if yes {
		return impl.Val{Kind: impl.VBool, Num: 1}
	}
	return impl.Val{Kind: impl.VBool}
}

func num(n int64) impl.Val { return impl.Val{Kind: impl.VInt, Num: n} }

func text(s string) impl.Val { return impl.Val{Kind: impl.VText, Text: s} }

func leads(at int) impl.Val { return impl.Val{Kind: impl.VTable, At: at} }

// tableOf makes a table of its keys and values, one behind the other.
func tableOf(keysAndVals ...impl.Val) impl.Table {
	var out impl.Table
	for i := 0; i < len(keysAndVals); i += 2 {
		out.Pairs = append(out.Pairs, impl.Pair{Key: keysAndVals[i], Val: keysAndVals[i+1]})
	}
	return out
}

func graphOf(root impl.Val, tables ...impl.Table) impl.Graph {
	return impl.Graph{Root: root, Tables: tables}
}

func copyGraph(g impl.Graph) impl.Graph {
	out := impl.Graph{Root: g.Root}
	for _, t := range g.Tables {
		out.Tables = append(out.Tables, impl.Table{Pairs: slices.Clone(t.Pairs)})
	}
	return out
}

// graphsAlike takes an empty list and nil as the same.
func graphsAlike(a, b impl.Graph) bool {
	return a.Root == b.Root && slices.EqualFunc(a.Tables, b.Tables, func(x, y impl.Table) bool {
		return slices.Equal(x.Pairs, y.Pairs)
	})
}

// ring is n tables, each with the next at 1, and the last with the first.
func ring(n int) impl.Graph {
	g := graphOf(leads(0))
	for i := range n {
		g.Tables = append(g.Tables, tableOf(num(1), leads((i+1)%n)))
	}
	return g
}

// manyPairs is a table of n pairs.
func manyPairs(n int) impl.Table {
	var out impl.Table
	for i := range n {
		out.Pairs = append(out.Pairs, impl.Pair{Key: num(int64(i)), Val: flag(true)})
	}
	return out
}

// fullGraph is as great as a graph may be, each of its tables holding many.
func fullGraph() impl.Graph {
	g := graphOf(leads(impl.MaxTables - 1))
	for i := range impl.MaxTables {
		var t impl.Table
		for k := range impl.MaxPairs {
			t.Pairs = append(t.Pairs, impl.Pair{Key: num(int64(k)), Val: leads((i*7 + k*3 + 1) % impl.MaxTables)})
		}
		g.Tables = append(g.Tables, t)
	}
	return g
}

// shared has 2 at two places, a ring from 1 to 3, a table in itself, and one that is not met.
func shared() impl.Graph {
	return graphOf(leads(3),
		tableOf(text("not met"), leads(1)),
		tableOf(flag(false), leads(3), num(-7), leads(2)),
		tableOf(text(""), text("a \x00 \xff"), flag(true), leads(2)),
		tableOf(text("b"), leads(2), text("a"), leads(1), num(0), flag(false)),
	)
}

// modelIsVal tells what chapter 2 says of a value, field by field.
func modelIsVal(v impl.Val, tables int) bool {
	switch v.Kind {
	case 0:
		return v.Num == 0 && v.Text == "" && v.At == 0
	case 1:
		return (v.Num == 0 || v.Num == 1) && v.Text == "" && v.At == 0
	case 2:
		return v.Text == "" && v.At == 0
	case 3:
		return v.Num == 0 && len(v.Text) <= 500 && v.At == 0
	case 4:
		return v.Num == 0 && v.Text == "" && 0 <= v.At && v.At < tables
	}
	return false
}

func modelOk(g impl.Graph) bool {
	if len(g.Tables) > 200 || !modelIsVal(g.Root, len(g.Tables)) {
		return false
	}
	for _, t := range g.Tables {
		if len(t.Pairs) > 100 {
			return false
		}
		for i, p := range t.Pairs {
			if !modelIsVal(p.Key, 0) || p.Key.Kind == 0 || !modelIsVal(p.Val, len(g.Tables)) || p.Val.Kind == 0 {
				return false
			}
			for _, q := range t.Pairs[:i] {
				if p.Key == q.Key {
					return false
				}
			}
		}
	}
	return true
}

// modelCanon meets with a list of what is still to be looked at, its last first.
func modelCanon(g impl.Graph) impl.Graph {
	if !modelOk(g) {
		return impl.Graph{}
	}
	var met []int
	todo := []impl.Val{g.Root}
	for len(todo) > 0 {
		v := todo[len(todo)-1]
		todo = todo[:len(todo)-1]
		if v.Kind != impl.VTable || slices.Contains(met, v.At) {
			continue
		}
		met = append(met, v.At)
		for _, p := range slices.Backward(g.Tables[v.At].Pairs) {
			todo = append(todo, p.Val)
		}
	}
	anew := func(v impl.Val) impl.Val {
		if v.Kind == impl.VTable {
			v.At = slices.Index(met, v.At)
		}
		return v
	}
	out := impl.Graph{Root: anew(g.Root)}
	for _, at := range met {
		var t impl.Table
		for _, p := range g.Tables[at].Pairs {
			t.Pairs = append(t.Pairs, impl.Pair{Key: p.Key, Val: anew(p.Val)})
		}
		out.Tables = append(out.Tables, t)
	}
	return out
}

func modelGet(g impl.Graph, path []impl.Val) impl.Val {
	if !modelOk(g) {
		return none
	}
	v := g.Root
	for _, key := range path {
		if v.Kind != impl.VTable {
			return none
		}
		pairs := g.Tables[v.At].Pairs
		i := slices.IndexFunc(pairs, func(p impl.Pair) bool { return p.Key == key })
		if i < 0 {
			return none
		}
		v = pairs[i].Val
	}
	return v
}

// checkGraph holds all answers about a graph against the models.
func checkGraph(t *testing.T, name string, g impl.Graph, paths ...[]impl.Val) {
	t.Helper()
	before := copyGraph(g)
	ok := impl.GraphOk(g)
	if want := modelOk(g); ok != want {
		t.Fatalf("%s: GraphOk %v, want %v", name, ok, want)
	}
	c := impl.Canon(g)
	if want := modelCanon(g); !graphsAlike(c, want) {
		t.Fatalf("%s: Canon\ngot  %v\nwant %v", name, c, want)
	}
	if ok && (!impl.GraphOk(c) || !graphsAlike(impl.Canon(c), c)) {
		t.Fatalf("%s: Canon is not its own: %v", name, c)
	}
	for _, path := range append(paths, nil) {
		got, want := impl.Get(g, path), modelGet(g, path)
		if got != want {
			t.Fatalf("%s: Get at %v: got %v, want %v", name, path, got, want)
		}
		if end := impl.Get(c, path); end.Kind != got.Kind || end.Num != got.Num || end.Text != got.Text {
			t.Fatalf("%s: Get at %v: %v, but in its Canon %v", name, path, got, end)
		}
	}
	if !graphsAlike(g, before) {
		t.Fatalf("%s: the graph was written into", name)
	}
}

// notVals are no values, in a graph of so many tables.
func notVals(tables int) []impl.Val {
	long := strings.Repeat("x", impl.MaxText+1)
	return []impl.Val{
		{Kind: -1}, {Kind: 5}, {Kind: math.MinInt}, {Kind: math.MaxInt}, {Kind: 1 << 32},
		{Kind: impl.VNil, Num: 1}, {Kind: impl.VNil, Text: "a"}, {Kind: impl.VNil, At: 1}, {Kind: impl.VNil, At: -1},
		{Kind: impl.VBool, Num: 2}, {Kind: impl.VBool, Num: -1}, {Kind: impl.VBool, Num: 1 << 32}, {Kind: impl.VBool, Num: math.MinInt64},
		{Kind: impl.VBool, Text: "a"}, {Kind: impl.VBool, Num: 1, At: 1}, {Kind: impl.VBool, At: -1},
		{Kind: impl.VInt, Num: 3, Text: "3"}, {Kind: impl.VInt, Num: 3, At: 1}, {Kind: impl.VInt, At: math.MinInt},
		{Kind: impl.VText, Num: 1}, {Kind: impl.VText, Text: "a", Num: -1}, {Kind: impl.VText, Text: "a", At: 1},
		{Kind: impl.VText, Text: long}, {Kind: impl.VText, Text: strings.Repeat(long, 100)},
		{Kind: impl.VTable, At: tables}, {Kind: impl.VTable, At: -1}, {Kind: impl.VTable, At: math.MaxInt}, {Kind: impl.VTable, At: math.MinInt},
		{Kind: impl.VTable, Num: 1}, {Kind: impl.VTable, Text: "a"},
	}
}

func TestP3WellMade(t *testing.T) {
	full := strings.Repeat("\xff", impl.MaxText)
	for name, g := range map[string]impl.Graph{
		"nothing at all":               {},
		"no tables, nil":               {Root: none, Tables: nil},
		"no tables, empty":             {Root: num(4), Tables: []impl.Table{}},
		"a bool":                       graphOf(flag(true)),
		"a number":                     graphOf(num(math.MinInt64)),
		"a text":                       graphOf(text("a")),
		"a text of MaxText bytes":      graphOf(text(full)),
		"a text of bytes, not runes":   graphOf(text(strings.Repeat("é", impl.MaxText/2))),
		"MaxText bytes in key and val": graphOf(leads(0), tableOf(text(full), text(full))),
		"an empty table":               graphOf(leads(0), impl.Table{}),
		"a table not met":              graphOf(num(1), tableOf(num(1), leads(0))),
		"shared":                       shared(),
		"ring of 1":                    ring(1),
		"ring of MaxTables":            ring(impl.MaxTables),
		"MaxTables, empty":             {Root: leads(impl.MaxTables - 1), Tables: make([]impl.Table, impl.MaxTables)},
		"MaxPairs":                     graphOf(leads(0), manyPairs(impl.MaxPairs)),
		"full":                         fullGraph(),
		"keys alike but for the kind":  graphOf(leads(0), tableOf(flag(true), num(1), num(1), num(1), text("1"), num(1), text("true"), num(1), num(0), num(1), flag(false), num(1), text(""), num(1))),
		"one key in two tables":        graphOf(leads(0), tableOf(num(1), leads(1)), tableOf(num(1), leads(0))),
	} {
		if !impl.GraphOk(g) {
			t.Errorf("%s: not well made", name)
		}
		checkGraph(t, name, g)
	}
}

func TestP3NotWellMade(t *testing.T) {
	cases := map[string]impl.Graph{
		"one table too many":             {Root: leads(0), Tables: make([]impl.Table, impl.MaxTables+1)},
		"one table too many, none met":   {Tables: make([]impl.Table, impl.MaxTables+1)},
		"one pair too many":              graphOf(leads(0), manyPairs(impl.MaxPairs+1)),
		"one pair too many, not met":     graphOf(none, impl.Table{}, manyPairs(impl.MaxPairs+1)),
		"a table, and none is there":     graphOf(leads(0)),
		"bytes, not runes, are counted":  graphOf(text(strings.Repeat("é", impl.MaxText/2) + "e")),
		"a key twice, beside each other": graphOf(leads(0), tableOf(num(1), num(1), num(1), num(2))),
		"a key twice, first and last":    graphOf(leads(0), tableOf(text("a"), num(1), num(1), num(2), text("b"), num(3), text("a"), num(1))),
		"a bool twice":                   graphOf(leads(0), tableOf(flag(false), num(1), flag(true), num(2), flag(false), num(2))),
		"a key twice, not met":           graphOf(none, tableOf(text(""), num(1), text(""), num(2))),
		"a key that is nothing":          graphOf(leads(0), tableOf(none, num(1))),
		"a key that is a table":          graphOf(leads(0), tableOf(leads(0), num(1))),
		"a value that is nothing":        graphOf(leads(0), tableOf(num(1), none)),
		"a value that is nothing, last":  graphOf(leads(0), tableOf(num(1), num(1), num(2), none)),
	}
	for i, v := range notVals(2) {
		cases[fmt.Sprint("root ", i)] = graphOf(v, impl.Table{}, impl.Table{})
		cases[fmt.Sprint("key ", i)] = graphOf(leads(0), tableOf(num(3), num(3)), tableOf(v, num(3)))
		cases[fmt.Sprint("value ", i)] = graphOf(leads(1), impl.Table{}, tableOf(num(1), num(1), num(2), v))
		cases[fmt.Sprint("value not met ", i)] = graphOf(num(1), tableOf(num(1), v), impl.Table{})
	}
	for name, g := range cases {
		if impl.GraphOk(g) {
			t.Errorf("%s: well made", name)
		}
		if c := impl.Canon(g); !reflect.DeepEqual(c, impl.Graph{}) {
			t.Errorf("%s: Canon %v", name, c)
		}
		for _, path := range [][]impl.Val{nil, {num(1)}, {num(3)}, {text("a")}} {
			if v := impl.Get(g, path); v != none {
				t.Errorf("%s: Get %v", name, v)
			}
		}
		checkGraph(t, name, g)
	}
}

func TestP3KeyOrder(t *testing.T) {
	inOrder := []impl.Val{
		flag(false), flag(true),
		num(math.MinInt64), num(math.MinInt64 + 1), num(-256), num(-1), num(0), num(1), num(2), num(10), num(1 << 32), num(math.MaxInt64 - 1), num(math.MaxInt64),
		text(""), text("\x00"), text("\x00\x00"), text("0"), text("10"), text("9"), text("A"), text("B"), text("a"), text("a\x00"), text("aa"), text("ab"), text("b"),
		text(strings.Repeat("c", impl.MaxText-1)), text(strings.Repeat("c", impl.MaxText)), text("e\u0301"), text("\x7f"), text("\x80"), text("\u00e9"), text("\uffff"), text("\U00010000"), text("\xff"),
	}
	for i, a := range inOrder {
		for k, b := range inOrder {
			want := 0
			if i < k {
				want = -1
			} else if i > k {
				want = 1
			}
			if got := impl.KeyOrder(a, b); got != want {
				t.Errorf("%#v and %#v: %d, want %d", a, b, got, want)
			}
		}
	}
	noKeys := append(notVals(0), none, leads(0), leads(1))
	for _, no := range noKeys {
		for _, other := range append(slices.Clone(inOrder), noKeys...) {
			if x, y := impl.KeyOrder(no, other), impl.KeyOrder(other, no); x != 2 || y != 2 {
				t.Errorf("%#v and %#v: %d and %d", no, other, x, y)
			}
		}
	}
}

func TestP3CanonTold(t *testing.T) {
	for _, c := range []struct {
		name string
		g    impl.Graph
		want impl.Graph
	}{
		{"no table", graphOf(text("a")), graphOf(text("a"))},
		{"none is met", graphOf(num(1), tableOf(num(1), leads(1)), tableOf(num(1), leads(0))), graphOf(num(1))},
		{"an empty one", graphOf(leads(1), impl.Table{}, impl.Table{}), graphOf(leads(0), impl.Table{})},
		{"shared", shared(), graphOf(leads(0),
			tableOf(text("b"), leads(1), text("a"), leads(2), num(0), flag(false)),
			tableOf(text(""), text("a \x00 \xff"), flag(true), leads(1)),
			tableOf(flag(false), leads(0), num(-7), leads(1)))},
		// 2 is met within 0, ahead of 1, though Root's table has 1 ahead of 2
		{"within others first", graphOf(leads(3),
			tableOf(num(1), leads(2), num(2), leads(1)),
			impl.Table{},
			tableOf(num(1), leads(1)),
			tableOf(num(1), leads(0), num(2), leads(1), num(3), leads(2))),
			graphOf(leads(0),
				tableOf(num(1), leads(1), num(2), leads(3), num(3), leads(2)),
				tableOf(num(1), leads(2), num(2), leads(3)),
				tableOf(num(1), leads(3)),
				impl.Table{})},
		{"pairs' order, not the keys'", graphOf(leads(0),
			tableOf(num(2), leads(2), num(1), leads(1)),
			tableOf(text("k"), num(1)),
			tableOf(text("k"), num(2))),
			graphOf(leads(0),
				tableOf(num(2), leads(1), num(1), leads(2)),
				tableOf(text("k"), num(2)),
				tableOf(text("k"), num(1)))},
		{"alike, but two", graphOf(leads(0), tableOf(num(1), leads(2), num(2), leads(1)), impl.Table{}, impl.Table{}),
			graphOf(leads(0), tableOf(num(1), leads(1), num(2), leads(2)), impl.Table{}, impl.Table{})},
	} {
		if got := impl.Canon(c.g); !graphsAlike(got, c.want) {
			t.Errorf("%s\ngot  %v\nwant %v", c.name, got, c.want)
		}
	}
}

func TestP3GetTold(t *testing.T) {
	g := shared()
	for _, c := range []struct {
		name string
		path []impl.Val
		want impl.Val
	}{
		{"no key: Root", nil, leads(3)},
		{"a table, by its number in this graph", []impl.Val{text("a")}, leads(1)},
		{"no table", []impl.Val{num(0)}, flag(false)},
		{"round a ring", []impl.Val{text("a"), flag(false), text("a"), num(-7)}, leads(2)},
		{"in itself", []impl.Val{text("b"), flag(true), flag(true), flag(true), text("")}, text("a \x00 \xff")},
		{"not there", []impl.Val{text("c")}, none},
		{"another kind", []impl.Val{text("0")}, none},
		{"a bool for a number", []impl.Val{flag(false)}, none},
		{"behind what is not there", []impl.Val{text("c"), text("a")}, none},
		{"behind what is not there, farther", []impl.Val{text("c"), text("a"), num(0)}, none},
		{"behind a bool", []impl.Val{num(0), num(0)}, none},
		{"behind a text", []impl.Val{text("b"), text(""), text("")}, none},
		{"behind a text, farther", []impl.Val{text("b"), text(""), text(""), flag(true)}, none},
		{"nothing as a key", []impl.Val{none}, none},
		{"a table as a key", []impl.Val{leads(1)}, none},
		{"only in a table that is not met", []impl.Val{text("not met")}, none},
	} {
		if got := impl.Get(g, c.path); got != c.want {
			t.Errorf("%s: got %v, want %v", c.name, got, c.want)
		}
	}
	for _, no := range notVals(4) {
		wide := graphOf(leads(0), tableOf(num(3), num(1), num(0), num(1), flag(true), num(1), flag(false), num(1), text("a"), num(1), text(""), num(1)))
		if got := impl.Get(wide, []impl.Val{no}); got != none {
			t.Errorf("key %v: %v", no, got)
		}
	}
	for _, root := range []impl.Val{none, flag(true), num(1), text("a")} {
		if got := impl.Get(graphOf(root), nil); got != root {
			t.Errorf("Root %v: %v", root, got)
		}
		if got := impl.Get(graphOf(root), []impl.Val{num(1)}); got != none {
			t.Errorf("behind Root %v: %v", root, got)
		}
	}
	if got := impl.Get(ring(7), slices.Repeat([]impl.Val{num(1)}, 100003)); got != leads(100003%7) {
		t.Errorf("a long way: %v", got)
	}
}

func (d *dice) key() impl.Val {
	switch d.below(3) {
	case 0:
		return flag(d.below(2) == 1)
	case 1:
		return num(int64(d.below(4) - 1))
	}
	return text([]string{"", "a", "b", "ab"}[d.below(4)])
}

func (d *dice) val(tables int) impl.Val {
	if tables > 0 && d.below(3) > 0 {
		return leads(d.below(tables))
	}
	return d.key()
}

// graph is well made.
func (d *dice) graph(tables, pairs int) impl.Graph {
	var g impl.Graph
	for range tables {
		var t impl.Table
		for range d.below(pairs + 1) {
			key := d.key()
			if !slices.ContainsFunc(t.Pairs, func(p impl.Pair) bool { return p.Key == key }) {
				t.Pairs = append(t.Pairs, impl.Pair{Key: key, Val: d.val(tables)})
			}
		}
		g.Tables = append(g.Tables, t)
	}
	g.Root = d.val(tables)
	if d.below(10) == 0 {
		g.Root = none
	}
	return g
}

// spoil changes one value of the graph; it may be well made all the same.
func (d *dice) spoil(g impl.Graph) impl.Graph {
	places := []*impl.Val{&g.Root}
	for _, t := range g.Tables {
		for i := range t.Pairs {
			places = append(places, &t.Pairs[i].Key, &t.Pairs[i].Val)
		}
	}
	v := places[d.below(len(places))]
	switch d.below(5) {
	case 0:
		v.Kind = d.below(7) - 1
	case 1:
		v.Num = int64(d.below(4) - 1)
	case 2:
		v.Text = []string{"", "a"}[d.below(2)]
	case 3:
		v.At = d.below(len(g.Tables)+2) - 1
	case 4:
		*v = none
	}
	return g
}

func (d *dice) path() []impl.Val {
	var out []impl.Val
	for range d.below(7) {
		out = append(out, d.key())
	}
	return out
}

func TestP3AnyGraph(t *testing.T) {
	d := dice(2)
	well, spoilt := 0, 0
	for i := range 6000 {
		g := d.graph(d.below(9), 8)
		checkGraph(t, fmt.Sprint("graph ", i), g, d.path(), d.path(), d.path())
		if !impl.GraphOk(g) {
			t.Fatalf("graph %d is not well made: %v", i, g)
		}
		g = d.spoil(g)
		checkGraph(t, fmt.Sprint("spoilt graph ", i), g, d.path())
		if impl.GraphOk(g) {
			well++
		} else {
			spoilt++
		}
	}
	if well < 500 || spoilt < 500 {
		t.Fatalf("%d well made, %d not: too few to tell", well, spoilt)
	}
}

// overwrite fills all that a graph's lists hold or have room for.
func overwrite(g impl.Graph) {
	for _, t := range g.Tables {
		pairs := t.Pairs[:cap(t.Pairs)]
		for i := range pairs {
			pairs[i] = impl.Pair{Key: text("over"), Val: text("written")}
		}
	}
	tables := g.Tables[:cap(g.Tables)]
	for i := range tables {
		tables[i] = tableOf(text("over"), text("written"))
	}
}

func TestP3NothingWrittenNothingShared(t *testing.T) {
	d := dice(3)
	graphs := []impl.Graph{shared(), ring(5), graphOf(leads(0), manyPairs(impl.MaxPairs)), {}, impl.Canon(shared())}
	for range 200 {
		graphs = append(graphs, d.graph(6, 6))
	}
	for i, g := range graphs {
		before := copyGraph(g)
		c := impl.Canon(g)
		want := copyGraph(c)
		for k := range c.Tables {
			each := impl.Canon(g)
			overwrite(impl.Graph{Tables: []impl.Table{each.Tables[k]}})
			each.Tables[k] = want.Tables[k]
			if !graphsAlike(each, want) {
				t.Fatalf("graph %d: table %d shares its pairs with another", i, k)
			}
		}
		overwrite(c)
		if !graphsAlike(g, before) {
			t.Fatalf("graph %d: Canon's answer shares with the graph", i)
		}
		again := impl.Canon(g)
		if !graphsAlike(again, want) {
			t.Fatalf("graph %d: two answers for one graph", i)
		}
		overwrite(g)
		if !graphsAlike(again, want) {
			t.Fatalf("graph %d: the graph shares with Canon's answer", i)
		}
	}
	g, path := shared(), []impl.Val{text("a"), none, {Kind: 9, Num: 9}}
	first := impl.Get(g, path[:1])
	impl.Get(g, path)
	if !slices.Equal(path, []impl.Val{text("a"), none, {Kind: 9, Num: 9}}) || !graphsAlike(g, shared()) || first != impl.Get(g, path[:1]) {
		t.Error("Get wrote into its arguments")
	}
}
