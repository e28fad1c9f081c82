package tests

import (
	"fmt"
	"math"
	"slices"
	"strings"
	"testing"

	"loop.example/cloth/impl"
)

// modelFrozen is the text of a well made graph, however long. It goes through
// the canonical form, in which a value leads to a table that is not met yet
// just when it has the next number.
func modelFrozen(g impl.Graph) string {
	c := modelCanon(g)
	labels, next := modelLabels(c), 0
	var of func(v impl.Val) string
	of = func(v impl.Val) string {
		switch {
		case v.Kind != impl.VTable:
			return modelPlain(v)
		case v.At != next:
			return labels[v.At]
		}
		next++
		var pairs []string
		for _, p := range c.Tables[v.At].Pairs {
			pairs = append(pairs, modelPlain(p.Key)+": "+of(p.Val))
		}
		out := "{" + strings.Join(pairs, ", ") + "}"
		if labels[v.At] != "" {
			out = labels[v.At] + "=" + out
		}
		return out
	}
	return of(c.Root)
}

// modelLabels is for each table of a canonical graph # and its number, or empty.
func modelLabels(c impl.Graph) []string {
	leads := make([]int, len(c.Tables))
	vals := []impl.Val{c.Root}
	for _, t := range c.Tables {
		for _, p := range t.Pairs {
			vals = append(vals, p.Val)
		}
	}
	for _, v := range vals {
		if v.Kind == impl.VTable {
			leads[v.At]++
		}
	}
	out, last := make([]string, len(leads)), 0
	for i, n := range leads {
		if n > 1 {
			last++
			out[i] = fmt.Sprintf("#%d", last)
		}
	}
	return out
}

func modelPlain(v impl.Val) string {
	switch v.Kind {
	case impl.VNil:
		return "nil"
	case impl.VBool:
		return []string{"false", "true"}[v.Num]
	case impl.VInt:
		return fmt.Sprint(v.Num)
	}
	out := ""
	for i := range len(v.Text) {
		out += modelByte(v.Text[i])
	}
	return `"` + out + `"`
}

func modelByte(b byte) string {
	switch {
	case b == '"':
		return `\"`
	case b == '\\':
		return `\\`
	case b >= ' ' && b <= '~':
		return string(rune(b))
	}
	return fmt.Sprintf(`\%02x`, b)
}

// checkFreeze holds Freeze against the model, and asks that the graph is not
// written into and has one text, its Canon's too.
func checkFreeze(t *testing.T, name string, g impl.Graph) {
	t.Helper()
	before := copyGraph(g)
	want := ""
	if modelOk(g) {
		want = modelFrozen(g)
	}
	if len(want) > 20000 {
		want = ""
	}
	got := impl.Freeze(g)
	if got != want {
		t.Fatalf("%s: Freeze of %v\ngot  %s\nwant %s", name, g, got, want)
	}
	if again := impl.Freeze(g); again != got {
		t.Fatalf("%s: two texts of one graph\n%s\n%s", name, got, again)
	}
	if got != "" && impl.Freeze(impl.Canon(g)) != got {
		t.Fatalf("%s: Canon has another text than %s", name, got)
	}
	if !graphsAlike(g, before) {
		t.Fatalf("%s: the graph was written into", name)
	}
}

// plainTold is values that are no tables, and what is written for them.
func plainTold() map[string]impl.Val {
	return map[string]impl.Val{
		`false`:                              flag(false),
		`true`:                               flag(true),
		`0`:                                  num(0),
		`1`:                                  num(1),
		`-1`:                                 num(-1),
		`10`:                                 num(10),
		`1000000`:                            num(1000000),
		`9223372036854775807`:                num(math.MaxInt64),
		`-9223372036854775808`:               num(math.MinInt64),
		`""`:                                 text(""),
		`"a"`:                                text("a"),
		`"nil"`:                              text("nil"),
		`"-7"`:                               text("-7"),
		`"#1={}"`:                            text("#1={}"),
		`"a, b: c"`:                          text("a, b: c"),
		`"\""`:                               text(`"`),
		`"\\"`:                               text(`\`),
		`"\\\""`:                             text(`\"`),
		`"\\0a"`:                             text(`\0a`),
		`"'` + "`" + `/"`:                    text("'`/"),
		`"\00\01\09\0a\0d\1b\1f ~\7f\80\ff"`: text("\x00\x01\t\n\r\x1b\x1f ~\x7f\x80\xff"),
		`"\c3\a9 \e2\82\ac"`:                 text("é €"),
		`"` + strings.Repeat("x", impl.MaxText) + `"`:      text(strings.Repeat("x", impl.MaxText)),
		`"` + strings.Repeat(`\ab`, impl.MaxText) + `"`:    text(strings.Repeat("\xab", impl.MaxText)),
		`"` + strings.Repeat(`\"\\`, impl.MaxText/2) + `"`: text(strings.Repeat(`"\`, impl.MaxText/2)),
	}
}

func TestP4PlainTold(t *testing.T) {
	if got := impl.Freeze(graphOf(none)); got != "nil" {
		t.Errorf("nothing: %s", got)
	}
	for want, v := range plainTold() {
		for _, c := range []struct {
			name string
			g    impl.Graph
			want string
		}{
			{"Root", graphOf(v), want},
			{"a value", graphOf(leads(0), tableOf(num(5), v)), "{5: " + want + "}"},
			{"a key", graphOf(leads(0), tableOf(v, num(5))), "{" + want + ": 5}"},
			{"key and value", graphOf(leads(0), tableOf(v, v)), "{" + want + ": " + want + "}"},
			// a value that is no table has no label, however often it is there
			{"more than once", graphOf(leads(0), tableOf(num(2), v, num(3), v, num(4), leads(1)), tableOf(num(2), v)), "{2: " + want + ", 3: " + want + ", 4: {2: " + want + "}}"},
		} {
			if got := impl.Freeze(c.g); got != c.want {
				t.Errorf("%s: got %s, want %s", c.name, got, c.want)
			}
			checkFreeze(t, c.name, c.g)
		}
	}
}

func TestP4EveryByte(t *testing.T) {
	for i := range 256 {
		b := byte(i)
		want := fmt.Sprintf(`\%02x`, b)
		if b == '"' || b == '\\' {
			want = `\` + string(rune(b))
		} else if b >= 32 && b <= 126 {
			want = string(rune(b))
		}
		for _, around := range []string{"", "0", "f", "\\", "\"", "\xc3"} {
			s := around + string([]byte{b}) + around
			edge := modelPlain(text(around))
			edge = edge[1 : len(edge)-1]
			if got := impl.Freeze(graphOf(text(s))); got != `"`+edge+want+edge+`"` {
				t.Errorf("byte %d within %q: %s", b, around, got)
			}
		}
		if got := impl.Freeze(graphOf(leads(0), tableOf(text(string([]byte{b, b})), num(1)))); got != `{"`+want+want+`": 1}` {
			t.Errorf("byte %d in a key: %s", b, got)
		}
	}
}

func TestP4TablesTold(t *testing.T) {
	for _, c := range []struct {
		name string
		g    impl.Graph
		want string
	}{
		{"an empty one", graphOf(leads(0), impl.Table{}), "{}"},
		{"empty ones in one", graphOf(leads(0), tableOf(num(1), leads(1), num(2), leads(2)), impl.Table{}, impl.Table{}), "{1: {}, 2: {}}"},
		{"pairs in their order, not the keys'", graphOf(leads(0), tableOf(text("b"), num(1), text("a"), num(2), num(3), num(4), flag(true), flag(false), num(-3), text(""))),
			`{"b": 1, "a": 2, 3: 4, true: false, -3: ""}`},
		{"each led to once", chain(4, num(1)), "{1: {1: {1: {}}}}"},
		{"alike, but not one", graphOf(leads(0), tableOf(num(1), leads(1), num(2), leads(2)), tableOf(num(3), num(4)), tableOf(num(3), num(4))), "{1: {3: 4}, 2: {3: 4}}"},
		{"one at two keys", graphOf(leads(0), tableOf(num(1), leads(1), num(2), leads(1)), tableOf(num(3), num(4))), "{1: #1={3: 4}, 2: #1}"},
		{"an empty one at three keys", graphOf(leads(1), impl.Table{}, tableOf(num(1), leads(0), num(2), leads(0), num(3), leads(0))), "{1: #1={}, 2: #1, 3: #1}"},
		{"Root in itself", ring(1), "#1={1: #1}"},
		{"Root in itself twice", graphOf(leads(0), tableOf(num(1), leads(0), num(2), leads(0))), "#1={1: #1, 2: #1}"},
		{"a ring through Root", ring(3), "#1={1: {1: {1: #1}}}"},
		{"a ring through Root, from another place", graphOf(leads(2), ring(3).Tables...), "#1={1: {1: {1: #1}}}"},
		{"a ring below Root", graphOf(leads(3), append(ring(3).Tables, tableOf(text("in"), leads(1)))...), `{"in": #1={1: {1: {1: #1}}}}`},
		{"one in itself below Root", graphOf(leads(0), tableOf(num(1), leads(1)), tableOf(num(1), leads(1))), "{1: #1={1: #1}}"},
		{"a ring within a ring", graphOf(leads(0), tableOf(num(1), leads(1)), tableOf(num(1), leads(2), num(2), leads(1), num(3), leads(0)), tableOf(num(1), leads(0))),
			"#1={1: #2={1: {1: #1}, 2: #2, 3: #1}}"},
		{"shared", shared(), `#1={"b": #2={"": "a \00 \ff", true: #2}, "a": {false: #1, -7: #2}, 0: false}`},
		{"labels as they are written, not as they come again",
			graphOf(leads(0), tableOf(num(1), leads(1), num(2), leads(2), num(3), leads(3), num(4), leads(3), num(5), leads(2), num(6), leads(1)), impl.Table{}, impl.Table{}, impl.Table{}),
			"{1: #1={}, 2: #2={}, 3: #3={}, 4: #3, 5: #2, 6: #1}"},
		{"labels as they are written, not as tables end",
			graphOf(leads(0), tableOf(num(1), leads(1), num(2), leads(2), num(3), leads(1)), tableOf(num(1), leads(2)), impl.Table{}),
			"{1: #1={1: #2={}}, 2: #2, 3: #1}"},
		{"labels as they are written, not by place",
			graphOf(leads(2), impl.Table{}, impl.Table{}, tableOf(num(2), leads(1), num(1), leads(0), num(3), leads(0), num(4), leads(1))),
			"{2: #1={}, 1: #2={}, 3: #2, 4: #1}"},
		{"no number is left out for those without a label",
			graphOf(leads(0), tableOf(num(1), leads(1), num(2), leads(2), num(3), leads(3), num(4), leads(4), num(5), leads(2), num(6), leads(4)), impl.Table{}, impl.Table{}, impl.Table{}, impl.Table{}),
			"{1: {}, 2: #1={}, 3: {}, 4: #2={}, 5: #1, 6: #2}"},
		{"met first deep inside", graphOf(leads(0), tableOf(num(1), leads(1), num(2), leads(3)), tableOf(num(1), leads(2)), tableOf(num(1), leads(3)), tableOf(num(9), num(9))),
			"{1: {1: {1: #1={9: 9}}}, 2: #1}"},
		{"within one that is shared", graphOf(leads(0), tableOf(num(1), leads(1), num(2), leads(1)), tableOf(num(3), leads(2)), impl.Table{}), "{1: #1={3: {}}, 2: #1}"},
	} {
		if got := impl.Freeze(c.g); got != c.want {
			t.Errorf("%s\ngot  %s\nwant %s", c.name, got, c.want)
		}
		checkFreeze(t, c.name, c.g)
	}
}

func TestP4NotMet(t *testing.T) {
	for _, c := range []struct {
		name string
		g    impl.Graph
		want string
	}{
		{"Root is nothing", graphOf(none, ring(3).Tables...), "nil"},
		{"Root is a number", graphOf(num(0), impl.Table{}), "0"},
		{"leads to Root", graphOf(leads(1), tableOf(num(1), leads(1), num(2), leads(1)), impl.Table{}), "{}"},
		{"leads below Root", graphOf(leads(0), tableOf(num(1), leads(1)), impl.Table{}, tableOf(num(1), leads(1), num(2), leads(1))), "{1: {}}"},
		{"a ring that leads to all", graphOf(leads(2), tableOf(num(1), leads(1), num(2), leads(2), num(3), leads(3)), tableOf(num(1), leads(0), num(2), leads(2)), tableOf(num(1), leads(3)), impl.Table{}), "{1: {}}"},
		{"beside what is shared", graphOf(leads(1), tableOf(num(1), leads(2), num(2), leads(3)), tableOf(num(1), leads(2), num(2), leads(3), num(3), leads(3)), impl.Table{}, impl.Table{}), "{1: {}, 2: #1={}, 3: #1}"},
	} {
		if got := impl.Freeze(c.g); got != c.want {
			t.Errorf("%s: got %s, want %s", c.name, got, c.want)
		}
		checkFreeze(t, c.name, c.g)
	}
}

func TestP4ManyLabels(t *testing.T) {
	n := impl.MaxTables
	head, tail := "", "{}"
	for i := 1; i < n; i++ {
		head += fmt.Sprintf("{1: #%d=", i)
		tail += fmt.Sprintf(", 2: #%d}", n-i)
	}
	if got := impl.Freeze(chain(n, num(1), num(2))); got != head+tail {
		t.Errorf("a way of shared tables\ngot  %s\nwant %s", got, head+tail)
	}
	if got, want := impl.Freeze(ring(n)), "#1={1: "+strings.Repeat("{1: ", n-1)+"#1"+strings.Repeat("}", n); got != want {
		t.Errorf("a ring\ngot  %s\nwant %s", got, want)
	}
	// Root leads to half of them and the first to the other half; the last leads to all of Root's
	wide := graphOf(leads(0), make([]impl.Table, n)...)
	for i := range n/2 - 1 {
		wide.Tables[0].Pairs = append(wide.Tables[0].Pairs, impl.Pair{Key: num(int64(-i)), Val: leads(i + 1)})
		wide.Tables[1].Pairs = append(wide.Tables[1].Pairs, impl.Pair{Key: num(int64(i)), Val: leads(n/2 + i)})
		wide.Tables[n-2].Pairs = append(wide.Tables[n-2].Pairs, impl.Pair{Key: text(fmt.Sprint(i)), Val: leads(i + 1)})
	}
	checkFreeze(t, "wide", wide)
	if got := impl.Freeze(wide); !strings.Contains(got, "#99={}}") || strings.Contains(got, "#100") {
		t.Errorf("wide: %s", got)
	}
}

// padded is shapes whose text grows by one byte with each byte of padding.
func padded() map[string]func(pad int) impl.Graph {
	spread := func(t *impl.Table, pad int) {
		const places = 60
		for i := range places {
			t.Pairs = append(t.Pairs, impl.Pair{Key: num(int64(10 + i)), Val: text(strings.Repeat("p", (pad+i)/places))})
		}
	}
	return map[string]func(int) impl.Graph{
		"one table": func(pad int) impl.Graph {
			g := graphOf(leads(0), impl.Table{})
			spread(&g.Tables[0], pad)
			return g
		},
		"the end of a way": func(pad int) impl.Graph {
			g := chain(impl.MaxTables, text("next"))
			spread(&g.Tables[impl.MaxTables-1], pad)
			return g
		},
		"a ring with its label": func(pad int) impl.Graph {
			g := ring(3)
			spread(&g.Tables[1], pad)
			return g
		},
		"a label at the end": func(pad int) impl.Graph {
			g := graphOf(leads(0), impl.Table{}, impl.Table{})
			spread(&g.Tables[1], pad)
			g.Tables[0] = tableOf(num(1), leads(1), num(2), leads(1))
			return g
		},
		"bytes that are written as three": func(pad int) impl.Graph {
			g := graphOf(leads(0), impl.Table{})
			spread(&g.Tables[0], pad)
			for i := range 5 {
				g.Tables[0].Pairs = append(g.Tables[0].Pairs, impl.Pair{Key: text(strings.Repeat("\xff", 400+i)), Val: text(strings.Repeat("\n", 490))})
			}
			return g
		},
		"bytes that are written as two": func(pad int) impl.Graph {
			g := graphOf(leads(0), impl.Table{})
			spread(&g.Tables[0], pad)
			return withPair(g, 0, text(strings.Repeat(`"`, 500)), text(strings.Repeat(`\`, 499)))
		},
		"a text at the end": func(pad int) impl.Graph {
			g := graphOf(leads(0), impl.Table{}, impl.Table{})
			spread(&g.Tables[1], pad)
			g.Tables[0] = tableOf(num(1), leads(1), num(2), text(strings.Repeat("e", 500)))
			return g
		},
	}
}

func TestP4Limit(t *testing.T) {
	for name, shape := range padded() {
		pad := 20000 - len(modelFrozen(shape(0)))
		if got := impl.Freeze(shape(pad)); len(got) != 20000 || got != modelFrozen(shape(pad)) {
			t.Errorf("%s: a text of 20000 bytes: %d are told", name, len(got))
		}
		if got := impl.Freeze(shape(pad - 1)); len(got) != 19999 {
			t.Errorf("%s: a text of 19999 bytes: %d are told", name, len(got))
		}
		for _, more := range []int{1, 2, 3, 4, 5, 10, 100, 1000, 5000} {
			g := shape(pad + more)
			if !impl.GraphOk(g) {
				t.Fatalf("%s: not well made", name)
			}
			if got := impl.Freeze(g); got != "" {
				t.Errorf("%s: %d bytes too many: %d are told", name, more, len(got))
			}
		}
	}
	if impl.MaxFrozen != 20000 {
		t.Errorf("MaxFrozen %d", impl.MaxFrozen)
	}
}

func TestP4GreatGraphs(t *testing.T) {
	// 60 million bytes, were they written
	var most impl.Graph
	for i := range impl.MaxTables {
		var pairs impl.Table
		for k := range impl.MaxPairs {
			pairs.Pairs = append(pairs.Pairs, impl.Pair{Key: text(strings.Repeat("\xff", impl.MaxText-1) + string([]byte{byte(k)})), Val: text(strings.Repeat("\x00", impl.MaxText))})
		}
		if i > 0 {
			most.Tables[i-1].Pairs[0].Val = leads(i)
		}
		most.Tables = append(most.Tables, pairs)
	}
	most.Root = leads(0)
	for name, g := range map[string]impl.Graph{"full": fullGraph(), "most": most, "wide way": chain(impl.MaxTables, manyKeys()...)} {
		if got := impl.Freeze(g); got != "" {
			t.Errorf("%s: %d bytes", name, len(got))
		}
		// the size of what is not met counts for nothing
		g.Root = text("a")
		if got := impl.Freeze(g); got != `"a"` {
			t.Errorf("%s, not met: %s", name, got)
		}
	}
}

func TestP4NotWellMade(t *testing.T) {
	for name, g := range notWellMade() {
		if got := impl.Freeze(g); got != "" {
			t.Errorf("%s: %s", name, got)
		}
		checkFreeze(t, name, g)
	}
}

// wild puts any bytes into texts, and numbers of any size.
func (d *dice) wild(g impl.Graph) impl.Graph {
	other := func(v impl.Val) impl.Val {
		switch v.Kind {
		case impl.VInt:
			return num(int64(d.below(1<<30)) << d.below(34) * int64(1-2*d.below(2)))
		case impl.VText:
			b := []byte(v.Text)
			for range d.below(8) {
				b = append(b, byte(d.below(256)))
			}
			return text(string(b))
		}
		return v
	}
	for _, t := range g.Tables {
		for i, p := range t.Pairs {
			t.Pairs[i].Val = other(p.Val)
			if key := other(p.Key); modelAt(t, key) == none {
				t.Pairs[i].Key = key
			}
		}
	}
	g.Root = other(g.Root)
	return g
}

// moved has the tables at other places, and more of them that are not met.
func (d *dice) moved(g impl.Graph) impl.Graph {
	more := d.graph(len(g.Tables)+3, 4)
	to := make([]int, len(more.Tables))
	for i := range to {
		to[i] = i
	}
	d.shuffle(len(to), func(i, k int) { to[i], to[k] = to[k], to[i] })
	anew := func(v impl.Val) impl.Val {
		if v.Kind == impl.VTable {
			v.At = to[v.At]
		}
		return v
	}
	for i, t := range g.Tables {
		var at impl.Table
		for _, p := range t.Pairs {
			at.Pairs = append(at.Pairs, impl.Pair{Key: p.Key, Val: anew(p.Val)})
		}
		more.Tables[to[i]] = at
	}
	more.Root = anew(g.Root)
	return more
}

func TestP4AnyGraph(t *testing.T) {
	d := dice(11)
	labels := 0
	for i := range 4000 {
		g := d.graph(d.below(9), 8)
		if i%2 == 0 {
			g = d.wild(g)
		}
		name := fmt.Sprint("graph ", i)
		checkFreeze(t, name, g)
		frozen, moved := impl.Freeze(g), d.moved(g)
		if got := impl.Freeze(moved); got != frozen || got == "" {
			t.Fatalf("%s, moved\ngot  %s\nwant %s", name, got, frozen)
		}
		checkFreeze(t, name+", moved", moved)
		if strings.Contains(frozen, "#2=") {
			labels++
		}
		checkFreeze(t, name+", spoilt", d.spoil(g))
	}
	if labels < 500 {
		t.Fatalf("only %d with two labels: too few to tell", labels)
	}
}

// Two graphs have one text just when they have one canonical form: sharing and
// the order of pairs are seen.
func TestP4OneTextOneShape(t *testing.T) {
	d := dice(12)
	one, other := 0, 0
	for i := range 20000 {
		a := d.even(1 + d.below(3))
		b := d.even(1 + d.below(3))
		switch i % 4 {
		case 0:
			a, b = d.graph(d.below(3), 2), d.graph(d.below(3), 2)
		case 1:
			b = d.doubled(a, len(a.Tables)+d.below(2))
		}
		alike := graphsAlike(impl.Canon(a), impl.Canon(b))
		if got := impl.Freeze(a) == impl.Freeze(b); got != alike {
			t.Fatalf("one shape %v, but one text %v: %s and %s", alike, got, impl.Freeze(a), impl.Freeze(b))
		}
		if alike {
			one++
		} else if impl.Same(a, b) {
			other++
		}
	}
	if one < 500 || other < 500 {
		t.Fatalf("%d of one shape, %d the same but of another: too few to tell", one, other)
	}
}

func TestP6FrozenTold(t *testing.T) {
	for _, c := range []struct {
		name string
		want string
		all  []impl.Graph
	}{
		{"nothing", "nil", []impl.Graph{{}, graphOf(none, manyPairs(3))}},
		{"an empty table", "{}", []impl.Graph{graphOf(leads(0), impl.Table{}), graphOf(leads(1), ring(1).Tables[0], impl.Table{})}},
		{"pairs in another order", `{false: 1, true: 2, -1: 3, 10: 4, "": 5, "a": 6}`, []impl.Graph{
			graphOf(leads(0), tableOf(text("a"), num(6), text(""), num(5), num(10), num(4), num(-1), num(3), flag(true), num(2), flag(false), num(1))),
			graphOf(leads(0), tableOf(num(-1), num(3), text(""), num(5), flag(false), num(1), text("a"), num(6), flag(true), num(2), num(10), num(4)))}},
		{"shared, or two", "{1: #1={3: 4}, 2: #1}", []impl.Graph{
			graphOf(leads(0), tableOf(num(1), leads(1), num(2), leads(1)), tableOf(num(3), num(4))),
			graphOf(leads(0), tableOf(num(2), leads(1), num(1), leads(2)), tableOf(num(3), num(4)), tableOf(num(3), num(4)))}},
		{"a ring and a way into it", "#1={1: #1}", []impl.Graph{ring(1), ring(7),
			graphOf(leads(2), tableOf(num(1), leads(1)), tableOf(num(1), leads(0)), tableOf(num(1), leads(0)))}},
		{"another ring", "#1={2: #1}", []impl.Graph{graphOf(leads(0), tableOf(num(2), leads(1)), tableOf(num(2), leads(0)))}},
		{"a way", "{1: {1: {}}}", []impl.Graph{chain(3, num(1))}},
	} {
		for i, g := range c.all {
			if got := impl.Freeze(impl.Shrink(g)); got != c.want {
				t.Errorf("%s, %d: got %s, want %s", c.name, i, got, c.want)
			}
			if !impl.Same(g, c.all[0]) {
				t.Errorf("%s: %d is not the same", c.name, i)
			}
		}
	}
}

func TestP9FrozenRings(t *testing.T) {
	marked := map[string]int{}
	for n := 1; n <= 60; n++ {
		if got := impl.Freeze(impl.Shrink(ring(n))); got != "#1={1: #1}" {
			t.Errorf("a ring of %d: %s", n, got)
		}
		if got, want := impl.Freeze(ring(n)), "#1={1: "+strings.Repeat("{1: ", n-1)+"#1"+strings.Repeat("}", n); got != want {
			t.Errorf("a ring of %d\ngot  %s\nwant %s", n, got, want)
		}
		for at := range n {
			more := impl.Freeze(impl.Shrink(withPair(ring(n), at, text("more"), num(1))))
			if other, ok := marked[more]; ok || !strings.Contains(more, `, "more": 1}`) {
				t.Errorf("a ring of %d with a pair more at %d has the text of one of %d: %s", n, at, other, more)
			}
			marked[more] = n
		}
	}
}

func TestFreezeWritesNothing(t *testing.T) {
	d := dice(13)
	for i := range 300 {
		g := d.graph(1+d.below(6), 6)
		// what has room behind it may be written into without being seen in it
		for k := range g.Tables {
			room := append(slices.Clone(g.Tables[k].Pairs), slices.Repeat([]impl.Pair{{Key: text("room"), Val: num(1)}}, 3)...)
			g.Tables[k].Pairs = room[:len(room)-3]
		}
		tables := append(slices.Clone(g.Tables), tableOf(text("room"), num(2)))
		g.Tables = tables[:len(tables)-1]
		before := copyGraph(g)
		want := impl.Freeze(g)
		for _, table := range g.Tables {
			if behind := table.Pairs[len(table.Pairs) : len(table.Pairs)+3]; behind[0].Key != text("room") || behind[1] != behind[0] || behind[2] != behind[0] {
				t.Fatalf("graph %d: written behind its pairs", i)
			}
		}
		if last := tables[len(tables)-1]; len(last.Pairs) != 1 || last.Pairs[0].Val != num(2) {
			t.Fatalf("graph %d: written behind its tables", i)
		}
		if !graphsAlike(g, before) || impl.Freeze(before) != want {
			t.Fatalf("graph %d: written into, or two answers", i)
		}
		overwrite(g)
		if impl.Freeze(before) != want {
			t.Fatalf("graph %d: something of it was kept", i)
		}
	}
}
