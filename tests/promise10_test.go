package tests

import (
	"fmt"
	"reflect"
	"slices"
	"testing"

	"loop.example/cloth/impl"
)

// roomy has the same items, and others behind them in the same memory: what is
// written there is not seen in the list itself.
func roomy[T any](list []T, behind T) []T {
	out := append(slices.Clone(list), behind, behind, behind)
	return out[:len(list)]
}

func roomyGraph(g impl.Graph) impl.Graph {
	out := impl.Graph{Root: g.Root}
	for _, t := range g.Tables {
		out.Tables = append(out.Tables, impl.Table{Pairs: roomy(t.Pairs, impl.Pair{Key: text("room"), Val: num(1)})})
	}
	out.Tables = roomy(out.Tables, tableOf(text("room"), num(2)))
	return out
}

func roomySquare(x [][]int) [][]int {
	var out [][]int
	for _, row := range x {
		out = append(out, roomy(row, 1))
	}
	return roomy(out, []int{1, 0, 1})
}

// memory is all that an argument holds or has room for.
func memory(v reflect.Value) string {
	switch v.Kind() {
	case reflect.Slice:
		out := ""
		for i, whole := 0, v.Slice(0, v.Cap()); i < whole.Len(); i++ {
			out += memory(whole.Index(i)) + ";"
		}
		return fmt.Sprintf("%d[%s]", v.Len(), out)
	case reflect.Struct:
		out := ""
		for i := range v.NumField() {
			out += memory(v.Field(i)) + ","
		}
		return "{" + out + "}"
	}
	return fmt.Sprintf("%#v", v.Interface())
}

// spoilAnswer writes into every list of an answer, and into the room behind it.
func spoilAnswer(v reflect.Value) {
	switch v.Kind() {
	case reflect.Slice:
		whole := v.Slice(0, v.Cap())
		for i := range whole.Len() {
			spoilAnswer(whole.Index(i))
			whole.Index(i).SetZero()
		}
	case reflect.Struct:
		for i := range v.NumField() {
			spoilAnswer(v.Field(i))
		}
	}
}

// callOf is a function of the program, and what it is given.
type callOf struct {
	name string
	f    any
	args []any
}

func (c callOf) answer() reflect.Value {
	var in []reflect.Value
	for _, a := range c.args {
		in = append(in, reflect.ValueOf(a))
	}
	return reflect.ValueOf(c.f).Call(in)[0]
}

func (c callOf) memory() string {
	out := ""
	for _, a := range c.args {
		out += memory(reflect.ValueOf(a)) + "\n"
	}
	return out
}

// everyCall is every function of the program, with arguments that share memory
// among the calls.
func everyCall(d *dice) []callOf {
	var out []callOf
	add := func(name string, f any, args ...any) { out = append(out, callOf{name, f, args}) }
	for _, x := range [][][]int{
		nil, {{2}}, {{3}}, rankSquare(d.ranks(1+d.below(20), 5)), make([][]int, impl.MaxItems+1),
		squareOf(1+d.below(20), func(a, b int) int { return d.below(2) }), squareOf(9, func(a, b int) int { return d.below(9) / 4 }),
	} {
		x = roomySquare(x)
		add("Sort", impl.Sort, x)
		add("Ranked", impl.Ranked, x)
		add("MostAsked", impl.MostAsked, len(x))
	}
	a := d.even(1 + d.below(6))
	graphs := []impl.Graph{{}, a, d.doubled(a, 8), d.graph(d.below(7), 6), d.spoil(d.graph(1+d.below(6), 6)), d.wild(d.graph(5, 6)), shared(), ring(1 + d.below(5))}
	for i := range graphs {
		graphs[i] = roomyGraph(graphs[i])
	}
	for i, g := range graphs {
		path := roomy(d.path(), text("room"))
		add("GraphOk", impl.GraphOk, g)
		add("Canon", impl.Canon, g)
		add("Get", impl.Get, g, path)
		add("Classes", impl.Classes, g)
		add("Shrink", impl.Shrink, g)
		add("Freeze", impl.Freeze, g)
		add("KeyOrder", impl.KeyOrder, d.key(), d.val(2))
		for _, other := range graphs[i:] {
			add("Same", impl.Same, g, other)
			add("Apart", impl.Apart, g, other)
		}
		s := impl.Freeze(g)
		add("Thaw", impl.Thaw, s)
		add("Thaw", impl.Thaw, d.loosened(s))
		add("Thaw", impl.Thaw, d.edited(s))
	}
	return out
}

func TestP10EveryFunction(t *testing.T) {
	d := dice(17)
	for range 60 {
		calls := everyCall(&d)
		var before, answers []string
		for _, c := range calls {
			before = append(before, c.memory())
		}
		for _, c := range calls {
			answers = append(answers, memoryless(c.answer()))
		}
		// again, the other way round, with what was answered before spoilt
		for i, c := range slices.Backward(calls) {
			spoilAnswer(c.answer())
			if got := memoryless(c.answer()); got != answers[i] {
				t.Fatalf("%s of %v\nfirst %s\nthen  %s", c.name, c.args, answers[i], got)
			}
		}
		for i, c := range calls {
			if got := c.memory(); got != before[i] {
				t.Fatalf("%s: written into its argument\nwas %s\nis  %s", c.name, before[i], got)
			}
		}
	}
}

// memoryless is an answer alone, without the room behind it.
func memoryless(v reflect.Value) string {
	return fmt.Sprintf("%#v", v.Interface())
}

func TestP10TogetherAsAlone(t *testing.T) {
	d := dice(18)
	calls := everyCall(&d)
	var alone []string
	for _, c := range calls {
		alone = append(alone, memoryless(c.answer()))
	}
	together := make(chan []string)
	for range 4 {
		go func() {
			var out []string
			for _, c := range calls {
				out = append(out, memoryless(c.answer()))
			}
			together <- out
		}()
	}
	for range 4 {
		for i, got := range <-together {
			if got != alone[i] {
				t.Errorf("%s: alone %s, beside others %s", calls[i].name, alone[i], got)
			}
		}
	}
}
