package tests

import (
	"math/big"
	"slices"

	"loop.example/cloth/impl"
)

// modelEnd is what the model is given behind the last byte.
const modelEnd = -1

// modelState takes one byte, and says what takes the next.
type modelState func(b int) modelState

// modelTable is a table that is still open, and the key whose value comes.
type modelTable struct {
	at  int
	key impl.Val
}

// modelReader tells chapter 5 byte by byte from the left, without looking
// ahead or going back: what is told behind digits is told when the first byte
// comes that is no digit.
type modelReader struct {
	place  int
	wrong  int
	g      impl.Graph
	open   []modelTable
	labels map[string]int
}

func modelThaw(s string) impl.Thawed {
	if len(s) > 20000 {
		return impl.Thawed{At: 20000}
	}
	m := &modelReader{wrong: -1, labels: map[string]int{}}
	next := m.value
	for ; m.place <= len(s) && m.wrong < 0; m.place++ {
		b := modelEnd
		if m.place < len(s) {
			b = int(s[m.place])
		}
		next = next(b)
	}
	if m.wrong >= 0 {
		return impl.Thawed{At: m.wrong}
	}
	return impl.Thawed{Ok: true, Graph: m.g}
}

func (m *modelReader) wrongAt(place int) modelState {
	m.wrong = place
	return nil
}

func isSpace(b int) bool { return b == ' ' || b == '\n' }

func (m *modelReader) value(b int) modelState {
	switch {
	case isSpace(b):
		return m.value
	case b == 'n':
		return m.word("il", none, m.given)
	case b == '#':
		return m.label(m.place, "")
	case b == '{':
		return m.table(b)
	}
	return m.keyThen(b, m.given)
}

// keyThen begins with a key's first byte.
func (m *modelReader) keyThen(b int, then func(v impl.Val, first int) modelState) modelState {
	switch {
	case b == 't':
		return m.word("rue", flag(true), then)
	case b == 'f':
		return m.word("alse", flag(false), then)
	case b == '"':
		return m.text(m.place, "", then)
	case b == '-' || '0' <= b && b <= '9':
		return m.number(m.place, string(rune(b)), then)
	}
	return m.wrongAt(m.place)
}

// given is told a value, and where it began.
func (m *modelReader) given(v impl.Val, first int) modelState {
	if len(m.open) == 0 {
		m.g.Root = v
		return m.end
	}
	if v == none {
		return m.wrongAt(first)
	}
	t := m.open[len(m.open)-1]
	pairs := &m.g.Tables[t.at].Pairs
	*pairs = append(*pairs, impl.Pair{Key: t.key, Val: v})
	return m.behindValue
}

func (m *modelReader) end(b int) modelState {
	if isSpace(b) || b == modelEnd {
		return m.end
	}
	return m.wrongAt(m.place)
}

func (m *modelReader) behindValue(b int) modelState {
	switch {
	case isSpace(b):
		return m.behindValue
	case b == ',':
		return m.key
	case b == '}':
		return m.closed()
	}
	return m.wrongAt(m.place)
}

func (m *modelReader) closed() modelState {
	t := m.open[len(m.open)-1]
	m.open = m.open[:len(m.open)-1]
	return m.given(leads(t.at), -1)
}

func (m *modelReader) firstKey(b int) modelState {
	switch {
	case isSpace(b):
		return m.firstKey
	case b == '}':
		return m.closed()
	}
	return m.key(b)
}

func (m *modelReader) key(b int) modelState {
	if isSpace(b) {
		return m.key
	}
	return m.keyThen(b, m.keyed)
}

func (m *modelReader) keyed(key impl.Val, first int) modelState {
	t := &m.open[len(m.open)-1]
	pairs := m.g.Tables[t.at].Pairs
	if len(pairs) == 100 || slices.ContainsFunc(pairs, func(p impl.Pair) bool { return p.Key == key }) {
		return m.wrongAt(first)
	}
	t.key = key
	return m.behindKey
}

func (m *modelReader) behindKey(b int) modelState {
	switch {
	case isSpace(b):
		return m.behindKey
	case b == ':':
		return m.value
	}
	return m.wrongAt(m.place)
}

func (m *modelReader) table(b int) modelState {
	if b != '{' || len(m.g.Tables) == 200 {
		return m.wrongAt(m.place)
	}
	m.open = append(m.open, modelTable{at: len(m.g.Tables)})
	m.g.Tables = append(m.g.Tables, impl.Table{})
	return m.firstKey
}

func (m *modelReader) label(first int, digits string) modelState {
	return func(b int) modelState {
		at, has := m.labels[digits]
		switch {
		case '0' <= b && b <= '9':
			return m.label(first, digits+string(rune(b)))
		case digits == "":
			return m.wrongAt(m.place)
		case digits[0] == '0' || len(digits) > 3 || has == (b == '='):
			return m.wrongAt(first)
		case has:
			return m.again(m.given(leads(at), first), b)
		}
		return m.labelTable(digits)
	}
}

func (m *modelReader) labelTable(digits string) modelState {
	return func(b int) modelState {
		if isSpace(b) {
			return m.labelTable(digits)
		}
		m.labels[digits] = len(m.g.Tables)
		return m.table(b)
	}
}

// again gives the byte that ended something to what comes behind it.
func (m *modelReader) again(next modelState, b int) modelState {
	if m.wrong >= 0 {
		return nil
	}
	return next(b)
}

func (m *modelReader) word(rest string, v impl.Val, then func(impl.Val, int) modelState) modelState {
	first := m.place
	var state modelState
	state = func(b int) modelState {
		if b != int(rest[0]) {
			return m.wrongAt(m.place)
		}
		rest = rest[1:]
		if rest == "" {
			return then(v, first)
		}
		return state
	}
	return state
}

func (m *modelReader) number(first int, told string, then func(impl.Val, int) modelState) modelState {
	return func(b int) modelState {
		isDigit := '0' <= b && b <= '9'
		switch {
		case isDigit && (told == "0" || told == "-0"):
			return m.wrongAt(m.place)
		case isDigit:
			return m.number(first, told+string(rune(b)), then)
		case told == "-":
			return m.wrongAt(m.place)
		case told == "-0":
			return m.wrongAt(first)
		}
		n, _ := new(big.Int).SetString(told, 10)
		if !n.IsInt64() {
			return m.wrongAt(first)
		}
		return m.again(then(num(n.Int64()), first), b)
	}
}

func (m *modelReader) text(first int, got string, then func(impl.Val, int) modelState) modelState {
	return func(b int) modelState {
		switch {
		case b == '"' && len(got) > 500:
			return m.wrongAt(first)
		case b == '"':
			return then(text(got), first)
		case b == '\\':
			return m.escape(func(c byte) modelState { return m.text(first, got+string([]byte{c}), then) })
		case b < 32 || b > 126:
			return m.wrongAt(m.place)
		}
		return m.text(first, got+string(rune(b)), then)
	}
}

func (m *modelReader) escape(then func(c byte) modelState) modelState {
	digit := func(b int) int {
		switch {
		case '0' <= b && b <= '9':
			return b - '0'
		case 'a' <= b && b <= 'f':
			return b - 'a' + 10
		}
		return -1
	}
	return func(b int) modelState {
		if b == '"' || b == '\\' {
			return then(byte(b))
		}
		high := digit(b)
		if high < 0 {
			return m.wrongAt(m.place)
		}
		return func(b int) modelState {
			if digit(b) < 0 {
				return m.wrongAt(m.place)
			}
			return then(byte(16*high + digit(b)))
		}
	}
}
