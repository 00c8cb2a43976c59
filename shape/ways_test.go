package shape_test

import (
	"fmt"
	"slices"

	"warpbeam/api"
	"warpbeam/shape"
)

func exchangeWay() way {
	return way{
		name: "Exchange", do: shape.Exchange,
		own: func(s spot) api.Errno {
			x := s.loop()
			return form(isTight(x) && !uses(x.Body[0].Low, x.Name) && !uses(x.Body[0].High, x.Name))
		},
		make: func(s spot) {
			x, y := s.loop(), &s.loop().Body[0]
			x.Name, y.Name = y.Name, x.Name
			x.Low, y.Low = y.Low, x.Low
			x.High, y.High = y.High, x.High
		},
		to: func(key string, values []int, d int, s spot) (string, []int) {
			values[d], values[d+1] = values[d+1], values[d]
			return key, values
		},
	}
}

func reverseWay() way {
	ends := func(s spot) api.Form { return added(s.loop().Low[0].Form, 1, s.loop().High[0].Form) }
	return way{
		name: "Reverse", do: shape.Reverse,
		own: func(s spot) api.Errno { return form(isPlain(s.loop())) },
		make: func(s spot) {
			replace(s.loop().Body, s.loop().Name, added(ends(s), -1, variable(s.loop().Name)))
		},
		to: func(key string, values []int, d int, s spot) (string, []int) {
			values[d] = valueOf(ends(s), s.around, values) - values[d]
			return key, values
		},
	}
}

func shiftWay(by int) way {
	return way{
		name: fmt.Sprint("Shift by ", by),
		do:   func(p api.Program, n int) (api.Program, api.Errno) { return shape.Shift(p, n, by) },
		own:  func(s spot) api.Errno { return api.OK },
		make: func(s spot) {
			x := s.loop()
			raise(x.Low, api.Form{Const: by})
			raise(x.High, api.Form{Const: by})
			replace(x.Body, x.Name, added(variable(x.Name), 1, api.Form{Const: -by}))
		},
		to: func(key string, values []int, d int, s spot) (string, []int) {
			values[d] += by
			return key, values
		},
	}
}

func skewWay(by int) way {
	return way{
		name: fmt.Sprint("Skew by ", by),
		do:   func(p api.Program, n int) (api.Program, api.Errno) { return shape.Skew(p, n, by) },
		own:  func(s spot) api.Errno { return form(isTight(s.loop())) },
		make: func(s spot) {
			x, y := s.loop().Name, &s.loop().Body[0]
			more := added(api.Form{}, by, variable(x))
			raise(y.Low, more)
			raise(y.High, more)
			replace(y.Body, y.Name, added(variable(y.Name), -by, variable(x)))
		},
		to: func(key string, values []int, d int, s spot) (string, []int) {
			values[d+1] += by * values[d]
			return key, values
		},
	}
}

// stripped cuts a plain loop, without its Body: the loop around, and the loop itself.
func stripped(s api.Step, size int, name string) (api.Step, api.Step) {
	low, high := s.Low[0].Form, s.High[0].Form
	begin := added(low, size, variable(name))
	around := api.Step{Kind: api.StepLoop, Name: name, Low: []api.Bound{{Div: 1}}, High: []api.Bound{{Form: added(high, -1, low), Div: size}}}
	s.Low = append(slices.Clone(s.Low), api.Bound{Form: begin, Div: 1})
	s.High = append(slices.Clone(s.High), api.Bound{Form: added(begin, size-1, api.Form{Const: 1}), Div: 1})
	return around, s
}

func stripWay(size int, name string) way {
	return way{
		name: fmt.Sprint("Strip ", size, name),
		do:   func(p api.Program, n int) (api.Program, api.Errno) { return shape.Strip(p, n, size, name) },
		own:  func(s spot) api.Errno { return form(isPlain(s.loop())) },
		make: func(s spot) {
			around, x := stripped(*s.loop(), size, name)
			around.Body = []api.Step{x}
			s.put(around)
		},
		to: func(key string, values []int, d int, s spot) (string, []int) {
			low := valueOf(s.loop().Low[0].Form, s.around, values)
			return key, slices.Insert(values, d, (values[d]-low)/size)
		},
	}
}

func tileWay(size int, outer, inner string) way {
	return way{
		name: fmt.Sprint("Tile ", size, outer, inner),
		do:   func(p api.Program, n int) (api.Program, api.Errno) { return shape.Tile(p, n, size, outer, inner) },
		own: func(s spot) api.Errno {
			x := s.loop()
			return form(isTight(x) && isPlain(x) && isPlain(&x.Body[0]) && !uses(x.Body[0].Low, x.Name) && !uses(x.Body[0].High, x.Name))
		},
		make: func(s spot) {
			first, x := stripped(*s.loop(), size, outer)
			second, y := stripped(x.Body[0], size, inner)
			x.Body = []api.Step{y}
			second.Body = []api.Step{x}
			first.Body = []api.Step{second}
			s.put(first)
		},
		to: func(key string, values []int, d int, s spot) (string, []int) {
			x, y := s.loop(), s.loop().Body[0]
			i := (values[d] - valueOf(x.Low[0].Form, s.around, values)) / size
			j := (values[d+1] - valueOf(y.Low[0].Form, s.around, values)) / size
			return key, slices.Insert(values, d, i, j)
		},
	}
}

func fuseWay() way {
	return way{
		name: "Fuse", do: shape.Fuse,
		own: func(s spot) api.Errno {
			if s.at+1 == len(*s.list) {
				return api.ErrForm
			}
			x, y := s.loop(), (*s.list)[s.at+1]
			return form(y.Kind == api.StepLoop && fmt.Sprint(x.Low, x.High) == fmt.Sprint(y.Low, y.High))
		},
		make: func(s spot) {
			x, y := s.loop(), (*s.list)[s.at+1]
			replace(y.Body, y.Name, variable(x.Name))
			x.Body = append(x.Body, y.Body...)
			*s.list = slices.Delete(*s.list, s.at+1, s.at+2)
		},
		to: stay,
	}
}

func splitWay(at int) way {
	return way{
		name: fmt.Sprint("Split at ", at),
		do:   func(p api.Program, n int) (api.Program, api.Errno) { return shape.Split(p, n, at) },
		own: func(s spot) api.Errno {
			if at < 1 || at >= len(s.loop().Body) {
				return api.ErrArg
			}
			return api.OK
		},
		make: func(s spot) {
			x, y := *s.loop(), *s.loop()
			x.Body, y.Body = x.Body[:at], y.Body[at:]
			s.put(x, y)
		},
		to: stay,
	}
}

func cutWay(at int) way {
	return way{
		name: fmt.Sprint("Cut at ", at),
		do:   func(p api.Program, n int) (api.Program, api.Errno) { return shape.Cut(p, n, at) },
		own:  func(s spot) api.Errno { return api.OK },
		make: func(s spot) {
			x, y := *s.loop(), cloned(*s.loop())
			x.High = append(x.High, api.Bound{Form: api.Form{Const: at - 1}, Div: 1})
			y.Low = append(y.Low, api.Bound{Form: api.Form{Const: at}, Div: 1})
			rename(y.Body)
			s.put(x, y)
		},
		to: func(key string, values []int, d int, s spot) (string, []int) {
			if values[d] >= at {
				key += "_2"
			}
			return key, values
		},
	}
}

// ways are transformations with all kinds of arguments.
func (g *gen) ways() []way {
	return []way{
		exchangeWay(), reverseWay(), fuseWay(), splitWay(g.below(3)), splitWay(1),
		shiftWay(g.below(9) - 4), skewWay(g.below(5) - 2), cutWay(g.below(7) - 3),
		stripWay(1+g.below(3), g.one("x", "y", "i", "j")), tileWay(1+g.below(3), g.one("x", "x", "j"), g.one("y", "y", "x", "k")),
	}
}
