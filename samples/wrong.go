package samples

import (
	"math"

	"garland/api"
)

// WrongGraphs are graphs that are not right, by what is wrong with them.
func WrongGraphs() map[string]api.Graph {
	pairs := func(n int, l ...api.Edge) api.Graph { return api.Graph{N: n, Edges: l} }
	tooMany := Whole(400)
	tooMany.Edges = append(tooMany.Edges, api.Edge{A: 398, B: 399})
	return map[string]api.Graph{
		"fewer than no vertices":     {N: -1},
		"far fewer than no vertices": pairs(math.MinInt, api.Edge{A: 0, B: 1}),
		"a vertex too many":          pairs(api.MaxVertices+1, api.Edge{A: 0, B: 1}),
		"far too many vertices":      pairs(math.MaxInt, api.Edge{A: 0, B: 1}),
		"an edge too many":           tooMany,
		"a loop":                     pairs(4, api.Edge{A: 0, B: 1}, api.Edge{A: 1, B: 1}),
		"a turned edge":              pairs(4, api.Edge{A: 0, B: 1}, api.Edge{A: 3, B: 2}),
		"an end beyond":              pairs(4, api.Edge{A: 0, B: 1}, api.Edge{A: 2, B: 4}),
		"an end far beyond":          pairs(4, api.Edge{A: 0, B: 1}, api.Edge{A: 2, B: math.MaxInt}),
		"an end below 0":             pairs(4, api.Edge{A: -1, B: 2}, api.Edge{A: 0, B: 1}),
		"an edge of no vertices":     pairs(0, api.Edge{A: 0, B: 1}),
		"edges that fall":            pairs(4, api.Edge{A: 1, B: 2}, api.Edge{A: 0, B: 1}),
		"an edge twice":              pairs(4, api.Edge{A: 0, B: 1}, api.Edge{A: 0, B: 1}),
	}
}

// WrongMatchings are lists that are no matching of a row of five.
func WrongMatchings() map[string][]int {
	return map[string][]int{
		"nothing":                       nil,
		"an empty list":                 {},
		"one too few":                   {-1, -1, -1, -1},
		"one too few, all matched":      {1, 0, 3, 2},
		"one too many":                  {-1, -1, -1, -1, -1, -1},
		"a pair too many":               {1, 0, 3, 2, -1, 6, 5},
		"mates that are not joined":     {-1, -1, 4, -1, 2},
		"a mate without a mate":         {-1, -1, -1, 4, -1},
		"a mate whose mate is another":  {-1, -1, 3, 2, 3},
		"two that have one mate":        {1, 0, 1, -1, -1},
		"mates that go round":           {1, 2, 3, 4, 0},
		"one that is its own mate":      {-1, -1, -1, -1, 4},
		"a mate beyond":                 {-1, -1, -1, -1, 5},
		"a mate far beyond":             {-1, -1, -1, -1, math.MaxInt},
		"a mate below -1":               {-1, -1, -1, -1, -2},
		"a mate far below -1":           {math.MinInt, -1, -1, -1, -1},
		"no mate of one who has a mate": {1, -1, -1, -1, -1},
	}
}

// Spoil writes by over a list, and the room behind its end.
func Spoil[T any](l []T, by T) {
	l = l[:cap(l)]
	for i := range l {
		l[i] = by
	}
}
