package parking

import (
	"math/bits"
	"strconv"

	"ferrers/api"
)

const (
	maxVertices = 10
	maxEdges    = 60
	maxArcs     = 20
)

// Spanning tells how many choices of the edges are trees of the vertices 1 to n (P45).
func Spanning(n int, l []api.Pair) (string, api.Errno) {
	if err := checkGraph(n, l, maxEdges); err != api.OK {
		return "", err
	}
	var g graph
	for _, edge := range l {
		g[edge.A][edge.B]++
		g[edge.B][edge.A]++
	}
	var others []int
	for v := 2; v <= n; v++ {
		others = append(others, v)
	}
	return strconv.FormatInt(g.trees(others), 10), api.OK
}

// Rounds tells how many ways there are to go once through all arcs and come back (P45).
func Rounds(n int, l []api.Pair) (string, api.Errno) {
	if err := checkGraph(n, l, maxArcs); err != api.OK {
		return "", err
	}
	var g graph
	for _, arc := range l {
		g[arc.A][arc.B]++
	}
	return strconv.FormatInt(g.rounds(), 10), api.OK
}

// checkGraph tells what is wrong with vertices and edges, or arcs, together.
func checkGraph(n int, l []api.Pair, most int) api.Errno {
	if n < 1 || n > maxVertices {
		return api.ErrArg
	}
	for _, edge := range l {
		if !areWithin([]int{edge.A, edge.B}, 1, n) || edge.A == edge.B {
			return api.ErrArg
		}
	}
	if len(l) > most {
		return api.ErrLarge
	}
	return api.OK
}

// graph tells how many arcs there are from each vertex to each other one.
type graph [maxVertices + 1][maxVertices + 1]int64

// arcs tells how many begin at the vertex, and how many end there.
func (g *graph) arcs(vertex int) (from, to int64) {
	for other := 1; other <= maxVertices; other++ {
		from += g[vertex][other]
		to += g[other][vertex]
	}
	return from, to
}

// rounds tells in how many ways one can go once through all arcs and come back: for each choice
// of the arcs by which each vertex but one is left for the last time, which are a tree, the arcs
// by which it is left ahead of that come in whatever order.
func (g *graph) rounds() int64 {
	var visited []int
	orders := int64(1)
	for vertex := 1; vertex <= maxVertices; vertex++ {
		from, to := g.arcs(vertex)
		if from != to {
			return 0
		}
		if from > 0 {
			visited = append(visited, vertex)
			orders *= factorial(from - 1)
		}
	}
	if len(visited) == 0 {
		return 0
	}
	// 20 arcs are at most 10 from either of two vertices, and make most rounds if they are just that:
	// far fewer than 64 bits can hold.
	return orders * g.trees(visited[1:])
}

// trees tells in how many ways one arc from each of the others can be chosen so that by these
// one comes from each of them to the one vertex that is not among them (KIRCHHOFF, TUTTE).
func (g *graph) trees(others []int) int64 {
	rows := make([][]int64, len(others))
	for i, vertex := range others {
		rows[i] = make([]int64, len(others))
		for j, other := range others {
			rows[i][j] = -g[vertex][other]
		}
		from, _ := g.arcs(vertex)
		rows[i][i] += from
	}
	return determinant(rows)
}

// determinant is that of rows as long as they are many, at most nine. It goes along the last row
// (LAPLACE), for each set of columns once, with as many of the first rows.
// No sum is above the product of what the sizes in each row add up to: of 60 edges, which are
// 120 arcs, these are 240 in all rows, so the product is at most 240/9 to the power of 9.
func determinant(rows [][]int64) int64 {
	sums := make([]int64, 1<<len(rows))
	sums[0] = 1
	for set := 1; set < len(sums); set++ {
		row := rows[bits.OnesCount(uint(set))-1]
		sign := int64(1)
		for column := len(row) - 1; column >= 0; column-- {
			if set>>column&1 == 1 {
				sums[set] += sign * row[column] * sums[set&^(1<<column)]
				sign = -sign
			}
		}
	}
	return sums[len(sums)-1]
}

// factorial is the product of the numbers from 1 to n.
func factorial(n int64) int64 {
	product := int64(1)
	for k := int64(2); k <= n; k++ {
		product *= k
	}
	return product
}
