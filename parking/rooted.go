package parking

import "ferrers/api"

// maxRootedEdges is one for each car.
const maxRootedEdges = maxCars

// Rooted makes a tree of the cars, and of 0, by the places they would like (P44).
func Rooted(l []int) ([]api.Pair, api.Errno) {
	if _, err := Park(l); err != api.OK {
		return nil, err
	}
	tree := make([]api.Pair, 0, len(l))
	line := []int{0}
	for place := 1; place <= len(l); place++ {
		// As all cars find a place, at least as many as there are places ahead of this one like one
		// of those; they stand in the line behind 0, so that it is long enough.
		vertex := line[place-1]
		for i, liked := range l {
			if liked == place {
				tree = append(tree, edgeOf(vertex, i+1))
				line = append(line, i+1)
			}
		}
	}
	return inOrder(tree), api.OK
}

// Unrooted makes the list of which Rooted makes the tree (P44).
func Unrooted(l []api.Pair) ([]int, api.Errno) {
	if len(l) > maxRootedEdges {
		return nil, api.ErrLarge
	}
	if !isTree(l, 0) {
		return nil, api.ErrArg
	}
	var joined [maxCars + 1][maxCars + 1]bool
	for _, edge := range l {
		joined[edge.A][edge.B] = true
		joined[edge.B][edge.A] = true
	}
	liked := make([]int, len(l))
	line := []int{0}
	for place := 1; place <= len(l); place++ {
		vertex := line[place-1]
		for car := 1; car <= len(l); car++ {
			if joined[vertex][car] && liked[car-1] == 0 {
				liked[car-1] = place
				line = append(line, car)
			}
		}
	}
	return liked, api.OK
}
