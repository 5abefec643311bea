package search

// groups are of places; each place has an elder of its group, or itself, if it is the group's first.
type groups []int

func newGroups(n int) groups {
	g := make(groups, n)
	for i := range g {
		g[i] = i
	}
	return g
}

// first gives the first place of the group, and shortens the way to it.
func (g groups) first(place int) int {
	for g[place] != place {
		g[place] = g[g[place]]
		place = g[place]
	}
	return place
}

func (g groups) unite(a, b int) {
	a, b = g.first(a), g.first(b)
	g[max(a, b)] = min(a, b)
}

// lists gives the places of each group, rising, by the groups' first ones.
func (g groups) lists() [][]int {
	var lists [][]int
	at := make([]int, len(g))
	for place := range g {
		first := g.first(place)
		if first == place {
			at[first] = len(lists)
			lists = append(lists, nil)
		}
		lists[at[first]] = append(lists[at[first]], place)
	}
	return lists
}
