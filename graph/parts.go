package graph

import (
	"container/heap"
	"slices"

	"linchpin/api"
)

// Parts returns the parts, each as the ascending list of its nodes. The next one is always the one with the least first node among those from which arcs lead only to itself and to parts before it.
func Parts(n int, arcs []api.Arc) [][]int {
	if !Right(n, arcs) {
		return nil
	}
	next := successors(n, arcs)
	back := turned(next)
	d := divide(next, back)
	var ready heap.Interface = &heads{}
	for head := range next {
		if len(d.nodes[head]) > 0 && d.open[head] == 0 {
			heap.Push(ready, head)
		}
	}
	var parts [][]int
	for ready.Len() > 0 {
		head := heap.Pop(ready).(int)
		parts = append(parts, d.nodes[head])
		for _, before := range d.settle(back, head) {
			heap.Push(ready, before)
		}
	}
	return parts
}

// division is the division of a graph into its parts; each part goes by its first node, its head.
type division struct {
	head  []int   // for each node, the head of its part
	nodes [][]int // for each head, the nodes of its part in ascending order; for other nodes, none
	open  []int   // for each head, how many arcs lead from its part to other parts that are not listed yet
}

// divide divides a graph into its parts, none of which is listed yet.
func divide(next, back [][]int) division {
	n := len(next)
	d := division{head: headsOf(next, back), nodes: make([][]int, n), open: make([]int, n)}
	for v, head := range d.head {
		d.nodes[head] = append(d.nodes[head], v)
		for _, w := range next[v] {
			if d.head[w] != head {
				d.open[head]++
			}
		}
	}
	return d
}

// settle notes that the part of a head is listed, and returns the heads of the parts that waited only for it.
func (d division) settle(back [][]int, head int) []int {
	var free []int
	for _, w := range d.nodes[head] {
		for _, v := range back[w] {
			before := d.head[v]
			if before == head {
				continue
			}
			d.open[before]--
			if d.open[before] == 0 {
				free = append(free, before)
			}
		}
	}
	return free
}

// headsOf returns for each node the least node of its part.
func headsOf(next, back [][]int) []int {
	head := slices.Repeat([]int{none}, len(next))
	// If one part reaches another, the search leaves the other one completely before it leaves the last node of the one. So, from the last node that has no head yet, arcs taken backwards lead only to its own part and to parts that have their heads.
	for _, v := range slices.Backward(leaving(next)) {
		if head[v] != none {
			continue
		}
		part := gather(back, head, v)
		least := slices.Min(part)
		for _, w := range part {
			head[w] = least
		}
	}
	return head
}

// gather returns the nodes that are reached from v through nodes without a head, and gives v as a head to all of them.
func gather(next [][]int, head []int, v int) []int {
	head[v] = v
	part := []int{v}
	for i := 0; i < len(part); i++ {
		for _, w := range next[part[i]] {
			if head[w] == none {
				head[w] = v
				part = append(part, w)
			}
		}
	}
	return part
}

// leaving returns the nodes in the order in which a search in depth leaves them. It has a stack of its own, because a way may be as long as the graph.
func leaving(next [][]int) []int {
	var left, stack []int
	seen := make([]bool, len(next))
	taken := make([]int, len(next)) // for each node, how many of its arcs the search has taken
	for root := range next {
		if seen[root] {
			continue
		}
		seen[root] = true
		stack = append(stack, root)
		for len(stack) > 0 {
			v := stack[len(stack)-1]
			if taken[v] == len(next[v]) {
				left = append(left, v)
				stack = stack[:len(stack)-1]
				continue
			}
			w := next[v][taken[v]]
			taken[v]++
			if !seen[w] {
				seen[w] = true
				stack = append(stack, w)
			}
		}
	}
	return left
}

// turned returns the lists of successors of the same graph with all arcs turned round.
func turned(next [][]int) [][]int {
	back := make([][]int, len(next))
	for v, l := range next {
		for _, w := range l {
			back[w] = append(back[w], v)
		}
	}
	return back
}

// heads is a heap of the heads of parts, the least one on top.
type heads []int

// Len returns how many heads there are.
func (h heads) Len() int { return len(h) }

// Less reports whether one head is above another one.
func (h heads) Less(i, j int) bool { return h[i] < h[j] }

// Swap exchanges two heads.
func (h heads) Swap(i, j int) { h[i], h[j] = h[j], h[i] }

// Push appends a head.
func (h *heads) Push(x any) { *h = append(*h, x.(int)) }

// Pop takes the last head away and returns it.
func (h *heads) Pop() any {
	last := len(*h) - 1
	x := (*h)[last]
	*h = (*h)[:last]
	return x
}
