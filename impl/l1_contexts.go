package impl

// IdMax is the largest number of a context.
const IdMax = 99

// ContextMax is the largest number of contexts of a site.
const ContextMax = 12

// AreaMax is the largest number of an area.
const AreaMax = 4

// KindLayer is a layer.
const KindLayer = 1

// KindCut is a cut.
const KindCut = 2

// KindFill is a fill.
const KindFill = 3

// KindWall is a wall.
const KindWall = 4

// Context is a context of a dig: its number, its kind and its area.
type Context struct {
	Id   int
	Kind int
	Area int
}

// contextNode is a node of a linked list of contexts; nil is the empty list.
type contextNode struct {
	context Context
	next    *contextNode
}

// linkContexts returns the linked list of contexts, in their order.
func linkContexts(list []Context) *contextNode {
	var head *contextNode
	for i := len(list) - 1; i >= 0; i-- {
		head = &contextNode{context: list[i], next: head}
	}
	return head
}

// unlinkContexts returns the contexts of a linked list in new memory.
func unlinkContexts(head *contextNode) []Context {
	var list []Context
	for n := head; n != nil; n = n.next {
		list = append(list, n.context)
	}
	return list
}

// placeOfContext returns the place of the node with a number, or -1 if there is none.
func placeOfContext(head *contextNode, id int) int {
	place := 0
	for n := head; n != nil; n = n.next {
		if n.context.Id == id {
			return place
		}
		place++
	}
	return -1
}

// insertContext returns the ascending linked list with a node for c at its place.
func insertContext(head *contextNode, c Context) *contextNode {
	if head == nil || c.Id < head.context.Id {
		return &contextNode{context: c, next: head}
	}
	head.next = insertContext(head.next, c)
	return head
}

// inRange reports whether n is in the range low to high, both inclusive.
func inRange(n int, low int, high int) bool {
	return low <= n && n <= high
}

// contextValid reports whether a context alone is valid.
func contextValid(c Context) bool {
	return inRange(c.Id, 1, IdMax) && inRange(c.Kind, KindLayer, KindWall) && inRange(c.Area, 1, AreaMax)
}

// ContextsValid reports whether list has the contexts of a site: at most ContextMax, all valid, with ascending numbers.
func ContextsValid(list []Context) bool {
	if len(list) > ContextMax {
		return false
	}
	last := 0
	for _, c := range list {
		if !contextValid(c) || c.Id <= last {
			return false
		}
		last = c.Id
	}
	return true
}

// ContextsAdd returns the contexts with a further one at its place.
// It returns them unchanged, and false, if the number is used or there is no room.
func ContextsAdd(list []Context, c Context) ([]Context, bool) {
	if !ContextsValid(list) || !contextValid(c) {
		return nil, false
	}
	head := linkContexts(list)
	if placeOfContext(head, c.Id) >= 0 || len(list) == ContextMax {
		return unlinkContexts(head), false
	}
	return unlinkContexts(insertContext(head, c)), true
}

// ContextsFind returns the place of the context with a number, or -1 if there is none.
func ContextsFind(list []Context, id int) int {
	if !ContextsValid(list) {
		return -1
	}
	return placeOfContext(linkContexts(list), id)
}

// ContextsArea returns the numbers of the contexts of an area, in ascending order.
func ContextsArea(list []Context, area int) []int {
	if !ContextsValid(list) {
		return nil
	}
	var ids []int
	for n := linkContexts(list); n != nil; n = n.next {
		if n.context.Area == area {
			ids = append(ids, n.context.Id)
		}
	}
	return ids
}
