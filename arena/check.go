package arena

import (
	"stickful/api"
	"stickful/style"
)

// kinds is the number of kinds of nodes.
const kinds = api.NkNote + 1

// What nodes of a kind may have, or are.
var (
	hasKids   = [kinds]bool{api.NkRoot: true, api.NkBox: true, api.NkBlock: true, api.NkFlex: true, api.NkRuby: true, api.NkBase: true, api.NkNote: true}
	hasLines  = [kinds]bool{api.NkRoot: true, api.NkBlock: true, api.NkFlex: true, api.NkRuby: true, api.NkBase: true, api.NkNote: true}
	hasText   = [kinds]bool{api.NkText: true}
	hasEdges  = [kinds]bool{api.NkBox: true, api.NkBlock: true, api.NkFlex: true}
	hasSize   = [kinds]bool{api.NkBlock: true, api.NkFlex: true}
	hasValign = [kinds]bool{api.NkBox: true, api.NkBlock: true, api.NkFlex: true, api.NkRuby: true}
	isOfRuby  = [kinds]bool{api.NkBase: true, api.NkNote: true}
)

// Check returns the first error of the nodes of l, or OK if they are a tree of nodes that are valid.
func Check(l []api.Node) api.Errno {
	if len(l) == 0 || len(l) > api.MaxNodes {
		return api.ErrTree
	}
	depth := -1 // of what is above the root
	for n := range l {
		var e api.Errno
		if depth, e = checkNode(l, n, depth); e != api.OK {
			return e
		}
	}
	return checkLength(l)
}

// checkNode returns the depth of the node n, or its error. All nodes before it are valid, and the last one of them is at the depth last.
func checkNode(l []api.Node, n, last int) (int, api.Errno) {
	depth := depthAfter(l, n, last)
	if depth < 0 || !validKind(l, n) {
		return 0, api.ErrTree
	}
	if depth > api.MaxDepth {
		return 0, api.ErrDeep
	}
	if style.CheckDecl(l[n].Decl) != api.OK {
		return 0, api.ErrStyle
	}
	if !validFields(l[n], n > 0 && l[l[n].Parent].Kind == api.NkFlex) {
		return 0, api.ErrArg
	}
	return depth, api.OK
}

// depthAfter returns the depth of the node n, or -1 if its Parent is not valid: it goes up from the node before, which is at the depth last, till it comes to the parent.
func depthAfter(l []api.Node, n, last int) int {
	at := n - 1
	for at >= 0 && at != l[n].Parent {
		at, last = l[at].Parent, last-1
	}
	if at != l[n].Parent || (at < 0) != (n == 0) { // the root alone has no node above it
		return -1
	}
	return last + 1
}

// validKind reports whether the node n may be of its Kind, and its parent, which is valid, may have it.
func validKind(l []api.Node, n int) bool {
	kind := l[n].Kind
	if n == 0 {
		return kind == api.NkRoot
	}
	if kind == api.NkRoot || kind >= kinds {
		return false
	}
	above := l[l[n].Parent].Kind
	if isOfRuby[kind] && above != api.NkRuby || above == api.NkFlex && kind != api.NkBlock {
		return false
	}
	return hasKids[above]
}

// validFields reports whether x has nothing that its kind must not have, and nothing that is not valid. An item is a kid of a NkFlex.
func validFields(x api.Node, item bool) bool {
	for _, n := range [...]int64{x.Start, x.End, x.Top, x.Bottom, x.Valign.N} {
		if !within(n, -api.MaxUnit, api.MaxUnit) {
			return false
		}
	}
	for _, n := range [...]int{x.Grow, x.Shrink} {
		if !within(int64(n), 0, api.MaxGrow) {
			return false
		}
	}
	return within(x.Width, -1, api.MaxUnit) && x.Valign.Kind <= api.VaBottom && x == allowed(x, item)
}

// allowed returns x with all zero that its kind must not have.
func allowed(x api.Node, item bool) api.Node {
	if !hasText[x.Kind] {
		x.Text = ""
	}
	if !hasEdges[x.Kind] {
		x.Start, x.End = 0, 0
	}
	if !hasSize[x.Kind] {
		x.Top, x.Bottom, x.Width = 0, 0, 0
	}
	if !item {
		x.Grow, x.Shrink = 0, 0
	}
	if !hasValign[x.Kind] {
		x.Valign = api.Valign{}
	}
	if x.Valign.Kind != api.VaUnits && x.Valign.Kind != api.VaTimes {
		x.Valign.N = 0
	}
	return x
}

// within reports whether n is from the least number to the most.
func within(n, least, most int64) bool { return least <= n && n <= most }

// checkLength returns ErrLong if all texts together are too long.
func checkLength(l []api.Node) api.Errno {
	left := api.MaxText
	for _, x := range l {
		left -= len(x.Text)
		if left < 0 {
			return api.ErrLong
		}
	}
	return api.OK
}
