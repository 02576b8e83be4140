package value

import (
	"cmp"
	"slices"
	"strings"

	"workflow/api"
)

// Right reports whether v is a payload: well formed, within the limits and without a future.
func Right(v api.Value) bool {
	// The limits come first, because they bound the work of the other two checks.
	return withinLimits(v) && wellFormed(v) && !hasFuture(v)
}

func hasFuture(v api.Value) bool {
	return v.Kind == api.VFuture || slices.ContainsFunc(v.Items, hasFuture)
}

// wellFormed says nothing about limits.
func wellFormed(v api.Value) bool {
	if !usesItsFields(v) {
		return false
	}
	for _, x := range v.Items {
		if !wellFormed(x) {
			return false
		}
	}
	return true
}

// usesItsFields reports whether the fields of v, apart from the items of its items, are those of its kind.
func usesItsFields(v api.Value) bool {
	noInt, noText := v.Int == 0, v.Text == ""
	noItems, noKeys := len(v.Items) == 0, len(v.Keys) == 0
	switch v.Kind {
	case api.VNull:
		return noInt && noText && noItems && noKeys
	case api.VBool:
		return isBit(v.Int) && noText && noItems && noKeys
	case api.VInt:
		return noText && noItems && noKeys
	case api.VText:
		return noInt && noItems && noKeys
	case api.VList:
		return noInt && noText && noKeys
	case api.VMap:
		return noInt && noText && len(v.Keys) == len(v.Items) && ascending(v.Keys)
	case api.VFuture:
		return v.Int >= 0 && noText && noItems && noKeys
	}
	return false
}

func isBit(n int) bool { return n == 0 || n == 1 }

func ascending(keys []string) bool {
	for i := 1; i < len(keys); i++ {
		if keys[i] <= keys[i-1] {
			return false
		}
	}
	return true
}

func isMap(v api.Value) bool { return v.Kind == api.VMap && wellFormed(v) }

// withinLimits applies to malformed values too: fields count even if their kind does not use them.
func withinLimits(v api.Value) bool { return roomAfter(v, 1, api.MaxNodes) >= 0 }

// roomAfter returns how many of room nodes are left after v, or -1 if v, which lies at the given depth, exceeds a limit.
func roomAfter(v api.Value, depth, room int) int {
	if depth > api.MaxDepth || room == 0 || !textsFit(v) {
		return -1
	}
	room--
	for _, x := range v.Items {
		room = roomAfter(x, depth+1, room)
		if room < 0 {
			return -1
		}
	}
	return room
}

func textsFit(v api.Value) bool {
	return !tooLong(v.Text) && !slices.ContainsFunc(v.Keys, tooLong)
}

func tooLong(s string) bool { return len(s) > api.MaxText }

// Depth returns the nesting of v, whatever its kind.
func Depth(v api.Value) int {
	deepest := 0
	for _, x := range v.Items {
		deepest = max(deepest, Depth(x))
	}
	return deepest + 1
}

// Size returns the number of nodes of v, whatever its kind.
func Size(v api.Value) int {
	nodes := 1
	for _, x := range v.Items {
		nodes += Size(x)
	}
	return nodes
}

// Same reports whether all fields are equal; a nil list equals an empty one.
func Same(a, b api.Value) bool {
	return a.Kind == b.Kind && a.Int == b.Int && a.Text == b.Text &&
		slices.Equal(a.Keys, b.Keys) && slices.EqualFunc(a.Items, b.Items, Same)
}

// Order compares well-formed values: -1, 0 or 1. It returns 0 if one of them is malformed.
func Order(a, b api.Value) int {
	if !wellFormed(a) || !wellFormed(b) {
		return 0
	}
	return compare(a, b)
}

// compare relies on well-formed values, so Int is 0 for null.
func compare(a, b api.Value) int {
	if a.Kind != b.Kind {
		return cmp.Compare(a.Kind, b.Kind)
	}
	switch a.Kind {
	case api.VText:
		return strings.Compare(a.Text, b.Text)
	case api.VList:
		return slices.CompareFunc(a.Items, b.Items, compare)
	case api.VMap:
		return comparePairs(a, b)
	}
	return cmp.Compare(a.Int, b.Int)
}

func comparePairs(a, b api.Value) int {
	for i := range min(len(a.Keys), len(b.Keys)) {
		if c := strings.Compare(a.Keys[i], b.Keys[i]); c != 0 {
			return c
		}
		if c := compare(a.Items[i], b.Items[i]); c != 0 {
			return c
		}
	}
	return cmp.Compare(len(a.Keys), len(b.Keys))
}
