package machine

// isOneOf: is it a number from 0 to one below count?
func isOneOf(n, count int) bool { return n >= 0 && n < count }

func allOf(list []int, count int) bool {
	for _, n := range list {
		if !isOneOf(n, count) {
			return false
		}
	}
	return true
}

// rises: does a list rise, from 0 to one below count?
func rises(list []int, count int) bool {
	low := 0
	for _, n := range list {
		if n < low || n >= count {
			return false
		}
		low = n + 1
	}
	return true
}

// merged is a new rising list of what is in one of two rising lists, or in both.
func merged(a, b []int) []int {
	list := make([]int, 0, len(a)+len(b))
	for len(a) > 0 && len(b) > 0 {
		least := min(a[0], b[0])
		list = append(list, least)
		if a[0] == least {
			a = a[1:]
		}
		if b[0] == least {
			b = b[1:]
		}
	}
	list = append(list, a...)
	return append(list, b...)
}

// rows is many lists in one piece of memory: there may be a million of one element each.
type rows[T any] struct {
	items []T
	ends  []int
}

// end closes the row whose items were added last.
func (r *rows[T]) end() { r.ends = append(r.ends, len(r.items)) }

func (r *rows[T]) of(i int) []T {
	from := 0
	if i > 0 {
		from = r.ends[i-1]
	}
	return r.items[from:r.ends[i]]
}
