package merge

import "iter"

// none stands in a pattern in the place of the rule, or of the entry, that it is not of.
const none = -1

// rulesFrom goes through the patterns of the rules from one number to ahead of another.
func rulesFrom(low, high int) iter.Seq[[3]int] {
	return func(yield func([3]int) bool) {
		for rule := low; rule < high; rule++ {
			if !yield([3]int{rule, none, 0}) {
				return
			}
		}
	}
}

// cutsOf goes through the patterns of the entries; the last cut of each is the whole entry.
func cutsOf(entries [][]int) iter.Seq[[3]int] {
	return func(yield func([3]int) bool) {
		for number, entry := range entries {
			for cut := 1; cut <= len(entry); cut++ {
				if !yield([3]int{none, number, cut}) {
					return
				}
			}
		}
	}
}
