package stream

import "slices"

// settle takes the places from the list that are settled now, so many units having come, and is the boundaries among them.
func (t *Stream) settle(come int) []int {
	if come == 0 || t.stillOpen(come) {
		return nil
	}
	t.look()
	count, told := t.ripe()
	t.cut(count)
	t.watch()
	return told
}

// stillOpen: do so many new units leave it open which number the first place has? They alone are read for that, however long it has been waiting.
func (t *Stream) stillOpen(come int) bool {
	if t.open == nil {
		return false
	}
	t.open = t.front.onward(t.open, t.waiting[len(t.waiting)-1-come:])
	return !allSame(t.open)
}

// watch sets down what is open about the first place.
func (t *Stream) watch() {
	t.open = nil
	first := t.waiting[0]
	if len(t.waiting) == 1 || first.sure {
		return
	}
	numbers := make([]int, len(t.plain.Right.Next))
	for state := range numbers {
		numbers[state] = t.plain.number(first.ahead, state)
	}
	t.open = t.front.onward(numbers, t.waiting)
}

// look finds out which places have one number whatever comes.
func (t *Stream) look() {
	number := t.plain.remembered()
	for i := range t.front.back(t.waiting) {
		p := &t.waiting[i]
		if !p.sure {
			p.number, p.sure = t.front.agree(func(state int) int { return number(p.ahead, state) })
		}
	}
}

// ripe is how many places at the head of the list are settled, and the boundaries among them.
func (t *Stream) ripe() (count int, told []int) {
	last := len(t.waiting) - 1
	for i, p := range t.waiting[:last] {
		breaks, ripe := t.decide(p, last-i)
		if !ripe {
			break
		}
		count++
		if breaks {
			told = append(told, p.offset)
		}
	}
	return count, told
}

// decide: is a place with so many units behind it ripe, and is there a boundary then?
func (t *Stream) decide(p place, behind int) (breaks, ripe bool) {
	switch {
	case p.offset == 0:
		return true, true
	case !p.sure:
		return false, false
	case !t.plain.says(p.number):
		return false, true
	case t.plain.isLast(p.number):
		return true, true
	case p.hidden:
		return false, true
	}
	uncovered := !t.entries.mayCover(behind)
	return uncovered, uncovered
}

// cut moves what is left to new memory: a list that was long once is not kept for a short one.
func (t *Stream) cut(count int) {
	left := make([]place, len(t.waiting)-count)
	copy(left, t.waiting[count:])
	t.waiting = left
}

// rest is the boundaries at the places that are left, now that nothing comes any more.
func (t *Stream) rest() []int {
	last := len(t.waiting) - 1
	end := t.waiting[last].offset
	if end == 0 {
		return nil
	}
	told := []int{end}
	number := t.plain.remembered()
	state := t.plain.Right.Start
	for i := last - 1; i >= 0; i-- {
		p := t.waiting[i]
		state = t.plain.Right.Next[state][p.symbol]
		if p.offset == 0 || t.breaks(p, number(p.ahead, state)) {
			told = append(told, p.offset)
		}
	}
	slices.Reverse(told)
	return told
}

// breaks: is there a boundary at a place where a rule of that number decides?
func (t *Stream) breaks(p place, number int) bool {
	return t.plain.says(number) && (t.plain.isLast(number) || !p.hidden)
}
