package minimal

// span is where the states of a class stand in the row of all.
type span struct {
	from, to int
}

func (s span) size() int { return s.to - s.from }

// parts is states parted into classes; those of one class stand side by side.
type parts struct {
	row   []int
	place []int // of each state, in row
	class []int // of each state
	spans []span
	queue []int // the states that have got another class since the queue was taken, one or more times
}

// newParts has so many states, all of one class.
func newParts(states int) *parts {
	p := &parts{
		row:   make([]int, states),
		place: make([]int, states),
		class: make([]int, states),
		spans: []span{{from: 0, to: states}},
	}
	for s := range states {
		p.row[s], p.place[s] = s, s
	}
	return p
}

// cut parts some states of one class from the rest of it. The fewer of both get the new number: so a state changes its class only as often as its class can be halved.
func (p *parts) cut(states []int) {
	class := p.class[states[0]]
	rest := p.spans[class]
	apart := span{from: rest.to, to: rest.to}
	for _, s := range states {
		rest.to--
		p.swap(p.place[s], rest.to)
	}
	apart.from = rest.to
	more, less := rest, apart
	if rest.size() < apart.size() {
		more, less = apart, rest
	}
	if less.size() == 0 {
		return
	}
	p.spans[class] = more
	p.spans = append(p.spans, less)
	for _, s := range p.row[less.from:less.to] {
		p.class[s] = len(p.spans) - 1
		p.queue = append(p.queue, s)
	}
}

func (p *parts) swap(i, j int) {
	a, b := p.row[i], p.row[j]
	p.row[i], p.row[j] = b, a
	p.place[a], p.place[b] = j, i
}

// take is the queue, which is empty then.
func (p *parts) take() []int {
	queue := p.queue
	p.queue = nil
	return queue
}
