package desk

// need is what a command works with.
type need int

const (
	nothing need = iota
	aSplitter
	aCursor
	aStream
	aDocument
)

// command is how many arguments a command has, what it needs, and what it does: the answer, or a refusal.
type command struct {
	arguments int
	needs     need
	play      func(*desk, []string) (string, error)
}

func commands() map[string]command {
	return map[string]command{
		"property": {1, nothing, (*desk).takeProperty},
		"rules":    {1, nothing, (*desk).takeRules},
		"bundle":   {1, nothing, (*desk).takeBundle},
		"standard": {1, nothing, (*desk).takeStandard},

		"build": {2, nothing, (*desk).build},
		"save":  {0, aSplitter, (*desk).save},
		"load":  {0, nothing, (*desk).load},
		"spoil": {2, nothing, (*desk).spoil},

		"split":   {1, aSplitter, (*desk).split},
		"splitby": {2, aSplitter, (*desk).splitBy},
		"parts":   {1, aSplitter, (*desk).parts},

		"cursor":    {1, aSplitter, (*desk).newCursor},
		"first":     {0, aCursor, (*desk).first},
		"last":      {0, aCursor, (*desk).last},
		"next":      {0, aCursor, (*desk).next},
		"previous":  {0, aCursor, (*desk).previous},
		"current":   {0, aCursor, (*desk).current},
		"following": {1, aCursor, (*desk).following},
		"preceding": {1, aCursor, (*desk).preceding},
		"move":      {1, aCursor, (*desk).move},
		"is":        {1, aCursor, (*desk).isBoundary},
		"part":      {0, aCursor, (*desk).part},

		"stream": {0, aSplitter, (*desk).newStream},
		"feed":   {1, aStream, (*desk).feed},
		"end":    {0, aStream, (*desk).end},

		"document": {1, aSplitter, (*desk).newDocument},
		"replace":  {3, aDocument, (*desk).replace},
		"undo":     {0, aDocument, (*desk).undo},
		"text":     {0, aDocument, (*desk).text},
		"breaks":   {0, aDocument, (*desk).breaks},

		"cases": {1, nothing, (*desk).takeCases},
		"try":   {0, aSplitter, (*desk).tryCases},
	}
}

// has: is there what a command needs?
func (d *desk) has(n need) bool {
	switch n {
	case aSplitter:
		return d.splitter != nil
	case aCursor:
		return d.cursor != nil
	case aStream:
		return d.stream != nil
	case aDocument:
		return d.document != nil
	}
	return true
}
