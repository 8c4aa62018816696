package breaker

import (
	"caesura/alphabet"
	"caesura/api"
	"caesura/bundle"
	"caesura/locale"
	"caesura/merge"
	"caesura/pair"
	"caesura/propfile"
	"caesura/props"
	"caesura/rules"
	"caesura/units"
)

// made is what building has come to: what the files say, and the tables that are made of it.
type made struct {
	classes *props.Table
	rules   api.Rules
	entries [][]int
	tables  api.Tables
}

// read takes in the files, in the order in which their faults are told.
func (m *made) read(propertyText, rulesText, bundleText, tag string) error {
	if err := m.readProperty(propertyText); err != nil {
		return err
	}
	var err error
	if m.rules, _, err = rules.Parse(rulesText); err != nil {
		return err
	}
	return m.readEntries(bundleText, tag)
}

func (m *made) readProperty(text string) error {
	property, _, err := propfile.Parse(text)
	if err != nil {
		return err
	}
	if m.classes, err = props.New(property); err != nil {
		return err
	}
	m.tables.Names = m.classes.Names()
	m.tables.Spans = shifted(property.Spans, 1)
	return nil
}

func (m *made) readEntries(text, tag string) error {
	b, _, err := bundle.Parse(text)
	if err != nil {
		return err
	}
	entries, err := locale.Resolve(b, tag)
	if err != nil {
		return err
	}
	m.tables.Before = m.rules.Suppress
	// Rules that do not suppress look at no entry; but the bundle is read all the same, so that its faults are told.
	if m.rules.Suppress >= 0 {
		m.tables.Entries = entries
		m.entries = entryPoints(entries)
	}
	return nil
}

// compile makes the machines of what was read.
func (m *made) compile(budget int) error {
	a, err := alphabet.New(m.classes, alphabet.Sets(m.rules, m.entries))
	if err != nil {
		return err
	}
	if err := m.takeLetters(a); err != nil {
		return err
	}
	if m.tables.Plain, err = pair.Of(m.rules, nil, a, 2*api.MaxStates); err != nil {
		return err
	}
	merged, fits, err := merge.Of(m.rules, m.entries, a, budget)
	if err != nil {
		return err
	}
	m.tables.Engine = api.Filtered
	if fits {
		m.tables.Merged, m.tables.Engine = merged, api.Merged
	}
	return nil
}

func (m *made) takeLetters(a *alphabet.Alphabet) error {
	m.tables.Symbols = a.Symbols()
	m.tables.Letters, m.tables.Stray = a.Tables()
	if m.rules.Suppress < 0 {
		return nil
	}
	var err error
	m.tables.Trail, err = a.Letters(m.rules.Trail)
	return err
}

// entryPoints is each entry as the points of its units.
func entryPoints(entries []string) [][]int {
	var list [][]int
	for _, entry := range entries {
		list = append(list, pointsOf(units.Split(entry)))
	}
	return list
}

// shifted is the spans with other numbers for their classes: a property does not count Other among its names, tables do.
func shifted(spans []api.Span, by int) []api.Span {
	list := make([]api.Span, len(spans))
	for i, s := range spans {
		s.Name += by
		list[i] = s
	}
	return list
}

// propertyOf is the property of which tables were made.
func propertyOf(t api.Tables) api.Property {
	return api.Property{Names: t.Names[1:], Spans: shifted(t.Spans, -1)}
}
