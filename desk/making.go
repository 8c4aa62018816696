package desk

import (
	"math"
	"strconv"

	"caesura/api"
	"caesura/breaker"
	"caesura/standard"
)

// The names of the engines.
const (
	merged   = "merged"
	filtered = "filtered"
)

func (d *desk) takeProperty(words []string) (string, error) {
	d.property = words[0]
	return well, nil
}

func (d *desk) takeRules(words []string) (string, error) {
	d.rules = words[0]
	return well, nil
}

func (d *desk) takeBundle(words []string) (string, error) {
	d.bundle = words[0]
	return well, nil
}

func (d *desk) takeStandard(words []string) (string, error) {
	switch words[0] {
	case "sentences":
		d.property, d.rules, d.bundle = standard.Property(), standard.Sentences(), standard.Bundle()
	case "words":
		d.rules = standard.Words()
	case "clusters":
		d.rules = standard.Clusters()
	default:
		return "", api.ErrArg
	}
	return well, nil
}

func (d *desk) build(words []string) (string, error) {
	budget, err := count(words[1])
	if err != nil {
		return "", err
	}
	s, err := breaker.Build(d.property, d.rules, d.bundle, words[0], budget)
	if err != nil {
		return "", err
	}
	d.use(s)
	if s.Engine() == api.Merged {
		return "built " + merged, nil
	}
	return "built " + filtered, nil
}

func (d *desk) save([]string) (string, error) {
	d.record = d.splitter.Save()
	return "saved " + strconv.Itoa(len(d.record)), nil
}

func (d *desk) load([]string) (string, error) {
	s, err := breaker.Load(d.record)
	if err != nil {
		return "", err
	}
	d.use(s)
	return well, nil
}

// spoil writes into the record alone: no splitter keeps memory of it.
func (d *desk) spoil(words []string) (string, error) {
	at, err := count(words[0])
	if err != nil {
		return "", err
	}
	value, err := count(words[1])
	if err != nil {
		return "", err
	}
	if at >= len(d.record) || value > math.MaxUint8 {
		return "", api.ErrArg
	}
	d.record[at] = byte(value)
	return well, nil
}
