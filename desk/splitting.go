package desk

import (
	"strconv"

	"caesura/api"
	"caesura/testfile"
)

func (d *desk) split(words []string) (string, error) {
	return numbers(at, d.splitter.Split(words[0])), nil
}

func (d *desk) splitBy(words []string) (string, error) {
	engine, err := engineOf(words[0])
	if err != nil {
		return "", err
	}
	offsets, err := d.splitter.SplitBy(engine, words[1])
	if err != nil {
		return "", err
	}
	return numbers(at, offsets), nil
}

func engineOf(name string) (int, error) {
	switch name {
	case merged:
		return api.Merged, nil
	case filtered:
		return api.Filtered, nil
	}
	return 0, api.ErrArg
}

func (d *desk) parts(words []string) (string, error) {
	return quoted("parts", d.splitter.Parts(words[0])), nil
}

func (d *desk) takeCases(words []string) (string, error) {
	cases, _, err := testfile.Parse(words[0])
	if err != nil {
		return "", err
	}
	d.cases = cases
	return "cases " + strconv.Itoa(len(cases)), nil
}

func (d *desk) tryCases([]string) (string, error) {
	var failed []int
	for _, failure := range testfile.Run(d.splitter, d.cases) {
		failed = append(failed, failure.Case)
	}
	return numbers("failed", failed), nil
}
