package console

import (
	"slices"
	"strings"
	"unicode/utf8"

	"foliowright/api"
	"foliowright/fix"
	"foliowright/press"
)

// Kinds of fonts, as lines name them.
const (
	simple = "simple"
	wide   = "wide"
)

// runParts: of how many parts a run is told; the last one, its text, may have blanks.
const runParts = 5

// change the spec to another one, if that may be; else it stays, which is why no caller writes into its lists.
func (s *session) change(to api.Spec) (string, error) {
	if err := press.Check(to); err != nil {
		return "", err
	}
	s.spec = to
	return "ok", nil
}

// addFont: one style more, of which all signs are as wide.
func (s *session) addFont(rest string) (string, error) {
	w, err := words(rest)
	if err != nil {
		return "", err
	}
	if len(w) != 3 || w[0] != simple && w[0] != wide {
		return "", api.ErrText
	}
	width, is := number(w[1])
	if !is {
		return "", api.ErrText
	}
	signs := strings.ReplaceAll(w[2], "_", " ")
	widths := slices.Repeat([]int{width}, utf8.RuneCountInString(signs))
	to := s.spec
	to.Styles = append(slices.Clone(to.Styles), api.Style{Wide: w[0] == wide, Signs: signs, Widths: widths})
	return s.change(to)
}

// setFilter: these are the filters.
func (s *session) setFilter(rest string) (string, error) {
	names, err := words(rest)
	if err != nil {
		return "", err
	}
	to := s.spec
	to.Filter = names
	return s.change(to)
}

// addPage: one page more.
func (s *session) addPage() (string, error) {
	to := s.spec
	to.Pages = append(slices.Clone(to.Pages), nil)
	return s.change(to)
}

// addRun: one run more on the last page.
func (s *session) addRun(rest string) (string, error) {
	w := strings.SplitN(rest, " ", runParts)
	last := len(s.spec.Pages) - 1
	if len(w) < runParts || last < 0 {
		return "", api.ErrText
	}
	font, is := number(w[0])
	if !is {
		return "", api.ErrText
	}
	n, err := three(w[1], w[2], w[3])
	if err != nil {
		return "", err
	}
	x := api.Run{Font: font, Size: n[0], At: api.Point{X: n[1], Y: n[2]}, Text: w[4]}
	to := s.spec
	to.Pages = slices.Clone(to.Pages)
	to.Pages[last] = append(slices.Clone(to.Pages[last]), x)
	return s.change(to)
}

// three numbers of thousandths: a size, and a place.
func three(size, x, y string) ([3]int, error) {
	var n [3]int
	for i, word := range [3]string{size, x, y} {
		var err error
		if n[i], err = fix.Parse(word); err != nil {
			return [3]int{}, err
		}
	}
	return n, nil
}
