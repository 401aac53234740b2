package press

import (
	"slices"
	"unicode/utf8"

	"foliowright/api"
	"foliowright/filter"
)

// Bounds of a spec.
const (
	mostStyles  = 4
	mostFilters = 3
	mostSigns   = 200 // of a style
	mostWidth   = 5000
	mostRuns    = 30      // of a page
	mostPlace   = 1000000 // of a size and of a place, either way
)

// Check a spec.
func Check(s api.Spec) error {
	if len(s.Styles) > mostStyles || len(s.Pages) > api.MaxPages || len(s.Filter) > mostFilters {
		return api.ErrMany
	}
	for _, x := range s.Styles {
		if err := checkStyle(x); err != nil {
			return err
		}
	}
	if slices.ContainsFunc(s.Filter, func(name string) bool { return !filter.Known(name) }) {
		return api.ErrFilter
	}
	for _, runs := range s.Pages {
		if err := checkPage(s.Styles, runs); err != nil {
			return err
		}
	}
	return nil
}

// checkStyle: its signs, and how wide each is.
func checkStyle(x api.Style) error {
	many := utf8.RuneCountInString(x.Signs)
	if many > mostSigns || many != len(x.Widths) {
		return api.ErrMany
	}
	if !utf8.ValidString(x.Signs) {
		return api.ErrShape
	}
	signs := []rune(x.Signs)
	for i, r := range signs {
		if slices.Contains(signs[:i], r) {
			return api.ErrShape
		}
		if x.Widths[i] < 0 || x.Widths[i] > mostWidth {
			return api.ErrBound
		}
	}
	return nil
}

// checkPage: its runs.
func checkPage(styles []api.Style, runs []api.Run) error {
	if len(runs) > mostRuns {
		return api.ErrMany
	}
	for _, x := range runs {
		if err := checkRun(styles, x); err != nil {
			return err
		}
	}
	return nil
}

// checkRun: where it stands, and its text in its style.
func checkRun(styles []api.Style, x api.Run) error {
	if x.Font < 0 || x.Font >= len(styles) {
		return api.ErrNone
	}
	if beyond(x.Size) || beyond(x.At.X) || beyond(x.At.Y) {
		return api.ErrBound
	}
	if !utf8.ValidString(x.Text) {
		return api.ErrShape
	}
	_, err := coded(styles[x.Font], x.Text)
	return err
}

// beyond: may neither a size nor a place be so great?
func beyond(n int) bool {
	return n < -mostPlace || n > mostPlace
}

// coded: a text as a string in a style.
func coded(x api.Style, text string) (string, error) {
	codes := places(x.Signs)
	var b []byte
	for _, r := range text {
		code, ok := codes[r]
		if !ok {
			return "", api.ErrNone
		}
		if x.Wide {
			b = append(b, 0)
		}
		b = append(b, byte(code))
	}
	if len(b) > api.MaxBytes {
		return "", api.ErrMany
	}
	return string(b), nil
}

// places of signs, which are their codes.
func places(signs string) map[rune]int {
	codes := map[rune]int{}
	for _, r := range signs {
		codes[r] = len(codes)
	}
	return codes
}
