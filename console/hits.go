package console

import (
	"strconv"
	"strings"

	"foliowright/api"
	"foliowright/fix"
)

// hitsText: where they stand, each with its boxes.
func hitsText(hits []api.Hit) string {
	if len(hits) == 0 {
		return "-"
	}
	var l []string
	for _, h := range hits {
		s := strconv.Itoa(h.From) + "-" + strconv.Itoa(h.To)
		for _, b := range h.Boxes {
			s += " " + boxText(b)
		}
		l = append(l, s)
	}
	return strings.Join(l, "; ")
}

// boxText: both corners of a box.
func boxText(b api.Box) string {
	var l []string
	for _, n := range []int{b.X0, b.Y0, b.X1, b.Y1} {
		s, _ := fix.Text(n) // empty, if it is no number: nothing is told for it
		l = append(l, s)
	}
	return "[" + strings.Join(l, " ") + "]"
}
