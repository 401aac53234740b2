package paint

import (
	"foliowright/api"
	"foliowright/fix"
	"foliowright/font"
)

// space: the code behind which words are set apart.
const space = 32

// moveLine along, by two numbers.
func (p *painter) moveLine(args []api.Value) error {
	n, err := numbers(args, 2)
	if err != nil {
		return err
	}
	return p.lineAlong(n[0], n[1])
}

// leadLine along, and keep for later lines how far down it was.
func (p *painter) leadLine(args []api.Value) error {
	n, err := numbers(args, 2)
	if err != nil {
		return err
	}
	p.now.lead = -n[1]
	return p.lineAlong(n[0], n[1])
}

// placeLine where a matrix has it.
func (p *painter) placeLine(args []api.Value) error {
	m, err := matrix(args)
	p.text, p.line = m, m
	return err
}

// nextLine: down by the lead.
func (p *painter) nextLine(args []api.Value) error {
	if len(args) > 0 {
		return api.ErrKind
	}
	return p.lineAlong(0, -p.now.lead)
}

// lineAlong: the line begins further along, and so does what is shown next.
func (p *painter) lineAlong(x, y int) error {
	m, err := along(x, y, p.line)
	p.text, p.line = m, m
	return err
}

// textAlong: what is shown next stands further to the right.
func (p *painter) textAlong(x int) error {
	m, err := along(x, 0, p.text)
	p.text = m
	return err
}

// along: m, behind a move.
func along(x, y int, m api.Matrix) (api.Matrix, error) {
	move := fix.Unit()
	move.E, move.F = x, y
	return fix.Concat(move, m)
}

// showString: the one value of an operator.
func (p *painter) showString(args []api.Value) error {
	v, err := only(args, api.Str)
	if err != nil {
		return err
	}
	return p.show(v.S)
}

// showNext: a string, on the next line. That it is none is told ahead of where it would have stood.
func (p *painter) showNext(args []api.Value) error {
	v, err := only(args, api.Str)
	if err != nil {
		return err
	}
	if err := p.nextLine(nil); err != nil {
		return err
	}
	return p.show(v.S)
}

// showList of strings, and of numbers that move between them.
func (p *painter) showList(args []api.Value) error {
	v, err := only(args, api.List)
	if err != nil {
		return err
	}
	for _, part := range v.L {
		if err := p.showPart(part); err != nil {
			return err
		}
	}
	return nil
}

// showPart of a list.
func (p *painter) showPart(v api.Value) error {
	switch v.Kind {
	case api.Str:
		return p.show(v.S)
	case api.Num:
		return p.back(v.N / api.Whole)
	}
	return api.ErrKind
}

// back by thousandths of the size: what is above 0 moves to the left.
func (p *painter) back(n int) error {
	x, err := fix.Mul(-n, p.now.size)
	if err != nil {
		return err
	}
	if x, err = fix.Mul(x, p.now.scale); err != nil {
		return err
	}
	return p.textAlong(x)
}

// show a string: a glyph of each of its signs.
func (p *painter) show(s string) error {
	if !p.now.chosen || !p.inText {
		return api.ErrNone
	}
	l, err := font.Signs(p.now.font, s)
	if err != nil {
		return err
	}
	for _, sign := range l {
		if err := p.showSign(sign); err != nil {
			return err
		}
	}
	return nil
}

// showSign: its glyph, and what is next stands behind it.
func (p *painter) showSign(sign api.Sign) error {
	if len(p.glyphs) >= api.MaxGlyphs {
		return api.ErrMany
	}
	m, err := p.now.place(p.text)
	if err != nil {
		return err
	}
	g, err := glyphAt(m, sign)
	if err != nil {
		return err
	}
	g.Size = p.now.size
	p.glyphs = append(p.glyphs, g)
	x, err := p.now.advance(sign)
	if err != nil {
		return err
	}
	return p.textAlong(x)
}

// place: what takes a glyph of size 1 to the page.
func (s *state) place(text api.Matrix) (api.Matrix, error) {
	a, err := fix.Mul(s.size, s.scale)
	if err != nil {
		return api.Matrix{}, err
	}
	m, err := fix.Concat(api.Matrix{A: a, D: s.size, F: s.rise}, text)
	if err != nil {
		return api.Matrix{}, err
	}
	return fix.Concat(m, s.page)
}

// glyphAt: where a matrix takes a glyph's corners.
func glyphAt(m api.Matrix, sign api.Sign) (api.Glyph, error) {
	l := []api.Point{{}, {X: sign.Width}, {Y: api.Whole}, {X: sign.Width, Y: api.Whole}}
	for i := range l {
		var err error
		if l[i], err = fix.Apply(m, l[i]); err != nil {
			return api.Glyph{}, err
		}
	}
	return api.Glyph{Text: sign.Text, At: l[0], End: l[1], Box: fix.Around(l)}, nil
}

// advance: how far behind a sign the next one stands. In a wide font no code sets words apart.
func (s *state) advance(sign api.Sign) (int, error) {
	x, err := fix.Mul(sign.Width, s.size)
	if err != nil {
		return 0, err
	}
	if x, err = fix.Add(x, s.char); err != nil {
		return 0, err
	}
	if sign.Code == space && !s.font.Wide {
		if x, err = fix.Add(x, s.word); err != nil {
			return 0, err
		}
	}
	return fix.Mul(x, s.scale)
}
