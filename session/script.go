package session

import (
	"slices"
	"strings"

	"simile/api"
	"simile/numeral"
	"simile/route"
)

// line is one that reports: its number, its word, the road that it names, and its matrices' texts.
type line struct {
	number     int
	word, road string
	texts      []string
}

// given is a name's text.
type given struct{ text string }

// script is what is read so far.
type script struct {
	number, saying int
	names          map[string]given
	lines          []line
}

// wrong is what a script is given up with.
type wrong struct{ fault api.Errno }

// read: the lines that report; or the number of the line with which the script is given up, and its error.
func read(text string) (lines []line, number int, e api.Errno) {
	if len(text) > api.MaxText {
		return nil, 0, api.ErrTooBig
	}
	s := script{names: map[string]given{}}
	defer func() {
		if w, ok := recover().(wrong); ok {
			lines, number, e = nil, s.number, w.fault
		}
	}()
	for l := range strings.Lines(text) {
		s.number++
		s.take(strings.TrimSuffix(l, "\n"))
	}
	return s.lines, 0, api.OK
}

// take reads one line more.
func (s *script) take(text string) {
	if strings.HasPrefix(text, "#") || strings.Trim(numeral.Plain(text), " ") == "" {
		return
	}
	if s.saying++; s.saying > api.MaxLines {
		panic(wrong{api.ErrTooBig})
	}
	parts := split(text)
	if parts[0] == "let" {
		s.let(parts[1:])
		return
	}
	c, there := commands()[parts[0]]
	must(there)
	out := line{number: s.number, word: parts[0]}
	parts = parts[1:]
	if c.onRoad {
		must(len(parts) > 0 && slices.Contains(route.Names(), parts[0]))
		out.road, parts = parts[0], parts[1:]
	}
	must(len(parts) >= c.least && len(parts) <= c.most)
	for _, part := range parts {
		out.texts = append(out.texts, s.textOf(part))
	}
	s.lines = append(s.lines, out)
}

// let gives a name its text.
func (s *script) let(parts []string) {
	must(len(parts) == 2 && isName(parts[0]) && strings.HasPrefix(parts[1], "["))
	s.names[parts[0]] = given{inside(parts[1])}
}

// textOf: the text that a part stands for.
func (s *script) textOf(part string) string {
	if strings.HasPrefix(part, "[") {
		return inside(part)
	}
	g, there := s.names[part]
	must(there)
	return g.text
}

// inside: what stands between the brackets.
func inside(part string) string { return part[1 : len(part)-1] }

// must gives the script up, if a line is wrong.
func must(right bool) {
	if !right {
		panic(wrong{api.ErrScript})
	}
}

// split: a line's parts, with one space between each two; a space between brackets parts nothing.
func split(text string) []string {
	var out []string
	from, open, closed := 0, false, false
	for i, r := range text {
		switch {
		case open:
			open = r != ']'
			closed = !open
		case r == ' ':
			out = append(out, text[from:i])
			from, closed = i+1, false
		case r == '[':
			must(i == from)
			open = true
		default:
			must(!closed && r != ']')
		}
	}
	must(!open)
	out = append(out, text[from:])
	must(!slices.Contains(out, ""))
	return out
}

// isName: a letter, and up to 19 letters or digits more?
func isName(text string) bool {
	for i, r := range text {
		letter := 'a' <= r && r <= 'z' || 'A' <= r && r <= 'Z'
		digit := '0' <= r && r <= '9'
		if !letter && (i == 0 || !digit) {
			return false
		}
	}
	return len(text) > 0 && len(text) <= 20
}
