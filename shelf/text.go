package shelf

import (
	"slices"
	"strings"

	"coilrack/api"
	"coilrack/terms"
)

// nothing is the word for an empty slot.
const nothing = "."

// Print writes a layout.
func Print(r api.Rack, x []string) (string, api.Errno) {
	if e := CheckRack(r); e != api.OK {
		return "", e
	}
	if len(x) != r.Rows*r.Columns {
		return "", api.ErrForm
	}
	if e := checkProducts(x); e != api.OK {
		return "", e
	}
	var text strings.Builder
	for row := range slices.Chunk(x, r.Columns) {
		text.WriteString(strings.Join(words(row), " "))
		text.WriteByte('\n')
	}
	return text.String(), api.OK
}

// Parse reads a layout.
func Parse(r api.Rack, text string) ([]string, int, api.Errno) {
	if e := CheckRack(r); e != api.OK {
		return nil, 0, e
	}
	if len(text) > api.MaxText {
		return nil, 0, api.ErrLarge
	}
	var x []string
	lines := 0
	for line := range strings.Lines(text) {
		row, ok := products(line)
		if !ok || len(row) != r.Columns {
			return nil, lines, api.ErrSyntax
		}
		x = append(x, row...)
		lines++
	}
	if lines != r.Rows {
		return nil, 0, api.ErrForm
	}
	return x, 0, api.OK
}

// words returns the words for what is in slots.
func words(row []string) []string {
	l := slices.Clone(row)
	for i, product := range row {
		if product == "" {
			l[i] = nothing
		}
	}
	return l
}

// products returns what the words of a line say is in slots; false if one is neither . nor a key, or no line feed ends the line.
func products(line string) ([]string, bool) {
	line, ok := strings.CutSuffix(line, "\n")
	if !ok {
		return nil, false
	}
	row := strings.Split(line, " ")
	for i, word := range row {
		switch {
		case word == nothing:
			row[i] = ""
		case !terms.IsKey(word):
			return nil, false
		}
	}
	return row, true
}
