package scan

import (
	"strings"

	"trestle/api"
)

// Spot returns the line and the column of a place of a source.
func Spot(src string, at int) (line, column int, e api.Errno) {
	if len(src) > api.MaxSource {
		return 0, 0, api.ErrLimit
	}
	if at < 0 || at > len(src) {
		return 0, 0, api.ErrArg
	}
	ahead := src[:at]
	// Without a line feed the last one counts as standing at -1, directly ahead of the source.
	return 1 + strings.Count(ahead, "\n"), at - strings.LastIndexByte(ahead, '\n'), api.OK
}

// Place returns the place of a source that has a line and a column.
func Place(src string, line, column int) (int, api.Errno) {
	if len(src) > api.MaxSource {
		return 0, api.ErrLimit
	}
	lines := strings.Split(src, "\n")
	if line < 1 || line > len(lines) {
		return 0, api.ErrArg
	}
	// A line has one more place than bytes: that of its line feed, or the end of the source.
	if column < 1 || column > len(lines[line-1])+1 {
		return 0, api.ErrArg
	}
	at := column - 1
	for _, before := range lines[:line-1] {
		at += len(before) + len("\n")
	}
	return at, api.OK
}
