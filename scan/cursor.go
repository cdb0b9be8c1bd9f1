package scan

import "strings"

// cursor is a place in a source, which moves forward.
type cursor struct {
	src string
	at  int
}

func (c *cursor) done() bool { return c.at == len(c.src) }

// sees reports whether a text begins at the cursor.
func (c *cursor) sees(text string) bool { return strings.HasPrefix(c.src[c.at:], text) }

// on reports whether there is a byte at the cursor for which a property holds.
func (c *cursor) on(is func(byte) bool) bool { return !c.done() && is(c.src[c.at]) }

// over moves the cursor as far as a property holds.
func (c *cursor) over(is func(byte) bool) {
	for c.on(is) {
		c.at++
	}
}

// take moves the cursor over a text, if that begins there.
func (c *cursor) take(text string) bool {
	if !c.sees(text) {
		return false
	}
	c.at += len(text)
	return true
}

// behind moves the cursor behind the next place where a text stands, if there is one.
func (c *cursor) behind(text string) bool {
	ahead := strings.Index(c.src[c.at:], text)
	if ahead < 0 {
		return false
	}
	c.at += ahead + len(text)
	return true
}
