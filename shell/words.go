package shell

import (
	"strings"

	"toll/api"
)

const (
	blanks = " \t"        // that part words
	ends   = blanks + `"` // that a plain word does not go beyond
	digits = "0123456789abcdef"
)

// Words takes a line to pieces.
func Words(line string) ([]string, api.Errno) {
	var words []string
	for rest := skipBlanks(line); rest != "" && rest[0] != '#'; rest = skipBlanks(rest) {
		word, behind, is := firstWord(rest)
		if !is || !mayFollow(behind) {
			return nil, api.ErrWord
		}
		words = append(words, word)
		rest = behind
	}
	return words, api.OK
}

func skipBlanks(line string) string { return strings.TrimLeft(line, blanks) }

// mayFollow tells whether a word may end where the line goes on so.
func mayFollow(behind string) bool {
	return behind == "" || strings.IndexByte(blanks, behind[0]) >= 0
}

// firstWord tells the word that a line begins with, and what stands behind it.
func firstWord(line string) (string, string, bool) {
	if line[0] == '"' {
		return quotedWord(line[1:])
	}
	n := strings.IndexAny(line, ends)
	if n < 0 {
		n = len(line)
	}
	return strings.Clone(line[:n]), line[n:], true
}

// quotedWord goes on behind the sign that a quoted word begins with, up to the one that it ends with.
func quotedWord(line string) (string, string, bool) {
	var word strings.Builder
	for line != "" && line[0] != '"' {
		b, n := firstByte(line)
		if n == 0 {
			return "", "", false
		}
		word.WriteByte(b)
		line = line[n:]
	}
	if line == "" {
		return "", "", false
	}
	return word.String(), line[1:], true
}

// firstByte tells the byte that a quoted word goes on with, and how many signs stand for it: none, where it may not go on so.
func firstByte(line string) (byte, int) {
	if line[0] != '\\' {
		return line[0], 1
	}
	if len(line) < 2 {
		return 0, 0
	}
	switch line[1] {
	case '\\', '"':
		return line[1], 2
	case 'n':
		return '\n', 2
	case 't':
		return '\t', 2
	case 'x':
		return hexByte(line)
	}
	return 0, 0
}

// hexByte tells the byte of \xHH.
func hexByte(line string) (byte, int) {
	if len(line) < 4 {
		return 0, 0
	}
	high, low := strings.IndexByte(digits, line[2]), strings.IndexByte(digits, line[3])
	if high < 0 || low < 0 {
		return 0, 0
	}
	return byte(high<<4 | low), 4
}

// Quote writes bytes as one word.
func Quote(b []byte) string {
	word := []byte{'"'}
	for _, c := range b {
		word = appendQuoted(word, c)
	}
	return string(append(word, '"'))
}

func appendQuoted(word []byte, c byte) []byte {
	switch {
	case c == '\\' || c == '"':
		return append(word, '\\', c)
	case c == '\n':
		return append(word, `\n`...)
	case c == '\t':
		return append(word, `\t`...)
	case c < ' ' || c > '~':
		return append(word, '\\', 'x', digits[c>>4], digits[c&15])
	}
	return append(word, c)
}
