package card

import (
	"strings"

	"cadence/api"
)

// Words that say more than a property of the block.
const (
	wordBegin = "BEGIN"
	wordEnd   = "END"
	wordID    = "ID"
)

const (
	maxWord = 20 // letters of a word
	maxDeep = 3  // blocks, one in the other
)

func isWord(s string) bool {
	return s != "" && len(s) <= maxWord && !strings.ContainsFunc(s, isOdd)
}

// isOdd tells what no word has.
func isOdd(r rune) bool {
	return r != '-' && (r < '0' || r > '9') && (r < 'A' || r > 'Z')
}

// isProperty refuses ID too: a tree has it as a name of its own.
func isProperty(s string) bool {
	return isWord(s) && s != wordBegin && s != wordEnd && s != wordID
}

func isPlain(s string) bool {
	return s != "" && len(s) <= api.MaxName && !strings.ContainsAny(s, "\n\r")
}
