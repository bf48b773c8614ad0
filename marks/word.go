package marks

import (
	"strings"

	"cadence/api"
)

// Lines that are always the same.
const (
	wordTop  = "<!MARKS>"
	wordOpen = "<DL>"
	wordShut = "</DL>"
)

// What is around a link's place and its title, and around a folder's name.
const (
	linkFront = `<A HREF="`
	linkMid   = `">`
	linkBack  = "</A>"
	headFront = "<H3>"
	headBack  = "</H3>"
)

const maxDeep = 4 // folders, one in the other

func isTitle(s string) bool {
	return len(s) <= api.MaxName && !strings.ContainsAny(s, "\n\r")
}

func isPlain(s string) bool { return s != "" && isTitle(s) }

// writing is how what means this is written.
func writing(means string) string {
	return strings.NewReplacer("&", "&amp;", "<", "&lt;", ">", "&gt;", `"`, "&quot;").Replace(means)
}

// meaning is what a text of a file means; false, if it may not mean that, or is not written as it must be. There is one way to write what means this, so that writing it anew tells.
func meaning(text string, may func(string) bool) (string, bool) {
	means := strings.NewReplacer("&amp;", "&", "&lt;", "<", "&gt;", ">", "&quot;", `"`).Replace(text)
	return means, may(means) && writing(means) == text
}
