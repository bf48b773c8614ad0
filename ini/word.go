package ini

import (
	"strings"

	"cadence/api"
	"cadence/lines"
)

// isValue refuses blanks at the ends too: a line would not keep them.
func isValue(s string) bool {
	_, mid, _ := lines.Trim(s)
	return mid == s && len(s) <= api.MaxName && !strings.ContainsAny(s, "\n\r")
}

func isSection(s string) bool {
	return s != "" && isValue(s) && !strings.ContainsAny(s, "[]")
}

// isKey refuses what would make a key's line a header or a remark.
func isKey(s string) bool {
	return s != "" && isValue(s) && !strings.Contains(s, "=") && !strings.ContainsAny(s[:1], "[;#")
}

func fitsSection(x api.Edge) bool {
	if !isSection(x.Name) {
		return false
	}
	for _, k := range x.T {
		if !fitsKey(k) {
			return false
		}
	}
	return true
}

func fitsKey(x api.Edge) bool {
	return isKey(x.Name) && len(x.T) == 1 && isValue(x.T[0].Name) && len(x.T[0].T) == 0
}
