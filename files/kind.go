package files

import "cadence/api"

// byKind is a thing of each form, and the one that stands for all numbers that are no form's.
type byKind[T any] struct{ ini, csv, card, marks, none T }

func (l byKind[T]) of(kind int) T {
	switch kind {
	case api.FIni:
		return l.ini
	case api.FCsv:
		return l.csv
	case api.FCard:
		return l.card
	case api.FMarks:
		return l.marks
	}
	return l.none
}
