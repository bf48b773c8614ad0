package files

import (
	"cadence/api"
	"cadence/card"
	"cadence/csv"
	"cadence/ini"
	"cadence/marks"
)

// form is what can be done with files of one form.
type form struct {
	load   func(string) (api.Tree, int, api.Errno)
	fits   func(api.Tree) api.Errno
	put    func(api.Tree, string) (string, api.Errno)
	create func(api.Tree) (string, api.Errno)
}

func forms() byKind[form] {
	return byKind[form]{
		ini:   form{ini.Load, ini.Fits, ini.Put, ini.Create},
		csv:   form{csv.Load, csv.Fits, csv.Put, csv.Create},
		card:  form{card.Load, card.Fits, card.Put, card.Create},
		marks: form{marks.Load, marks.Fits, marks.Put, marks.Create},
		none:  noForm(),
	}
}

// noForm refuses whatever comes, so that no call must ask for itself whether there is a form.
func noForm() form {
	return form{
		load:   func(string) (api.Tree, int, api.Errno) { return nil, 0, api.ErrKind },
		fits:   func(api.Tree) api.Errno { return api.ErrKind },
		put:    func(api.Tree, string) (string, api.Errno) { return "", api.ErrKind },
		create: func(api.Tree) (string, api.Errno) { return "", api.ErrKind },
	}
}
