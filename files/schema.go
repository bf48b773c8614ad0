package files

import "cadence/api"

// schemas are made anew at each call, as whoever is handed one may change it.
func schemas() byKind[api.Schema] {
	return byKind[api.Schema]{ini: values(), csv: values(), card: blocks(), marks: folders()}
}

// values are below two names each: a section's and a key, a row's and a column.
func values() api.Schema {
	return api.Schema{
		{Fields: []api.Field{each(1)}},
		{Fields: []api.Field{each(2)}},
		{Fields: []api.Field{each(3)}, One: true},
		{},
	}
}

// blocks are words, ids, contents; then properties, and their values.
func blocks() api.Schema {
	return api.Schema{
		{Fields: []api.Field{each(1)}},
		{Fields: []api.Field{each(2)}, Some: true},
		{Fields: []api.Field{need("blocks", 0), need("props", 3)}},
		{Fields: []api.Field{each(4)}},
		{Fields: []api.Field{each(5)}, Some: true},
		{},
	}
}

// folders are a content, and its folders; then links, and their titles.
func folders() api.Schema {
	return api.Schema{
		{Fields: []api.Field{need("folders", 1), need("links", 2)}},
		{Fields: []api.Field{each(0)}},
		{Fields: []api.Field{each(3)}},
		{Fields: []api.Field{each(4)}, One: true},
		{},
	}
}

// each is a field of all names.
func each(to int) api.Field { return api.Field{N: api.Names{All: true}, To: to} }

// need is a field of a name that must be there.
func need(name string, to int) api.Field {
	return api.Field{N: api.Names{L: []string{name}}, To: to, Need: true}
}
