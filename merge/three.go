package merge

// three is a thing of the archive's, and the like of each side's.
type three[T any] struct{ o, a, b T }

// alike are three that are the same, but each made by itself: an answer's lists share no memory.
func alike[T any](made func() T) three[T] { return three[T]{made(), made(), made()} }

// each is what f makes of each.
func each[T, U any](x three[T], f func(T) U) three[U] {
	return three[U]{f(x.o), f(x.a), f(x.b)}
}

// joined is what f makes of each one of x and its like of y.
func joined[T, U, V any](x three[T], y three[U], f func(T, U) V) three[V] {
	return three[V]{f(x.o, y.o), f(x.a, y.a), f(x.b, y.b)}
}
