package commit

import "cadence/vfs"

// gains are how many bytes each file will have more than now; below 0, if it will have less.
func gains(v *vfs.Vfs, l []File) []int {
	n := make([]int, len(l))
	for i, x := range l {
		b, _, _ := v.Read(x.Name)
		n[i] = len(x.B) - len(b)
	}
	return n
}

// more does not count what files lose: after a crash that may be there still.
func more(v *vfs.Vfs, l []File) int {
	sum := 0
	for _, n := range gains(v, l) {
		sum += max(n, 0)
	}
	return sum
}

// fits tells whether the files may be written one behind the other.
func fits(v *vfs.Vfs, l []File) bool {
	used := v.Used()
	for _, n := range gains(v, l) {
		used += n
		if used > v.Room() {
			return false
		}
	}
	return true
}
