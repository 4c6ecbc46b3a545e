package tree

import (
	"strings"

	"barque/api"
)

const (
	anyNames = "**"
	anyBytes = '*'
	anyByte  = '?'
)

// Pattern tells whether a pattern may be: names, parted by slashes, in which * and ? may stand; ** alone stands for any names.
func Pattern(s string) api.Errno {
	// * and ? are signs that a name may have, and ** is a name: so just paths are patterns.
	return Path(s)
}

// Match tells whether a path fits a pattern.
func Match(pattern, path string) bool {
	return Pattern(pattern) == api.OK && Path(path) == api.OK && fitsPath(pattern, path)
}

// Filter are the files whose paths fit one of the first patterns (all, if there are none), and none of the others.
func Filter(l []api.File, in, out []string) ([]api.File, api.Errno) {
	if e := Check(l); e != api.OK {
		return nil, e
	}
	for _, patterns := range [][]string{in, out} {
		for _, s := range patterns {
			if e := Pattern(s); e != api.OK {
				return nil, e
			}
		}
	}
	return picked(l, func(f api.File) bool {
		return (len(in) == 0 || fitsOne(in, f.Path)) && !fitsOne(out, f.Path)
	}), api.OK
}

// fitsOne tells whether one of some patterns fits a path.
func fitsOne(patterns []string, path string) bool {
	for _, s := range patterns {
		if fitsPath(s, path) {
			return true
		}
	}
	return false
}

// fitsPath tells whether a pattern fits a path; both may be.
func fitsPath(pattern, path string) bool {
	anyMany := func(s string) bool { return s == anyNames }
	return fits(strings.Split(pattern, slash), strings.Split(path, slash), anyMany, fitsName)
}

// fitsName tells whether a pattern's name fits a name.
func fitsName(pattern, name string) bool {
	anyMany := func(c byte) bool { return c == anyBytes }
	one := func(c, d byte) bool { return c == anyByte || c == d }
	return fits([]byte(pattern), []byte(name), anyMany, one)
}

// fits tells whether a pattern's parts fit all of a list: a part fits any many, or, if not, just one that it fits.
func fits[T any](pattern, l []T, anyMany func(T) bool, one func(p, x T) bool) bool {
	// Only the last part that fits any many is tried again with one more: whatever an earlier one could take, it can.
	i, again, taken := 0, -1, 0
	for at := 0; at < len(l); {
		switch {
		case i < len(pattern) && anyMany(pattern[i]):
			again, taken = i+1, at
			i++
		case i < len(pattern) && one(pattern[i], l[at]):
			i++
			at++
		case again >= 0:
			taken++
			i, at = again, taken
		default:
			return false
		}
	}
	for i < len(pattern) && anyMany(pattern[i]) {
		i++
	}
	return i == len(pattern)
}
