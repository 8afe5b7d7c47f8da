package tree

import (
	"cmp"
	"slices"

	"winnower/api"
	"winnower/roll"
)

// walk hands all entries of keys from low on, below high, to visit: those of a node ahead of those of its kids. The tree, from the place on, is one that may be.
func walk(t api.Tree, place, low, high int, visit func(api.Entry)) {
	n := t.Nodes[place]
	for _, l := range [...][]api.Entry{n.Buffer, n.Entries} {
		for _, x := range l {
			if low <= x.Key && x.Key < high {
				visit(x)
			}
		}
	}
	for i, kid := range n.Kids {
		below := i > 0 && high <= n.Keys[i-1]
		above := i < len(n.Keys) && n.Keys[i] <= low
		if !below && !above {
			walk(t, kid, low, high, visit)
		}
	}
}

// knownAt tells what the nodes from the place on down know of a key. ErrSize: it can't come together.
func knownAt(t api.Tree, place, key int) (api.Rollup, api.Errno) {
	var known api.Rollup
	code := api.OK
	walk(t, place, key, key+1, func(x api.Entry) {
		if code == api.OK {
			known, code = roll.Merge(known, x.Is)
		}
	})
	return known, code
}

// bringTogether makes one entry of all that have one key; l is the caller's own, and is sorted in place.
func bringTogether(l []api.Entry) ([]api.Entry, api.Errno) {
	slices.SortFunc(l, func(a, b api.Entry) int { return cmp.Compare(a.Key, b.Key) })
	var out []api.Entry
	for _, x := range l {
		last := len(out) - 1
		if last < 0 || out[last].Key != x.Key {
			out = append(out, x)
			continue
		}
		r, e := roll.Merge(out[last].Is, x.Is)
		if e != api.OK {
			return nil, e
		}
		out[last].Is = r
	}
	return out, api.OK
}
