package tree

import "commonhold/api"

// versions: the root of each version, by its number. No node is changed once it is made, so that versions share those that are alike in them.
type versions []node

func (v versions) has(version int) bool {
	return version >= 0 && version < len(v)
}

// play: what a deed comes to.
func (v *versions) play(d api.Deed) api.Found {
	if d.Kind < api.Put || d.Kind > api.Scan {
		return refused(api.ErrKind)
	}
	if !v.has(d.Version) {
		return refused(api.ErrRange)
	}
	root := (*v)[d.Version]
	switch d.Kind {
	case api.Put:
		return v.put(root, api.Entry{Key: d.Key, Value: d.Value})
	case api.Drop:
		return v.drop(root, d.Key)
	case api.Look:
		return look(root, d.Key)
	}
	return scan(root, api.Range{Low: d.Key, High: d.Value}, d.Limit)
}

func refused(code api.Errno) api.Found {
	return api.Found{Code: code}
}

// add: the next version has that root.
func (v *versions) add(root node) api.Found {
	*v = append(*v, root)
	return api.Found{Version: len(*v) - 1}
}

func (v *versions) put(root node, e api.Entry) api.Found {
	if len(e.Key) == 0 || len(e.Key) > api.MaxKey || len(e.Value) > api.MaxBody {
		return refused(api.ErrSize)
	}
	return v.add(node{kids: root.with(e)}.topped())
}

func (v *versions) drop(root node, key []byte) api.Found {
	if _, there := root.entry(key); !there {
		return refused(api.ErrNone)
	}
	return v.add(root.without(key).topped())
}
