package trees

import (
	"notary/api"
	"notary/digest"
	"notary/wire"
)

// OfLog is the source of the log that has these values.
func OfLog(values []int) Source {
	return ofPlaces(func(place int) api.Node {
		return logNode(values[place])
	})
}

// OfTable is the source of the table that has these values under their keys.
func OfTable(values map[int]int) Source {
	return ofPlaces(func(key int) api.Node {
		v, there := values[key]
		if !there {
			return wire.Empty()
		}
		return keyNode(key, v)
	})
}

// OfProof is the source of the tree of this size of which a proof for the range r has these nodes. It is none if they are not as many as the cover has parts.
func OfProof(size int, r Part, nodes []api.Node) (of Source, fits bool) {
	at := map[Part]api.Node{}
	for p := range Cover(size, r) {
		if len(nodes) == 0 {
			return nil, false
		}
		at[p] = nodes[0]
		nodes = nodes[1:]
	}
	if len(nodes) > 0 {
		return nil, false
	}
	return func(p Part) (api.Node, bool) {
		n, known := at[p]
		return n, known
	}, true
}

// ofPlaces is the source that knows the node of each place.
func ofPlaces(at func(place int) api.Node) Source {
	return func(p Part) (api.Node, bool) {
		switch p.Size() {
		case 0:
			return wire.Empty(), true
		case 1:
			return at(p.From), true
		}
		return api.Node{}, false
	}
}

func logNode(v int) api.Node {
	text := wire.AppendNumber([]byte("L"), v)
	return api.Node{Fold: one(v), Hash: digest.Of(string(text))}
}

func keyNode(key int, v int) api.Node {
	text := wire.AppendNumber(wire.AppendNumber([]byte("T"), key), v)
	return api.Node{Fold: one(v), Hash: digest.Of(string(text))}
}
