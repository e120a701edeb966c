package blorb

import (
	"slices"

	"grotto/api"
	"grotto/iff"
	"grotto/word"
)

// The letters that containers and games are known by.
const (
	formMagic     = "FORM"
	gameMagic     = "Glul"
	containerKind = "IFRS"
	indexId       = "RIdx"
	gameUsage     = "Exec"
	gameId        = "GLUL"
	gameNumber    = 0
)

// Where the parts of a container and of its index stand.
const (
	idBytes     = 4
	numberBytes = 4
	kindPlace   = 8
	indexPlace  = 12
	indexData   = indexPlace + idBytes + numberBytes
	entryNumber = idBytes
	entryPlace  = entryNumber + numberBytes
	entryBytes  = entryPlace + numberBytes
)

// name is what one resource alone has in a container.
type name struct {
	usage  string
	number uint32
}

// content is what was seen of a container: its chunks, its resources' names in the order of the index, and the number of each one's chunk.
type content struct {
	chunks  []api.Chunk
	names   []name
	chunkOf map[name]int
}

// open: what is in a container; or its first fault, and that one's place.
func open(b []byte) (c content, e api.Errno, at int) {
	kind, chunks, e, at := iff.Parse(b)
	if e != api.OK {
		return content{}, e, at
	}
	if kind != containerKind {
		return content{}, api.ErrKind, kindPlace
	}
	if e = checkIndex(chunks...); e != api.OK {
		return content{}, e, indexPlace
	}
	return readEntries(chunks...)
}

// checkIndex: the first fault of the index as a whole.
func checkIndex(chunks ...api.Chunk) api.Errno {
	if len(chunks) == 0 || chunks[0].Id != indexId {
		return api.ErrIndex
	}
	data := chunks[0].Data
	if len(data) < numberBytes {
		return api.ErrIndex
	}
	n := numberAt(data, 0)
	// In 64 bits, for the product of a number that is not right could wrap round to the length.
	if uint64(len(data)) != numberBytes+entryBytes*uint64(n) {
		return api.ErrIndex
	}
	if n > api.MaxResources {
		return api.ErrMany
	}
	return api.OK
}

// readEntries: what the index says of these chunks, the first of which it is; or its entries' first fault, and that one's place.
func readEntries(chunks ...api.Chunk) (c content, e api.Errno, at int) {
	c = content{chunks: chunks, chunkOf: map[name]int{}}
	places := iff.Places(chunks...)
	index := chunks[0].Data
	for p := numberBytes; p < len(index); p += entryBytes {
		n := name{usage: string(index[p : p+idBytes]), number: numberAt(index, p+entryNumber)}
		if !iff.Id(n.usage) {
			return content{}, api.ErrIndex, indexData + p
		}
		if _, there := c.chunkOf[n]; there {
			return content{}, api.ErrThere, indexData + p
		}
		i, ok := chunkAt(places, numberAt(index, p+entryPlace))
		if !ok {
			return content{}, api.ErrIndex, indexData + p + entryPlace
		}
		c.names = append(c.names, n)
		c.chunkOf[n] = i
	}
	return c, api.OK, 0
}

// chunkAt: the number of the chunk that begins at p, if one does that is not the index.
func chunkAt(places []int, p uint32) (int, bool) {
	i, ok := slices.BinarySearch(places, int(p))
	if !ok || i == 0 {
		return 0, false
	}
	return i, true
}

// gameWithin: the game in a container.
func gameWithin(b []byte) (game []byte, e api.Errno, at int) {
	c, e, at := open(b)
	if e != api.OK {
		return nil, e, at
	}
	i, ok := c.chunkOf[name{usage: gameUsage, number: gameNumber}]
	if !ok || c.chunks[i].Id != gameId {
		return nil, api.ErrExec, indexPlace
	}
	return c.chunks[i].Data, api.OK, len(b)
}

// checkResources: the first fault of resources that are to be laid, but for their length.
func checkResources(l ...api.Resource) api.Errno {
	for _, r := range l {
		if !iff.Id(r.Usage) || !iff.Id(r.Id) {
			return api.ErrArg
		}
	}
	if len(l) > api.MaxResources {
		return api.ErrMany
	}
	seen := map[name]struct{}{}
	for _, r := range l {
		n := name{usage: r.Usage, number: r.Number}
		if _, there := seen[n]; there {
			return api.ErrThere
		}
		seen[n] = struct{}{}
	}
	return api.OK
}

// indexBytes: how long an index of n entries is.
func indexBytes(n int) int {
	return numberBytes + n*entryBytes
}

// layIndex: the index of resources whose chunks begin at these places.
func layIndex(l []api.Resource, places []int) []byte {
	b := make([]byte, 0, indexBytes(len(l)))
	b = append(b, word.Put(uint32(len(l)), numberBytes)...)
	for i, r := range l {
		b = append(b, r.Usage...)
		b = append(b, word.Put(r.Number, numberBytes)...)
		b = append(b, word.Put(uint32(places[i]), numberBytes)...)
	}
	return b
}

// numberAt: the number at p; its bytes must be there.
func numberAt(b []byte, p int) uint32 {
	n, _ := word.Be(b, p, numberBytes)
	return n
}
