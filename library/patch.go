package library

import (
	"iter"
	"slices"

	"quicksilver/api"
)

// cloned returns a catalogue that shares no memory.
func cloned(cat []api.LiEntry) []api.LiEntry {
	after := make([]api.LiEntry, len(cat))
	copy(after, cat)
	for i := range after {
		c := &after[i].Code
		c.Words, c.Masks, c.Args = slices.Clone(c.Words), slices.Clone(c.Masks), slices.Clone(c.Args)
	}
	return after
}

// change changes a catalogue by a patch, or returns the error of the patch.
func change(cat []api.LiEntry, p api.LiPatch) api.Errno {
	i := indexOf(cat, p.Name, nameOfEntry)
	if i == nowhere || !isPlace(cat[i].Code, p.At) {
		return api.ErrNone
	}
	entry := &cat[i]
	word, mask := &entry.Code.Words[p.At], &entry.Code.Masks[p.At]
	switch {
	case entry.Version != p.Version:
		return api.LiErrVersion
	case *word != p.Old || *mask != p.OldMask:
		return api.LiErrOld
	case !isWord(p.New) || !isMask(p.NewMask) || entry.Version == api.MaxLiVersion:
		return api.ErrRange
	}
	*word, *mask = p.New, p.NewMask
	entry.Version++
	return api.OK
}

// haveOneShape says whether two entries can differ only in what patches change.
func haveOneShape(a, b api.LiEntry) bool {
	return a.Name == b.Name &&
		len(a.Code.Words) == len(b.Code.Words) &&
		a.Code.Entry == b.Code.Entry &&
		a.Code.Exit == b.Code.Exit &&
		a.Code.Result == b.Code.Result &&
		slices.Equal(a.Code.Args, b.Code.Args)
}

// differencesOf returns the patches from one catalogue to another one, whose entries have the same shapes.
func differencesOf(old, new []api.LiEntry) ([]api.LiPatch, api.Errno) {
	var patches []api.LiPatch
	versionsFit := true
	for i, entry := range old {
		version := entry.Version
		for p := range differences(entry, new[i]) {
			patches = append(patches, p)
			version++
		}
		versionsFit = versionsFit && version == new[i].Version
	}
	if len(patches) > api.MaxLiPatches {
		return nil, api.ErrLong
	}
	if !versionsFit {
		return nil, api.LiErrVersion
	}
	return patches, api.OK
}

// differences yields the patches from one entry to another one, which has the same shape.
func differences(old, new api.LiEntry) iter.Seq[api.LiPatch] {
	return func(yield func(api.LiPatch) bool) {
		version := old.Version
		for i, word := range old.Code.Words {
			p := api.LiPatch{
				Name:    old.Name,
				Version: version,
				At:      i,
				Old:     word,
				New:     new.Code.Words[i],
				OldMask: old.Code.Masks[i],
				NewMask: new.Code.Masks[i],
			}
			if p.Old == p.New && p.OldMask == p.NewMask {
				continue
			}
			if !yield(p) {
				return
			}
			version++
		}
	}
}
