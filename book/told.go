package book

import (
	"slices"
	"strings"

	"errata/api"
	"errata/kinds"
)

// told is what an error's Error tells, copied, or what it gives up with.
func told(err error) (text string, p api.Panic) {
	defer func() {
		if bad := recover(); bad != nil {
			p = panicOf(bad)
		}
	}()
	return strings.Clone(err.Error()), api.Panic{}
}

func panicOf(bad any) api.Panic {
	if note, ok := bad.(kinds.Note); ok {
		return api.Panic{Sort: api.OwnPanic, Word: strings.Clone(string(note))}
	}
	return api.Panic{Sort: api.RuntimePanic}
}

// copied is a spec that shares no memory with the one that is given, so that none is shared with who hands it in or is handed it.
func copied(s api.Spec) api.Spec {
	s.Text = strings.Clone(s.Text)
	s.Parts = slices.Clone(s.Parts)
	s.Items = slices.Clone(s.Items)
	for i, item := range s.Items {
		s.Items[i] = strings.Clone(item)
	}
	return s
}
