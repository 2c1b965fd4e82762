package group

import (
	"linchpin/api"
	"linchpin/object"
)

// source is what counts of an object for the forms of its sections, and where it is among the objects.
type source struct {
	index int
	secs  []api.Section
	rels  []api.Rel
	bySec map[int][]api.Rel
	forms map[int]string
}

// form returns the form of a section. Each one is computed once, from the relocations of this section only: copies may be compared many times, and an object may have many sections in groups.
func (s *source) form(sec int) string {
	if form, ok := s.forms[sec]; ok {
		return form
	}
	if s.forms == nil {
		s.forms, s.bySec = map[int]string{}, map[int][]api.Rel{}
		for _, r := range s.rels {
			s.bySec[r.Sec] = append(s.bySec[r.Sec], r)
		}
	}
	form := object.Form(api.Object{Secs: s.secs, Rels: s.bySec[sec]}, sec)
	s.forms[sec] = form
	return form
}
