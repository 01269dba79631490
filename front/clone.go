package front

import (
	"bytes"
	"slices"
	"strings"

	"cicerone/api"
)

// cloneQuestion, cloneMessage and cloneRecords are the same things as new memory.
func cloneQuestion(q api.Question) api.Question {
	q.Name = strings.Clone(q.Name)
	return q
}

func cloneMessage(m api.Message) api.Message {
	m.Questions = slices.Clone(m.Questions)
	for i, q := range m.Questions {
		m.Questions[i] = cloneQuestion(q)
	}
	m.Answers = cloneRecords(m.Answers)
	m.Authority = cloneRecords(m.Authority)
	m.Additional = cloneRecords(m.Additional)
	return m
}

func cloneRecords(l []api.RR) []api.RR {
	l = slices.Clone(l)
	for i, r := range l {
		l[i].Name, l[i].Data = strings.Clone(r.Name), bytes.Clone(r.Data)
	}
	return l
}
