// Package concord plays transactions: see DOC.md.
package concord

import (
	"concord/api"
	"concord/player"
)

// Run answers a script, step by step.
func Run(script []api.Op) []api.Answer {
	p := player.New()
	answers := make([]api.Answer, 0, len(script))
	for _, op := range script {
		answers = append(answers, p.Play(op))
	}
	return answers
}
