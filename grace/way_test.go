package grace

import (
	"slices"
	"strings"
	"testing"

	"quiescent/api"
	"quiescent/walk"
)

// scenes of a few threads, so that all ways can be gone through.
func scenes() [][]string {
	return [][]string{
		{"enter read again leave gone", "put wait free gone"},
		{"enter read again leave gone", "late wait free gone"},
		{"enter read leave rest enter read leave rest gone", "put wait free gone"},
		{"enter enter read leave again leave rest enter read leave gone", "put wait free gone"},
		{"enter enter read leave leave enter enter read leave leave gone", "put wait free put wait free gone"},
		{"fill enter read fill leave gone", "fill put wait free gone"},
		{"enter read leave wait enter read leave gone", "put wait free gone"},
		{"wait enter read leave gone", "put wait free gone"},
		{"rest gone wait", "enter read leave put wait free gone"},
		{"enter read leave put wait free gone", "enter read leave put wait free gone"},
		{"enter peek leave gone", "enter leave gone", "swap wait free gone"},
		{"enter peek leave gone", "swap wait free gone", "wait gone"},
		{"enter peek leave gone", "rest gone", "swap wait free gone"},
	}
}

// P73: in no way is anything freed that a section has found; all threads may come to their end.
func TestSafeInAllWays(t *testing.T) {
	for _, words := range scenes() {
		for _, f := range flavours() {
			told, err := walk.All(world(t, f, len(words)), plays(t, f, words...), api.MaxStates)
			if told.Fault || told.Ends == 0 || err != nil {
				t.Error(f, words, told, err)
			}
		}
	}
}

// without a wait, where a section is: so that the scenes would tell.
func TestFaultWithoutWait(t *testing.T) {
	for _, words := range scenes() {
		var none []string
		for _, w := range words {
			none = append(none, strings.Join(slices.DeleteFunc(strings.Fields(w), func(word string) bool { return word == "wait" }), " "))
		}
		for _, f := range flavours() {
			told, err := walk.All(world(t, f, len(words)), plays(t, f, none...), api.MaxStates)
			if strings.HasPrefix(words[0], "rest") { // it reads ahead of what it takes away, and nobody else does
				continue
			}
			if !told.Fault || err != nil {
				t.Error(f, none, told, err)
			}
		}
	}
}
