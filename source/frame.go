package source

import (
	"strings"

	"frisket/api"
	"frisket/line"
)

// The kinds of frames.
const (
	aFile  = 1
	aMacro = 2
	aWait  = 3
)

const maxName = 100

// frame has lines and arguments that are never changed in their place, so that copies of a stack may share them.
type frame struct {
	kind  int
	name  string // of a file or a macro
	lines []api.Line
	args  []string // of a macro
	taken int      // how many lines were taken
}

// file makes the frame of a file, if the name and the text can be a file's.
func file(name, text string) (f frame, right bool) {
	parts := Lines(text)
	if !validName(name) || len(parts) > api.MaxLines {
		return frame{}, false
	}
	lines := make([]api.Line, len(parts))
	for i, part := range parts {
		lines[i].Text = part
	}
	return frame{kind: aFile, name: name, lines: lines}, line.Valid(lines)
}

func (f frame) isFile() bool {
	return f.kind == aFile
}

func (f frame) isMacro() bool {
	return f.kind == aMacro
}

func (f frame) hasName() bool {
	return f.isFile() || f.isMacro()
}

func (f frame) hasMore() bool {
	return f.taken < len(f.lines)
}

// stays tells whether a frame is still there when something is put on top of it.
func (f frame) stays() bool {
	return f.kind != aWait || f.hasMore()
}

// next is a copy of the next line.
func (f frame) next() api.Line {
	return line.Copy(f.lines[f.taken])
}

func validName(name string) bool {
	return 1 <= len(name) && len(name) <= maxName
}

func validLines(lines []api.Line) bool {
	return len(lines) <= api.MaxLines && line.Valid(lines)
}

// Lines tells the parts of a text between its line feeds; a last part that is empty is none.
func Lines(text string) []string {
	parts := strings.Split(text, "\n")
	last := len(parts) - 1
	if parts[last] == "" {
		return parts[:last]
	}
	return parts
}
