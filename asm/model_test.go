package asm

import (
	"fmt"
	"math/big"
	"reflect"
	"regexp"
	"strconv"
	"strings"

	"bellows/api"
	"bellows/code"
)

// wordsAsTold are the instructions' words, as chapter 14 has them, from 1 on.
var wordsAsTold = strings.Fields("const text move prim new field store array at put len byte cat cmp in out call jump if switch tail return raise")

// usesAsTold is what each of them uses, as chapter 4 has it.
var usesAsTold = strings.Fields("DN DAl DA DABN DALl DAB ABC DABCl DAB ABC DA DAB DABl DAB D A DABCLl A ABC ALMB AL A A")

// fieldsAsTold are the names of what an instruction uses.
func fieldsAsTold(op int) []string {
	var l []string
	for _, letter := range usesAsTold[op-1] {
		l = append(l, strings.Replace(string(letter), "l", "Live", 1))
	}
	return l
}

// textAsTold is an image's text by the chapter's words.
func textAsTold(m api.Image) string {
	var b strings.Builder
	lay := func(word string, of any, fields ...string) {
		b.WriteString(word)
		for _, f := range fields {
			b.WriteString(" " + partAsTold(reflect.ValueOf(of).FieldByName(f).Interface()))
		}
		b.WriteString("\n")
	}
	for _, x := range m.Types {
		lay("type", x, "Imm", "Shapes")
	}
	for _, x := range m.Shapes {
		lay("shape", x, "Kind", "Fields", "Name")
	}
	for _, x := range m.Strings {
		lay("string", api.Token{Text: x}, "Text")
	}
	for _, x := range m.Names {
		lay("name", api.Token{Text: x}, "Text")
	}
	for _, f := range m.Funcs {
		lay("func", f, "Params", "Result", "Slots")
		for _, x := range f.Blocks {
			lay("block", x, "In")
			for _, y := range x.Code {
				lay(wordsAsTold[y.Op-1], y, fieldsAsTold(y.Op)...)
			}
		}
	}
	lay("main", m, "Main")
	lay("exn", m, "Exn")
	return b.String()
}

func partAsTold(v any) string {
	switch x := v.(type) {
	case bool:
		return map[bool]string{true: "1", false: "0"}[x]
	case string:
		return quotedAsTold(x)
	case []int:
		return "(" + strings.Trim(fmt.Sprint(x), "[]") + ")"
	}
	return fmt.Sprint(v)
}

func quotedAsTold(s string) string {
	out := `"`
	for _, c := range []byte(s) {
		switch {
		case c == '\n':
			out += `\n`
		case c == '\t':
			out += `\t`
		case c == '\\', c == '"':
			out += `\` + string(rune(c))
		case c < 32 || c >= 127:
			out += fmt.Sprintf(`\%03d`, c)
		default:
			out += string(rune(c))
		}
	}
	return out + `"`
}

// linesAsTold tells for each kind of line, by a letter, what one is.
var linesAsTold = func() map[byte]*regexp.Regexp {
	of := func(parts ...string) *regexp.Regexp {
		told := strings.NewReplacer(
			"N", `(?:0|-?[1-9][0-9]*)`,
			"L", `\((?:(?:0|-?[1-9][0-9]*)(?: (?:0|-?[1-9][0-9]*))*)?\)`,
			"T", `"(?:[ !#-\[\]-~]|\\n|\\t|\\\\|\\"|\\00[0-8]|\\01[1-9]|\\02[0-9]|\\03[01]|\\12[7-9]|\\1[3-9][0-9]|\\2[0-4][0-9]|\\25[0-5])*"`,
		)
		return regexp.MustCompile(`\A(?:` + told.Replace(strings.Join(parts, "|")) + `)\n\z`)
	}
	var instrs []string
	for i, uses := range usesAsTold {
		x := wordsAsTold[i]
		for _, letter := range uses {
			x += map[bool]string{true: " L", false: " N"}[strings.ContainsRune("LMl", letter)]
		}
		instrs = append(instrs, x)
	}
	return map[byte]*regexp.Regexp{
		't': of("type [01] L"), 's': of("shape N L T"), 'g': of("string T"), 'n': of("name T"),
		'f': of("func L N N"), 'b': of("block L"), 'i': of(instrs...), 'm': of("main N"), 'e': of("exn N"),
	}
}()

var (
	// orderAsTold has the beginnings of all orders of lines that there may be.
	orderAsTold = regexp.MustCompile(`\At*s*g*n*(f(bi*)*)*(me?)?\z`)
	// aText is one in a line: the rest of it.
	aText  = regexp.MustCompile(`".*"\n`)
	digits = regexp.MustCompile(`-?[0-9]+`)
	parts  = regexp.MustCompile(`\([^)]*\)|".*"|[^ \n]+`)
	meant  = regexp.MustCompile(`\\(?:[0-9]{3}|.)`)
)

// kindAsTold is the letter of a line, 0 of one that is none.
func kindAsTold(line string) byte {
	for k, r := range linesAsTold {
		if !r.MatchString(line) {
			continue
		}
		for _, d := range digits.FindAllString(aText.ReplaceAllString(line, ""), -1) {
			if n, ok := new(big.Int).SetString(d, 10); !ok || !n.IsInt64() {
				return 0
			}
		}
		return k
	}
	return 0
}

// readAsTold is what Read answers, by the chapter's words.
func readAsTold(text string) (api.Image, api.Errno, int) {
	if len(text) > 1048576 {
		return api.Image{}, api.ErrBig, 0
	}
	lines := strings.SplitAfter(text, "\n")
	if lines[len(lines)-1] == "" {
		lines = lines[:len(lines)-1]
	}
	kinds := ""
	for i, line := range lines {
		kinds += string(rune(kindAsTold(line)))
		if !orderAsTold.MatchString(kinds) {
			return api.Image{}, api.ErrCode, i + 1
		}
	}
	if !strings.HasSuffix(kinds, "e") {
		return api.Image{}, api.ErrCode, len(lines) + 1
	}
	m := imageAsTold(kinds, lines)
	if code.Check(m) != api.OK {
		return api.Image{}, api.ErrCode, 0
	}
	return m, api.OK, 0
}

// imageAsTold is the image of lines that are right.
func imageAsTold(kinds string, lines []string) api.Image {
	var m api.Image
	for i, line := range lines {
		l := parts.FindAllString(line, -1)
		switch kinds[i] {
		case 't':
			m.Types = append(m.Types, madeAsTold[api.Type](l[1:], "Imm", "Shapes"))
		case 's':
			m.Shapes = append(m.Shapes, madeAsTold[api.Shape](l[1:], "Kind", "Fields", "Name"))
		case 'g':
			m.Strings = append(m.Strings, madeAsTold[api.Token](l[1:], "Text").Text)
		case 'n':
			m.Names = append(m.Names, madeAsTold[api.Token](l[1:], "Text").Text)
		case 'f':
			m.Funcs = append(m.Funcs, madeAsTold[api.Func](l[1:], "Params", "Result", "Slots"))
		case 'b':
			f := &m.Funcs[len(m.Funcs)-1]
			f.Blocks = append(f.Blocks, madeAsTold[api.Block](l[1:], "In"))
		case 'i':
			f := &m.Funcs[len(m.Funcs)-1]
			b := &f.Blocks[len(f.Blocks)-1]
			for i, word := range wordsAsTold {
				if word == l[0] {
					x := madeAsTold[api.Instr](l[1:], fieldsAsTold(i+1)...)
					x.Op = i + 1
					b.Code = append(b.Code, x)
				}
			}
		case 'm':
			m.Main = madeAsTold[api.Image](l[1:], "Main").Main
		case 'e':
			m.Exn = madeAsTold[api.Image](l[1:], "Exn").Exn
		}
	}
	return m
}

// madeAsTold is a thing of which some parts are these fields.
func madeAsTold[E any](l []string, fields ...string) E {
	var e E
	for i, name := range fields {
		v := reflect.ValueOf(&e).Elem().FieldByName(name)
		switch v.Kind() {
		case reflect.Bool:
			v.SetBool(l[i] == "1")
		case reflect.String:
			v.SetString(meant.ReplaceAllStringFunc(l[i][1:len(l[i])-1], meantAsTold))
		case reflect.Slice:
			for _, d := range digits.FindAllString(l[i], -1) {
				n, _ := strconv.Atoi(d)
				v.Set(reflect.Append(v, reflect.ValueOf(n)))
			}
		default:
			n, _ := strconv.Atoi(l[i])
			v.SetInt(int64(n))
		}
	}
	return e
}

// meantAsTold is what stands for a backslash and what is behind it.
func meantAsTold(written string) string {
	switch written[1:] {
	case "n":
		return "\n"
	case "t":
		return "\t"
	}
	if n, err := strconv.Atoi(written[1:]); err == nil {
		return string([]byte{byte(n)})
	}
	return written[1:]
}
