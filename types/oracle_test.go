package types_test

import (
	"fmt"
	"regexp"
	"slices"
	"strconv"
	"strings"

	"trestle/api"
)

// The chapter once more, as tables and patterns: what the package finds is held against them.
const (
	nameRow   = `[A-Za-z][A-Za-z0-9]{0,11}`
	symbolRow = nameRow + `\.` + nameRow
	brandRow  = `(-|"[ !#-~]{0,20}")`
	numberRow = `(-?[0-9]+)`
	sigRow    = `\([0-9,]*\)(-|[0-9]+)(![A-Za-z0-9.,]+)?(=` + symbolRow + `)?`
)

var (
	isName   = regexp.MustCompile(`^` + nameRow + `$`)
	isSymbol = regexp.MustCompile(`^` + symbolRow + `$`)
	isBrand  = regexp.MustCompile(`^` + brandRow + `$`)
	partItem = regexp.MustCompile(` (` + nameRow + `|):([0-9]+)`)
	methItem = regexp.MustCompile(` (` + nameRow + `)\(([0-9,]*)\)(-|[0-9]+)(?:!([A-Za-z0-9.,]+))?(?:=(` + symbolRow + `))?`)
	overItem = regexp.MustCompile(` (` + nameRow + `)=(` + symbolRow + `)`)
)

// lineRows are the lines of the Kinds.
var lineRows = func() map[uint8]*regexp.Regexp {
	rows := map[uint8]string{
		1: ``, 2: ``, 4: ``, 5: ``, 6: ``, 7: ``, 8: ``,
		3:  ` ` + numberRow + ` ` + numberRow,
		9:  ` ` + brandRow + `( :[0-9]+)`,
		10: ` ` + brandRow + `(( ` + nameRow + `:[0-9]+)+)`,
		11: ` ` + brandRow + `( :[0-9]+)`,
		12: ` ` + brandRow + ` ([0-9]+)((?: ` + nameRow + `:[0-9]+)*)((?: ` + nameRow + sigRow + `)*)((?: ` + nameRow + `=` + symbolRow + `)*)`,
		13: ` (` + symbolRow + `) ([0-9]+)`,
	}
	patterns := map[uint8]*regexp.Regexp{}
	for kind, row := range rows {
		patterns[kind] = regexp.MustCompile(fmt.Sprintf(`^%d%s$`, kind, row))
	}
	return patterns
}()

// has tells for each Kind what its types have: numbers, brand, opaque name, super type, one part, fields (any number, or some), methods and overrides.
var has = map[uint8]string{1: "", 2: "", 3: "N", 4: "", 5: "", 6: "", 7: "", 8: "", 9: "B1", 10: "BF+", 11: "B1", 12: "BSFMO", 13: "QS"}

func has1(kind uint8, what string) bool { return strings.Contains(has[kind], what) }

// isFit tells whether the type with an index is as the table says.
func isFit(g api.Graph, i int) bool {
	t := g[i]
	index := func(n int) bool { return n >= 0 && n < len(g) }
	if _, ok := has[t.Kind]; !ok {
		return false
	}
	if !has1(t.Kind, "N") && (t.Low != 0 || t.High != 0) || t.Low > t.High || t.Low < -1e9 || t.High > 1e9 {
		return false
	}
	if !has1(t.Kind, "B") && t.Branded || !t.Branded && t.Brand != "" || !isBrand.MatchString(`"`+t.Brand+`"`) {
		return false
	}
	if has1(t.Kind, "Q") != (t.Opaque != "") || t.Opaque != "" && !isSymbol.MatchString(t.Opaque) {
		return false
	}
	if has1(t.Kind, "S") {
		if !index(t.Super) || !strings.Contains(map[uint8]string{12: "|12|6|7|8|13|", 13: "|12|6|7|8|13|4|"}[t.Kind], fmt.Sprintf("|%d|", g[t.Super].Kind)) {
			return false
		}
	} else if t.Super != 0 {
		return false
	}
	return partsFit(t, index) && methodsFit(t, index)
}

func partsFit(t api.Ty, index func(int) bool) bool {
	seen := map[string]bool{}
	for _, p := range t.Parts {
		if !index(p.Type) || seen[p.Name] || has1(t.Kind, "1") != (p.Name == "") || p.Name != "" && !isName.MatchString(p.Name) {
			return false
		}
		seen[p.Name] = true
	}
	switch {
	case has1(t.Kind, "1"):
		return len(t.Parts) == 1
	case has1(t.Kind, "+"):
		return len(t.Parts) >= 1 && len(t.Parts) <= 8
	case has1(t.Kind, "F"):
		return len(t.Parts) <= 8
	}
	return len(t.Parts) == 0
}

func methodsFit(t api.Ty, index func(int) bool) bool {
	if !has1(t.Kind, "M") {
		return len(t.Methods) == 0 && len(t.Overs) == 0
	}
	methods, overs := map[string]bool{}, map[string]bool{}
	for _, m := range t.Methods {
		s := m.Sig
		if !isName.MatchString(m.Name) || m.Proc != "" && !isSymbol.MatchString(m.Proc) || len(s.Args) > 6 || len(s.Raises) > 6 || s.Result != -1 && !index(s.Result) {
			return false
		}
		isNoIndex := func(n int) bool { return !index(n) }
		isNoRaise := func(n string) bool { return n != "ALERTED" && !isSymbol.MatchString(n) }
		if slices.ContainsFunc(s.Args, isNoIndex) || slices.ContainsFunc(s.Raises, isNoRaise) || !slices.IsSorted(s.Raises) || len(slices.Compact(slices.Clone(s.Raises))) != len(s.Raises) {
			return false
		}
		methods[m.Name] = true
	}
	for _, o := range t.Overs {
		if !isName.MatchString(o.Name) || !isSymbol.MatchString(o.Proc) {
			return false
		}
		overs[o.Name] = true
	}
	return len(methods) == len(t.Methods) && len(overs) == len(t.Overs) && len(methods) <= 8 && len(overs) <= 8
}

// checkByDefinition returns what Check should.
func checkByDefinition(g api.Graph) (int, api.Errno) {
	if len(g) > 400 {
		return 400, api.ErrGraph
	}
	for i := range g {
		if !isFit(g, i) {
			return i, api.ErrGraph
		}
	}
	for i := range g {
		above := map[int]bool{}
		for at := i; has1(g[at].Kind, "S") && !above[g[at].Super]; {
			at = g[at].Super
			above[at] = true
		}
		if above[i] {
			return i, api.ErrGraph
		}
	}
	return 0, api.OK
}

// refsOf returns the references of a type.
func refsOf(t api.Ty) []int {
	var l []int
	if t.Kind == 12 || t.Kind == 13 {
		l = append(l, t.Super)
	}
	for _, p := range t.Parts {
		l = append(l, p.Type)
	}
	for _, m := range t.Methods {
		l = append(l, m.Sig.Args...)
		if m.Sig.Result >= 0 {
			l = append(l, m.Sig.Result)
		}
	}
	return l
}

// skeleton writes all that is in a type but its indices.
func skeleton(t api.Ty) string {
	s := fmt.Sprintf("%d %d %d %v %q %q", t.Kind, t.Low, t.High, t.Branded, t.Brand, t.Opaque)
	for _, p := range t.Parts {
		s += fmt.Sprintf(" part %q", p.Name)
	}
	for _, m := range t.Methods {
		s += fmt.Sprintf(" method %q %d %v %q %q", m.Name, len(m.Sig.Args), m.Sig.Result >= 0, m.Sig.Raises, m.Proc)
	}
	return s + fmt.Sprintf(" %q", t.Overs)
}

// apartness holds for each pair of types the length of the shortest way that tells them apart, or -1.
type apartness [][]int

// measured finds the ways from the shortest ones on.
func measured(g api.Graph) apartness {
	far := make(apartness, len(g))
	skeletons := make([]string, len(g))
	for i := range g {
		far[i] = slices.Repeat([]int{-1}, len(g))
		skeletons[i] = skeleton(g[i])
	}
	for length := 0; ; length++ {
		more := false
		for i := range g {
			for j := range g {
				if far[i][j] < 0 && (length == 0 && skeletons[i] != skeletons[j] || length > 0 && far.nextAt(g, i, j, length-1) >= 0) {
					far[i][j] = length
					more = true
				}
			}
		}
		if !more && length > 0 {
			return far
		}
	}
}

// nextAt returns the number of the first reference by which a pair leads to one that is so far, or -1.
func (far apartness) nextAt(g api.Graph, i, j, length int) int {
	others := refsOf(g[j])
	for k, r := range refsOf(g[i]) {
		if far[r][others[k]] == length {
			return k
		}
	}
	return -1
}

// way returns the least of the shortest ways.
func (far apartness) way(g api.Graph, i, j int) ([]int, bool) {
	if far[i][j] < 0 {
		return nil, false
	}
	var way []int
	for length := far[i][j] - 1; length >= 0; length-- {
		k := far.nextAt(g, i, j, length)
		way = append(way, k)
		i, j = refsOf(g[i])[k], refsOf(g[j])[k]
	}
	return way, true
}

// classesBy returns the least ones that are the same.
func (far apartness) classes() []int {
	var l []int
	for i := range far {
		l = append(l, slices.Index(far[i], -1))
	}
	return l
}

// textByDefinition returns the text of a type.
func textByDefinition(g api.Graph, a int) string {
	class := measured(g).classes()
	numbers := []int{class[a]}
	text := ""
	for at := 0; at < len(numbers); at++ {
		t := g[numbers[at]]
		for _, r := range refsOf(t) {
			if !slices.Contains(numbers, class[r]) {
				numbers = append(numbers, class[r])
			}
		}
		text += lineByDefinition(t, func(i int) int { return slices.Index(numbers, class[i]) })
	}
	return text
}

func lineByDefinition(t api.Ty, number func(int) int) string {
	s := strconv.Itoa(int(t.Kind))
	if has1(t.Kind, "N") {
		s += fmt.Sprintf(" %d %d", t.Low, t.High)
	}
	if has1(t.Kind, "B") && t.Branded {
		s += ` "` + t.Brand + `"`
	} else if has1(t.Kind, "B") {
		s += " -"
	}
	if has1(t.Kind, "Q") {
		s += " " + t.Opaque
	}
	if has1(t.Kind, "S") {
		s += fmt.Sprintf(" %d", number(t.Super))
	}
	for _, p := range t.Parts {
		s += fmt.Sprintf(" %s:%d", p.Name, number(p.Type))
	}
	for _, m := range t.Methods {
		s += " " + m.Name + sigByDefinition(m.Sig, number)
		if m.Proc != "" {
			s += "=" + m.Proc
		}
	}
	for _, o := range t.Overs {
		s += fmt.Sprintf(" %s=%s", o.Name, o.Proc)
	}
	return s + "\n"
}

func sigByDefinition(sig api.Sig, number func(int) int) string {
	var args []string
	for _, a := range sig.Args {
		args = append(args, strconv.Itoa(number(a)))
	}
	result, raises := "-", ""
	if sig.Result != -1 {
		result = strconv.Itoa(number(sig.Result))
	}
	if len(sig.Raises) > 0 {
		raises = "!" + strings.Join(sig.Raises, ",")
	}
	return "(" + strings.Join(args, ",") + ")" + result + raises
}

// readByDefinition returns what Read should, for a text that is short.
func readByDefinition(s string) (api.Graph, bool) {
	var g api.Graph
	for line := range strings.Lines(s) {
		t, ok := typeOfLine(strings.TrimSuffix(line, "\n"))
		if !ok {
			return nil, false
		}
		g = append(g, t)
	}
	if len(g) == 0 {
		return nil, false
	}
	if _, e := checkByDefinition(g); e != api.OK || textByDefinition(g, 0) != s {
		return nil, false
	}
	return g, true
}

func typeOfLine(line string) (api.Ty, bool) {
	for kind, row := range lineRows {
		found := row.FindStringSubmatch(line)
		if found == nil {
			continue
		}
		t := api.Ty{Kind: kind}
		if has1(kind, "N") {
			t.Low, _ = strconv.Atoi(found[1])
			t.High, _ = strconv.Atoi(found[2])
		}
		if has1(kind, "B") && found[1] != "-" {
			t.Branded, t.Brand = true, strings.Trim(found[1], `"`)
		}
		if has1(kind, "Q") {
			t.Opaque = found[1]
		}
		if has1(kind, "S") {
			t.Super, _ = strconv.Atoi(found[2])
		}
		t.Parts, t.Methods, t.Overs = itemsOfLine(kind, found)
		return t, true
	}
	return api.Ty{}, false
}

func itemsOfLine(kind uint8, found []string) (parts []api.Part, methods []api.Method, overs []api.Over) {
	fields := ""
	if kind == 9 || kind == 10 || kind == 11 {
		fields = found[2]
	} else if kind == 12 {
		fields = found[3]
	}
	for _, p := range partItem.FindAllStringSubmatch(fields, -1) {
		n, _ := strconv.Atoi(p[2])
		parts = append(parts, api.Part{Name: p[1], Type: n})
	}
	if kind != 12 {
		return parts, nil, nil
	}
	for _, m := range methItem.FindAllStringSubmatch(found[4], -1) {
		sig := api.Sig{Result: -1}
		if m[2] != "" {
			for _, a := range strings.Split(m[2], ",") {
				n, _ := strconv.Atoi(a)
				sig.Args = append(sig.Args, n)
			}
		}
		if m[3] != "-" {
			sig.Result, _ = strconv.Atoi(m[3])
		}
		if m[4] != "" {
			sig.Raises = strings.Split(m[4], ",")
		}
		methods = append(methods, api.Method{Name: m[1], Sig: sig, Proc: m[5]})
	}
	for _, o := range overItem.FindAllStringSubmatch(found[len(found)-1], -1) {
		overs = append(overs, api.Over{Name: o[1], Proc: o[2]})
	}
	return parts, methods, overs
}
