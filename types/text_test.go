package types_test

import (
	"math/big"
	"math/rand/v2"
	"slices"
	"strings"
	"testing"

	"trestle/api"
	"trestle/types"
)

// C6: texts of all Kinds.
func TestText(t *testing.T) {
	g := append(copyOf(ends), api.Graph{
		7:  {Kind: 3, Low: -1000000000, High: 1000000000},
		8:  {Kind: 9, Parts: []api.Part{{Type: 8}}},
		9:  {Kind: 9, Branded: true, Parts: []api.Part{{Type: 0}}},
		10: {Kind: 11, Branded: true, Brand: "a b-\\", Parts: []api.Part{{Type: 7}}},
		11: {Kind: 10, Parts: []api.Part{{Name: "x", Type: 1}, {Name: "END", Type: 1}, {Name: "a1", Type: 11}}},
		12: {Kind: 12, Super: 5},
		13: full(),
		14: {Kind: 13, Opaque: "I.T", Super: 2},
		15: {Kind: 13, Opaque: "I.U", Super: 16},
		16: {Kind: 12, Super: 14, Methods: []api.Method{{Name: "m", Sig: api.Sig{Args: []int{15}, Result: -1, Raises: []string{"ALERTED"}}}, {Name: "k", Sig: api.Sig{Result: 16}, Proc: "M.k"}}},
	}[7:]...)
	for a, want := range []string{
		"1\n", "2\n", "4\n", "5\n", "6\n", "7\n", "8\n",
		"3 -1000000000 1000000000\n",
		"9 - :0\n",
		"9 \"\" :1\n1\n",
		"11 \"a b-\\\" :1\n3 -1000000000 1000000000\n",
		"10 - x:1 END:1 a1:0\n2\n",
		"12 - 1\n7\n",
		"12 \"b\" 1 f:2 g:3 m(2,3)4!A.E,I.E=M.p n()- o=M.q p=M.q\n6\n1\n2\n4\n",
		"13 I.T 1\n4\n",
		"13 I.U 1\n12 - 2 m(0)-!ALERTED k()1=M.k\n13 I.T 3\n4\n",
		"12 - 1 m(2)-!ALERTED k()0=M.k\n13 I.T 3\n13 I.U 0\n4\n",
	} {
		if s := mustText(t, g, a); s != want {
			t.Errorf("Text of %d: %q; want %q", a, s, want)
		}
	}
}

// C6, P3.5: texts held against the definition; they are equal exactly if types are the same, in one graph and in two; prints are digests of texts.
func TestTextByDefinition(t *testing.T) {
	graphs(15, 1000, func(r *rand.Rand, g api.Graph) {
		far := measured(g)
		texts := make([]string, len(g))
		for a := range g {
			texts[a] = mustText(t, g, a)
			if want := textByDefinition(g, a); texts[a] != want {
				t.Fatalf("Text of %d of %+v: %q; want %q", a, g, texts[a], want)
			}
			if p, e := types.Print(g, a); p != types.Digest(texts[a]) || e != api.OK {
				t.Fatalf("Print of %d of %+v: %s, %v", a, g, p, e)
			}
			for b := range a {
				if (texts[a] == texts[b]) != (far[a][b] < 0) {
					t.Fatalf("the texts of %d and %d of %+v", a, b, g)
				}
			}
		}
		h, _ := unfolded(r, g, 2)
		j, _ := types.Join(g, h)
		for range 20 {
			a, b := r.IntN(len(g)), r.IntN(len(h))
			if mustEqual(t, j, a, len(g)+b) != (texts[a] == mustText(t, h, b)) {
				t.Fatalf("the texts of %d of %+v, and of %d of %+v", a, g, b, h)
			}
		}
	})
}

// C6: digests of any texts, held against numbers without a bound.
func TestDigest(t *testing.T) {
	r := random(16)
	factor, modulus := big.NewInt(257), big.NewInt(9007199254740881)
	for n := range 300 {
		bytes := make([]byte, n)
		h := big.NewInt(5381)
		for i := range bytes {
			bytes[i] = byte(r.IntN(256))
			h.Mul(h, factor).Add(h, big.NewInt(int64(bytes[i]))).Mod(h, modulus)
		}
		digits := strings.ToUpper(h.Text(36))
		want := "T" + ("000000000000" + digits)[len(digits):]
		if got := types.Digest(string(bytes)); got != want || len(got) != 13 {
			t.Errorf("Digest of %q: %s; want %s", bytes, got, want)
		}
	}
	for s, want := range map[string]string{"": "T00000000045H", "\x00": "T00000000TN2D", "1\n": "T0000005VLXKW", strings.Repeat("\xff", 20): "T00V7B4GFPUWV"} {
		if got := types.Digest(s); got != want {
			t.Errorf("Digest of %q: %s; want %s", s, got, want)
		}
	}
}

// C6, P3.5: what is read of a text has this text.
func TestReadOfText(t *testing.T) {
	graphs(17, 2000, func(r *rand.Rand, g api.Graph) {
		s := mustText(t, g, r.IntN(len(g)))
		back, e := types.Read(s)
		if e != api.OK || mustText(t, back, 0) != s {
			t.Fatalf("Read of %q: %+v, %v", s, back, e)
		}
		if want, ok := readByDefinition(s); !ok || !types.Same(back, want) {
			t.Fatalf("Read of %q: %+v; want %+v", s, back, want)
		}
	})
}

// C6, P3.5: texts that differ from that of a type in a few bytes, or in the order of lines.
func TestReadAny(t *testing.T) {
	read := 0
	held := func(s string) {
		t.Helper()
		g, e := types.Read(s)
		want, ok := readByDefinition(s)
		if ok && (e != api.OK || !types.Same(g, want)) || !ok && (e != api.ErrForm || len(g) != 0) {
			t.Fatalf("Read of %q: %+v, %v; want %+v, %v", s, g, e, want, ok)
		}
		if ok {
			read++
			if mustText(t, g, 0) != s {
				t.Fatalf("Text of Read of %q: %q", s, mustText(t, g, 0))
			}
		}
	}
	graphs(18, 60, func(r *rand.Rand, g api.Graph) {
		s := mustText(t, g, r.IntN(len(g)))
		if len(s) > 200 {
			return
		}
		for i := range len(s) + 1 {
			for _, c := range []byte("0123 -:\n\"=(),!aM.\x00") {
				held(s[:i] + string(c) + s[i:])
				if i < len(s) {
					held(s[:i] + string(c) + s[i+1:])
				}
			}
			if i < len(s) {
				held(s[:i] + s[i+1:])
				held(s[:i])
				held(s[i:])
			}
		}
	})
	graphs(19, 1500, func(r *rand.Rand, g api.Graph) {
		lines := slices.Collect(strings.Lines(mustText(t, g, r.IntN(len(g)))))
		i, j := r.IntN(len(lines)), r.IntN(len(lines))
		lines[i], lines[j] = lines[j], lines[i]
		held(strings.Join(lines, ""))
		held(strings.Join(append(lines, lines[i]), ""))
		held(strings.Join(slices.Delete(lines, i, i+1), ""))
	})
	if read < 1000 {
		t.Errorf("only %d texts were read", read)
	}
}

// C6: texts of no type.
func TestReadFaults(t *testing.T) {
	for _, s := range []string{
		"", "\n", "1", "1 ", "1 \n", " 1\n", "1\r\n", "01\n", "+1\n", "1\n\n", "0\n", "14\n", "257\n", "-1\n", "x\n", "99999999999999999999\n",
		"1\n1\n", "2\n1\n",
		"3\n", "3 1\n", "3 1 2 3\n", "3  1 2\n", "3 01 2\n", "3 1 02\n", "3 -0 2\n", "3 1 +2\n", "3 2 1\n", "3 0 1000000001\n", "3 -1000000001 0\n", "3 0 9223372036854775808\n", "3 a 2\n", "3 1_0 20\n", "3 0x1 2\n",
		"9 - :1\n", "9 -\n", "9 :0\n", "9 - a:0\n", "9 - :0 :0\n", "9 - :00\n", "9 - :\n", "9 - 0\n", "9 \"b :0\n", "9 b :0\n", "9 \"b\":0\n", "9 \"b\"  :0\n", "9 \"b\"\" :0\n", "9 \"b\n\" :0\n", "9 \"\x1f\" :0\n", "9 \"\x7f\" :0\n", "9 \"twentyone bytes of it\" :0\n",
		"10 -\n", "10 - :0\n", "10 - a:0 a:0\n", "10 - a:1\n1\n2\n", "10 - a:2 b:1\n1\n2\n", "10 - a:1 b:2\n1\n1\n", "10 - a:1 b:2\n10 - a:0 b:2\n1\n", "10 - thirteenBytes:0\n", "10 - 1a:0\n", "10 - a:-1\n", "10 - a: 0\n", "10 - a:0 \n", "10 - a:0  b:0\n",
		"10 - a:0 b:0 c:0 d:0 e:0 f:0 g:0 h:0 i:0\n",
		"12 -\n", "12 - 0\n", "12 - 1\n1\n", "12 - 1\n4\n", "12 - 1\n12 - 0\n", "12 1\n6\n", "12 - -\n6\n",
		"12 - 1 a=M.p b:1\n6\n", "12 - 1 a=M.p m()-\n6\n", "12 - 1 m()- a:1\n6\n", "12 - 1 a=M\n6\n", "12 - 1 a=\n6\n", "12 - 1 a=M.p=M.p\n6\n",
		"12 - 1 m()\n6\n", "12 - 1 m(-\n6\n", "12 - 1 m(-)-\n6\n", "12 - 1 m(,)-\n6\n", "12 - 1 m(1,)-\n6\n", "12 - 1 m(1 1)-\n6\n", "12 - 1 m()-1\n6\n", "12 - 1 m()--\n6\n", "12 - 1 m() -\n6\n", "12 - 1 m()-!\n6\n", "12 - 1 m()-!A.E,\n6\n", "12 - 1 m()-!A.F,A.E\n6\n", "12 - 1 m()-!A.E,A.E\n6\n", "12 - 1 m()-!A.E!A.F\n6\n", "12 - 1 m()-=\n6\n", "12 - 1 m()-=M\n6\n", "12 - 1 m()-=M.p!A.E\n6\n", "12 - 1 m(1,1,1,1,1,1,1)-\n6\n", "12 - 1 m(0)-(0)-\n6\n", "12 - 1 m()- m()-\n6\n", "12 - 1 a=M.p a=M.q\n6\n",
		"13 I.T\n", "13 1\n4\n", "13 I.T 0\n", "13 T 1\n4\n", "13 I.T 1\n1\n", "13 - I.T 1\n4\n", "13 I.T 1 2\n4\n", "13 I.T 1\n4", "13 I..T 1\n4\n", "13 I.T.U 1\n4\n",
	} {
		if g, e := types.Read(s); len(g) != 0 || e != api.ErrForm {
			t.Errorf("Read of %q: %+v, %v", s, g, e)
		}
		if _, ok := readByDefinition(s); ok {
			t.Errorf("%q is a text", s)
		}
	}
}

// tower returns a graph whose type 0 has a text of some bytes, from 99000 up to 105000.
func tower(size int) api.Graph {
	proc := func(spare int) string { return "U." + strings.Repeat("p", 1+min(max(spare, 0), 11)) }
	const storeys = 100
	g := make(api.Graph, storeys+1)
	g[storeys].Kind = api.KdRoot
	for i := range storeys {
		g[i] = api.Ty{Kind: api.KdObject, Super: i + 1}
		for _, name := range strings.Fields("a b c d e f g h") {
			raises := []string{"I.a", "I.b", "twelveLetter.a", "twelveLetter.b", "twelveLetter.c", "twelveLetter.d"}
			g[i].Methods = append(g[i].Methods, api.Method{Name: "twelveLett" + name, Sig: api.Sig{Args: []int{i, i}, Result: i, Raises: raises}, Proc: "U.p"})
			g[i].Overs = append(g[i].Overs, api.Over{Name: "twelveLett" + name, Proc: "U.p"})
		}
	}
	length := func() int { return len(textOfTower(g)) }
	spare := size - length()
	for i := range storeys {
		for k := range g[i].Methods {
			p := proc(spare)
			spare -= len(p) - 3
			g[i].Methods[k].Proc = p
			p = proc(spare)
			spare -= len(p) - 3
			g[i].Overs[k].Proc = p
		}
	}
	return g
}

// textOfTower writes a graph whose types all have the numbers of their indices.
func textOfTower(g api.Graph) string {
	s := ""
	for _, t := range g {
		s += lineByDefinition(t, func(i int) int { return i })
	}
	return s
}

// C6: texts as long as may be, and longer.
func TestLongTexts(t *testing.T) {
	for size, want := range map[int]api.Errno{99999: api.OK, 100000: api.OK, 100001: api.ErrLimit} {
		g := tower(size)
		s := mustText(t, g, 0)
		if len(s) != size || s != textOfTower(g) {
			t.Fatalf("a text of %d bytes, and not of %d", len(s), size)
		}
		back, e := types.Read(s)
		if e != want || e == api.OK && !types.Same(back, g) {
			t.Errorf("Read of %d bytes: %d types, %v", size, len(back), e)
		}
	}
	for s, want := range map[string]api.Errno{
		strings.Repeat("1", 100000): api.ErrForm, strings.Repeat("1", 100001): api.ErrLimit,
		strings.Repeat("1\n", 50000): api.ErrForm, strings.Repeat("1\n", 50001): api.ErrLimit,
	} {
		if g, e := types.Read(s); len(g) != 0 || e != want {
			t.Errorf("Read of %d bytes of no text: %v", len(s), e)
		}
	}
}

// C6: texts of 400 types, and of 401.
func TestManyLines(t *testing.T) {
	g := make(api.Graph, 400)
	for i := range g {
		g[i] = refTo(i + 1)
	}
	g[399] = api.Ty{Kind: api.KdInteger}
	s := mustText(t, g, 0)
	if back, e := types.Read(s); !types.Same(back, g) || e != api.OK {
		t.Errorf("Read of 400 lines: %d types, %v", len(back), e)
	}
	s = strings.TrimSuffix(s, "1\n") + "9 - :400\n1\n"
	if back, e := types.Read(s); len(back) != 0 || e != api.ErrForm {
		t.Errorf("Read of 401 lines: %d types, %v", len(back), e)
	}
}
