package compile

import (
	"fmt"
	"math/rand"
	"strings"
	"testing"

	"faas/api"
	"faas/syntax"
)

// writer writes random programs, without regard to the kinds of their values. Most of them pass the static checks.
type writer struct {
	*rand.Rand
	operators int      // of ten expressions
	visible   []string // variables
	fresh     int      // names so far
}

func (w *writer) any(l ...string) string { return l[w.Intn(len(l))] }

func (w *writer) expr(deep int) string {
	choice := w.Intn(10)
	if deep == 0 || choice == 9 {
		return w.leaf()
	}
	a, b := w.expr(deep-1), w.expr(deep-1)
	if choice < w.operators {
		if choice == 0 {
			return w.any("(-", "(not ") + a + ")"
		}
		return "(" + a + w.any(" and ", " or ", "+", "-", "*", "/", "%", "==", "!=", "<", "<=", ">", ">=") + b + ")"
	}
	switch w.Intn(7) {
	case 0:
		return w.any("[]", "["+a+"]", "["+a+", "+b+"]")
	case 1:
		return w.any("{}", `{"a": `+a+"}", `{"": `+a+`, "or": `+b+"}")
	case 2:
		return "(" + a + ")[" + b + "]"
	case 3:
		return w.any("f0", "f1", "f2", "push", "has") + "(" + a + ", " + b + ")"
	case 4:
		return w.any("len", "str", "fail", "main") + "(" + a + ")"
	case 5:
		return w.any("@get(", "@secret(", "@now(") + a + ")"
	}
	return "@put(" + a + ", " + b + ")"
}

func (w *writer) leaf() string {
	if w.Intn(10) < w.operators {
		return w.any("null", "true", "false", "0", "1", "2", "7", "1000000000000", `""`, `"a"`, `"and"`)
	}
	if w.Intn(200) == 0 {
		return "unknown"
	}
	return w.any(w.visible...)
}

func (w *writer) block(deep int) string {
	before := len(w.visible)
	var l []string
	for range w.Intn(3 + deep) {
		l = append(l, w.statement(deep-1))
	}
	w.visible = w.visible[:before]
	return "{ " + strings.Join(l, " ") + " }"
}

func (w *writer) statement(deep int) string {
	e := w.expr(w.Intn(4))
	switch choice := w.Intn(9); {
	case choice < 2:
		w.fresh++
		w.visible = append(w.visible, fmt.Sprint("v", w.fresh))
		return "let " + w.visible[len(w.visible)-1] + " = " + e + ";"
	case choice == 2:
		return w.any(w.visible...) + " = " + e + ";"
	case choice == 3 && deep > 0:
		return "if " + e + " " + w.block(deep)
	case choice == 4 && deep > 0:
		return "if " + e + " " + w.block(deep) + " else " + w.block(deep)
	case choice == 5 && deep > 0:
		return "while " + e + " " + w.block(deep)
	case choice == 6:
		return "return " + e + ";"
	}
	return e + ";"
}

func (w *writer) program() string {
	main := w.Intn(4)
	s := ""
	for i := range 4 {
		if i == main {
			w.visible = []string{"e"}
			s += "func main(e) "
		} else {
			w.visible = []string{"a", "b"}
			s += fmt.Sprint("func f", (i+3-main)%4, "(a, b) ")
		}
		s += w.block(1+w.Intn(3)) + " "
	}
	return s
}

// spoil changes one node or function of p.
func (w *writer) spoil(p *api.Program) {
	if len(p.Nodes) == 0 {
		return
	}
	n := &p.Nodes[w.Intn(len(p.Nodes))]
	f := &p.Funcs[w.Intn(len(p.Funcs))]
	switch w.Intn(8) {
	case 0:
		n.Kind = api.NodeKind(w.Intn(21))
	case 1:
		n.Text = w.any("", "e", "a", "f0", "len", "get", "-", "and", "*", "if")
	case 2:
		n.Int += w.Intn(3) - 1
	case 3:
		n.Keys = append(n.Keys, "k")
	case 4:
		n.Kids = append(n.Kids, w.Intn(len(p.Nodes)))
	case 5:
		f.Name = w.any("main", "f0", "len", "", "g")
	case 6:
		f.Params = append(f.Params, w.any("a", "x"))
	default:
		f.Body += w.Intn(3) - 1
	}
}

// P12.1 to P12.7: random programs, right and wrong ones.
func TestRandom(t *testing.T) {
	w := &writer{Rand: rand.New(rand.NewSource(121))}
	errors := map[api.Errno]int{}
	folds := 0
	for i := range 4000 {
		w.operators = []int{5, 8, 9}[i%3]
		p, _, err := syntax.Parse(w.program())
		if err != api.OK {
			continue // one of the limits
		}
		if i%5 == 0 {
			w.spoil(&p)
		}
		err, _ = checkAll(t, p)
		errors[err]++
		if q, err := Fold(p); err == api.OK {
			folds += len(p.Nodes) - len(q.Nodes)
		}
	}
	for err, least := range map[api.Errno]int{api.OK: 2000, api.ErrSyntax: 200, api.ErrName: 50, api.ErrType: 100, api.ErrExists: 40} {
		if errors[err] < least {
			t.Error(errors)
		}
	}
	if folds < 10000 {
		t.Error(folds)
	}
}
