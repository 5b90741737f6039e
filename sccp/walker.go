package sccp

import (
	"slices"

	"crucible/api"
	"crucible/ir"
)

// none is the Dst of an instruction that gives no register a value.
const none = -1

// walker goes along the ways that can be gone, and along the uses of registers of which more gets known.
type walker struct {
	function api.Func
	known    []api.Known
	gone     []bool
	preds    [][]int
	came     [][]bool // of each block, whether it is come to from each of its preds
	uses     uses
	blocks   []int // that are gone, and not looked at yet
	raised   []int // registers of which more is known than their uses were told
}

func walkerOf(f api.Func) *walker {
	w := &walker{
		function: f,
		known:    make([]api.Known, f.Regs),
		gone:     make([]bool, len(f.Blocks)),
		preds:    ir.Preds(f),
		came:     make([][]bool, len(f.Blocks)),
		uses:     usesOf(f),
	}
	for i, l := range w.preds {
		w.came[i] = make([]bool, len(l))
	}
	return w
}

// walk ends, since a block gets gone once, an edge too, and of a register more gets known at most twice.
func (w *walker) walk() {
	for r := range w.function.Params {
		w.raise(r, many)
	}
	w.enter(0)
	for len(w.blocks)+len(w.raised) > 0 {
		if n := len(w.blocks); n > 0 {
			i := w.blocks[n-1]
			w.blocks = w.blocks[:n-1]
			w.look(i)
			continue
		}
		n := len(w.raised)
		r := w.raised[n-1]
		w.raised = w.raised[:n-1]
		for _, u := range w.uses.of(r) {
			w.tell(u)
		}
	}
}

// enter makes a block gone.
func (w *walker) enter(i int) {
	if !w.gone[i] {
		w.gone[i] = true
		w.blocks = append(w.blocks, i)
	}
}

// look is the first look at a block.
func (w *walker) look(i int) {
	for _, x := range w.function.Blocks[i].Code {
		w.define(x)
	}
	w.leave(i)
}

// tell tells a use that more is known of its register. What is not gone yet is asked when it gets gone.
func (w *walker) tell(u use) {
	b := w.function.Blocks[u.block]
	switch {
	case !w.gone[u.block]:
	case int(u.at) == len(b.Code):
		w.leave(int(u.block))
	case b.Code[u.at].Op != api.OpPhi:
		w.define(b.Code[u.at])
	case w.came[u.block][u.arg]:
		w.bring(b.Code[u.at], int(u.arg))
	}
}

// define raises what an instruction of a block that is gone gives a value.
func (w *walker) define(x api.Instr) {
	switch x.Op {
	case api.OpConst:
		w.raise(x.Dst, one(x.Imm))
	case api.OpCopy:
		w.raise(x.Dst, w.known[x.Args[0]])
	case api.OpAlu:
		w.raise(x.Dst, reckoned(x.Alu, w.known[x.Args[0]], w.known[x.Args[1]]))
	case api.OpPhi:
		// Arguments are brought by the edges that they come by: each of them once, where looking at all of them each time
		// would take as long as there are edges, squared.
		if len(x.Args) == 0 {
			w.raise(x.Dst, one(0))
		}
	default:
		if x.Dst != none {
			w.raise(x.Dst, many)
		}
	}
}

// bring joins an argument of an OpPhi to what it tells.
func (w *walker) bring(x api.Instr, arg int) { w.raise(x.Dst, w.known[x.Args[arg]]) }

func (w *walker) raise(register int, k api.Known) {
	k = joined(w.known[register], k)
	if k != w.known[register] {
		w.known[register] = k
		w.raised = append(w.raised, register)
	}
}

// leave goes the edges of a block that is gone.
func (w *walker) leave(i int) {
	for _, to := range w.ways(w.function.Blocks[i]) {
		w.cross(i, to)
	}
}

// ways is where control can go from a block that is gone.
func (w *walker) ways(b api.Block) []int {
	if b.End != api.EndBranch {
		return b.To
	}
	switch k := w.known[b.Arg]; {
	case k.Kind == api.KnownNone:
		return nil
	case k.Kind == api.KnownMany:
		return b.To
	case k.Value != 0:
		return b.To[:1]
	}
	return b.To[1:]
}

// cross goes an edge.
func (w *walker) cross(from, to int) {
	arg, _ := slices.BinarySearch(w.preds[to], from)
	if w.came[to][arg] {
		return
	}
	w.came[to][arg] = true
	w.enter(to)
	for _, x := range w.function.Blocks[to].Code {
		if x.Op != api.OpPhi {
			break
		}
		w.bring(x, arg)
	}
}
