package check

import (
	"math/rand"
	"testing"

	"crucible/api"
)

// known is a statement, and what is known of it since it was made: whether it ends, and whether it has a break of the loop around.
type known struct {
	term         api.Term
	ends, breaks bool
}

func plainly(t api.Term) known { return known{t, endsPlainly(t), leavesPlainly(t)} }

// rowOf is a block of statements, with a list of its own.
func rowOf(l ...known) known {
	k := known{term: api.Term{Kind: api.TermBlock}}
	for _, x := range l {
		k.term.Kids = append(k.term.Kids, x.term)
		k.ends, k.breaks = k.ends || x.ends, k.breaks || x.breaks
	}
	return k
}

func choiceOf(a, b known) known {
	return known{term(api.TermIf, number32(1), a.term, b.term), a.ends && b.ends, a.breaks || b.breaks}
}

func loopOf(body known) known {
	return known{term: term(api.TermWhile, number32(1), body.term), ends: !body.breaks}
}

func wantKnown(t *testing.T, k known, what string) {
	t.Helper()
	if got := Ends(k.term); got != k.ends {
		t.Errorf("%s: %v", what, got)
	}
	// Of the breaks it tells through a loop without end.
	if l := loopOf(k); Ends(l.term) != l.ends {
		t.Errorf("%s, in a loop: %v", what, !l.ends)
	}
}

// Ck2: statements that stand in two places each, level by level: 2^200 of them, in few bytes.
func TestEndsOfDoubled(t *testing.T) {
	last := term(api.TermReturn)
	for _, leaf := range []int{api.TermNone, api.TermReturn, api.TermBreak, api.TermContinue} {
		block, choice, mixed := plainly(term(leaf)), plainly(term(leaf)), plainly(term(leaf))
		for level := range 200 {
			block, choice = rowOf(block, block), choiceOf(choice, choice)
			mixed = choiceOf(rowOf(mixed, choice), rowOf(block, loopOf(mixed), mixed))
			if level%9 == 0 || level > 190 {
				for _, k := range []known{block, choice, mixed} {
					wantKnown(t, k, spell(term(leaf))+" doubled")
					wantKnown(t, rowOf(k, plainly(last)), spell(term(leaf))+" doubled, and a return")
					wantKnown(t, rowOf(loopOf(k), k), spell(term(leaf))+" doubled, behind its loop")
					wantKnown(t, choiceOf(plainly(last), k), spell(term(leaf))+" doubled, behind a return")
				}
			}
		}
	}
}

// Ck2: a list that many statements have is asked as each of them needs it.
func TestEndsOfOneList(t *testing.T) {
	some := []known{plainly(term(api.TermNone)), plainly(term(api.TermReturn)), plainly(term(api.TermBreak))}
	var great []known
	for _, k := range some {
		row := make([]known, 200)
		for i := range row {
			row[i] = some[0]
		}
		row[199] = k
		great = append(great, rowOf(row...))
	}
	for _, l := range [][]known{some, great} {
		for _, a := range l {
			for _, b := range l {
				choice := choiceOf(a, b)
				block := rowOf(a, b)
				block.term.Kids = choice.term.Kids[1:]
				first := rowOf(a)
				first.term.Kids = choice.term.Kids[1:2]
				for _, k := range []known{choice, block, first, rowOf(choice, block), rowOf(block, choice), choiceOf(block, choice), choiceOf(choice, block), choiceOf(choice, first), rowOf(first, block), rowOf(loopOf(block), choice), choiceOf(loopOf(first), block), choiceOf(block, loopOf(choice))} {
					wantKnown(t, k, "two of one list")
				}
			}
		}
	}
	wide := make([]known, 3000)
	inner := some[0]
	for range 3 {
		for i := range wide {
			wide[i] = inner
		}
		inner = rowOf(wide...)
	}
	wantKnown(t, inner, "wide blocks of one list")
	wantKnown(t, rowOf(append(wide, some[1])...), "wide blocks of one list, and a return")
	wantKnown(t, rowOf(append(wide, some[2])...), "wide blocks of one list, and a break")
}

// pieceOf is a block of a part of another one's list, at its front.
func pieceOf(k known, of map[*api.Term][]known, n int) known {
	row := of[&k.term.Kids[0]][:n]
	p := rowOf(row...)
	p.term.Kids = k.term.Kids[:n]
	return p
}

// Ck2: random statements that share what is in them.
func TestEndsOfRandomShared(t *testing.T) {
	r := rand.New(rand.NewSource(5))
	ends, loops := 0, 0
	for round := range 400 {
		pool := []known{plainly(term(api.TermNone)), plainly(term(api.TermContinue)), plainly(term(api.TermEval, number32(1)))}
		if round%2 == 0 {
			pool = append(pool, plainly(term(api.TermReturn)))
		}
		if round%4 < 2 {
			pool = append(pool, plainly(term(api.TermBreak)))
		}
		rows := map[*api.Term][]known{}
		late := 1 + r.Intn(20)
		one := func() known {
			if r.Intn(3) == 0 {
				return pool[r.Intn(len(pool))]
			}
			return pool[max(0, len(pool)-1-r.Intn(late))]
		}
		for range 300 {
			switch r.Intn(6) {
			case 0, 1:
				pool = append(pool, choiceOf(one(), one()))
			case 2:
				pool = append(pool, loopOf(one()))
			case 3:
				if k := one(); k.term.Kind == api.TermBlock {
					pool = append(pool, pieceOf(k, rows, 1+r.Intn(len(k.term.Kids))))
				}
			default:
				var l []known
				for range 1 + r.Intn(4) {
					l = append(l, one())
				}
				k := rowOf(l...)
				rows[&k.term.Kids[0]] = l
				pool = append(pool, k)
			}
		}
		for _, k := range pool {
			got := Ends(k.term)
			if got != k.ends {
				t.Fatalf("round %d: a shared statement: %v", round, got)
			}
			if got {
				ends++
			}
			if l := loopOf(k); Ends(l.term) != l.ends {
				t.Fatalf("round %d: a loop of a shared statement: %v", round, !l.ends)
			} else if l.ends {
				loops++
			}
		}
	}
	if ends < 10000 || loops < 10000 {
		t.Errorf("only %d end, and %d loops", ends, loops)
	}
}

// endless are rows of statements that lead from any to any other, and back.
func endless(r *rand.Rand, leaves []int) [][]api.Term {
	rows := make([][]api.Term, 2+r.Intn(400))
	for i := range rows {
		rows[i] = make([]api.Term, 1+r.Intn(4))
	}
	for _, row := range rows {
		for i := range row {
			kids := rows[r.Intn(len(rows))]
			switch r.Intn(5) {
			case 0:
				row[i] = term(leaves[r.Intn(len(leaves))])
			case 1:
				row[i] = term(api.TermIf, kids...)
			case 2:
				row[i] = term(api.TermWhile, number32(1), term(api.TermBlock, kids...))
			default:
				row[i] = term(api.TermBlock, kids...)
			}
		}
	}
	return rows
}

// grown are the statements of which something follows, from what follows of their kids, in rounds till no more are found.
func grown(rows [][]api.Term, follows func(t *api.Term, found map[*api.Term]bool) bool) map[*api.Term]bool {
	found := map[*api.Term]bool{}
	for size := -1; size < len(found); {
		size = len(found)
		for _, row := range rows {
			for i := range row {
				if follows(&row[i], found) {
					found[&row[i]] = true
				}
			}
		}
	}
	return found
}

func anyOf(l []api.Term, found map[*api.Term]bool) bool {
	for i := range l {
		if found[&l[i]] {
			return true
		}
	}
	return false
}

// R1: statements that lead back to themselves, in whatever way, are answered, and told to end only if they do.
func TestEndsOfEndless(t *testing.T) {
	r := rand.New(rand.NewSource(6))
	ended := 0
	for round := range 60 {
		rows := endless(r, [][]int{{api.TermNone}, {api.TermReturn, api.TermContinue}, {api.TermBreak, api.TermNone}, {api.TermReturn, api.TermBreak, api.TermNone, api.TermNone}}[round%4])
		breaks := grown(rows, func(t *api.Term, found map[*api.Term]bool) bool {
			return t.Kind == api.TermBreak || (t.Kind == api.TermBlock || t.Kind == api.TermIf) && anyOf(t.Kids, found)
		})
		ends := grown(rows, func(t *api.Term, found map[*api.Term]bool) bool {
			switch t.Kind {
			case api.TermBlock:
				return anyOf(t.Kids, found)
			case api.TermIf:
				return len(t.Kids) == 3 && found[&t.Kids[1]] && found[&t.Kids[2]]
			case api.TermWhile:
				return !anyOf(t.Kids[1].Kids, breaks)
			}
			return t.Kind == api.TermReturn
		})
		for _, row := range rows {
			for i := range row {
				got := Ends(row[i])
				if got && !ends[&row[i]] {
					t.Fatalf("round %d: it ends", round)
				}
				if got {
					ended++
				}
			}
		}
	}
	if ended < 1000 {
		t.Errorf("only %d end", ended)
	}
	back := make([]api.Term, 2)
	back[0], back[1] = term(api.TermBlock, back...), term(api.TermReturn)
	if !Ends(back[0]) {
		t.Errorf("a block in itself, with a return: it does not end")
	}
}
