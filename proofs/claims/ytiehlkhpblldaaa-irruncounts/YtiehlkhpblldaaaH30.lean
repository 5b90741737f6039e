/- A block's code; a function; a program: the program's answers. -/
import Derived.Test.YtiehlkhpblldaaaH20
import Derived.Test.YtiehlkhpblldaaaH28
import Derived.Test.YtiehlkhpblldaaaH29
set_option linter.unusedVariables false
set_option linter.unusedSimpArgs false
set_option maxRecDepth 20000
set_option maxHeartbeats 8000000
namespace Go.Proofs.Ytiehlkhpblldaaa
open Go.RowKit Go.Maps

def codF (p : Pg) (regs slots : Int) (preds : List Int) : Bool → List In → Bool
  | _, [] => true
  | o, x :: l => if x.op = 12 then !o && (fitF p regs slots preds x && codF p regs slots preds o l) else fitF p regs slots preds x && codF p regs slots preds true l
theorem cod_next {p : Pg} {regs slots : Int} {preds : List Int} {o : Bool} {l : List In} {k : Nat} (hk : k < l.length) : codF p regs slots preds o (l.drop k) = (if l[k].op = 12 then !o && (fitF p regs slots preds l[k] && codF p regs slots preds o (l.drop (k + 1))) else fitF p regs slots preds l[k] && codF p regs slots preds true (l.drop (k + 1))) := by
  rw [List.drop_eq_getElem_cons hk]
  rfl
theorem codeFits29 {w : World} {P : Nat} {p : Pg} {regs slots : Int} {pv cv : Value} {preds : List Int} {code : List In} (h : IsPl w P p regs slots pv) (hp : Pg.ok w p) (hpr : Src icell w pv preds) (hpl : preds.length * 8 ≤ big) (h0 : 0 ≤ regs) (h1 : regs ≤ 65536) (hc : Src In.cells w cv code) (hcl : code.length * 88 ≤ big) (hin : ∀ x ∈ code, In.ok w x) :
    Calls Try.prog 41 #[.pointer (some ⟨P, 0, none⟩), cv] w fun e w' => e = .returned (.bool (codF p regs slots preds false code)) ∧ Below w.heap.size w w' := by
  have H48 : Hid (∀ W, Below w.heap.size w W → ∀ x ∈ code, Calls Try.prog 64 #[.pointer (some ⟨P, 0, none⟩), x.val] W fun e w' => e = .returned (.bool (fitF p regs slots preds x)) ∧ Below W.heap.size W w') := fun W hW x hx => fits48 (h.on hW) (hp.on hW) (hpr.on hW) hpl ((hin x hx).on hW) h0 h1
  obtain ⟨co, cc, rfl, hf⟩ := hc.form in7
  have HF := hid' hf
  have HI := hid' hin
  unfold big at hcl
  clear h hp hpr hc hf hin hpl
  go_enter Try.func41, Try.ntmps41
  go_wp2
  go_loopw [5, 10] (fun ov i wr => ∃ (k : Nat) (o : Bool), k ≤ code.length ∧ i = .int .i64 k ∧ ov = .bool o ∧ codF p regs slots preds false code = codF p regs slots preds o (code.drop k) ∧ Below w.heap.size w wr) (fun _ i _ => code.length - (intOf i).toNat)
  case atStart => exact ⟨0, false, Nat.zero_le _, rfl, rfl, rfl, Below.refl _ _⟩
  case round =>
    obtain ⟨k, o, hk, rfl, rfl, hcod, hbw⟩ := hrel
    have HC := hid' hcod
    have HB := hid' hbw
    clear hcod hbw
    by_cases hlt : k < code.length
    · obtain ⟨b, off, rfl, hb1, hc1, hx⟩ := HF.out k hlt
      obtain ⟨c0, c1, c2, c3, c4, c5, c6⟩ := in_cells (hx wr HB.out)
      have HN := hid' (cod_next (p := p) (regs := regs) (slots := slots) (preds := preds) (o := o) hlt)
      have hxo := HI.out _ (List.getElem_mem hlt)
      obtain ⟨ao, ac, ea⟩ := hxo.a.len
      obtain ⟨qo, qc, eq⟩ := hxo.p.len
      have HX := fun W hW => H48.out W hW _ (List.getElem_mem hlt)
      have hnb : ¬ b = wr.heap.size := by have := HB.out.size; omega
      rw [ea] at c2
      rw [eq] at c6
      unfold In.val at HX
      rw [ea, eq] at HX
      clear hx hxo ea eq
      generalize fitF p regs slots preds code[k] = q at *
      generalize code[k] = x at *
      by_cases e12 : x.op = 12
      · have HN2 : Hid (codF p regs slots preds false code = (!o && (q && codF p regs slots preds o (code.drop (k + 1))))) := by unfold Hid; rw [HC.out, HN.out, if_pos e12]
        rw [e12] at c0 HX
        clear HN HC
        cases o
        · cases q
          · go_wp2_with (go_at_call 64; refine (HX _ (HB.out.alloc HB.out.size _)).mono ?_; rintro e1 w1 ⟨rfl, hb1⟩)
            go_ret
            exact ⟨by rw [HN2.out]; rfl, below_on (HB.out.alloc HB.out.size _) hb1 (by have := HB.out.size; simp; omega)⟩
          · go_wp2_with (go_at_call 64; refine (HX _ (HB.out.alloc HB.out.size _)).mono ?_; rintro e1 w1 ⟨rfl, hb1⟩)
            go_roundw
            case rel => exact ⟨k + 1, false, by omega, by go_num, rfl, by rw [HN2.out]; rfl, below_on (HB.out.alloc HB.out.size _) hb1 (by have := HB.out.size; simp; omega)⟩
            case measure => simp [intOf]; omega
        · go_wp2_with fail
          go_ret
          exact ⟨by rw [HN2.out]; rfl, HB.out.alloc HB.out.size _⟩
      · have HN2 : Hid (codF p regs slots preds false code = (q && codF p regs slots preds true (code.drop (k + 1)))) := by unfold Hid; rw [HC.out, HN.out, if_neg e12]
        clear HN HC
        cases q
        · go_wp2_with (go_at_call 64; refine (HX _ (HB.out.alloc HB.out.size _)).mono ?_; rintro e1 w1 ⟨rfl, hb1⟩)
          go_ret
          exact ⟨by rw [HN2.out]; rfl, below_on (HB.out.alloc HB.out.size _) hb1 (by have := HB.out.size; simp; omega)⟩
        · go_wp2_with (go_at_call 64; refine (HX _ (HB.out.alloc HB.out.size _)).mono ?_; rintro e1 w1 ⟨rfl, hb1⟩)
          go_roundw
          case rel => exact ⟨k + 1, true, by omega, by go_num, rfl, by rw [HN2.out]; rfl, below_on (HB.out.alloc HB.out.size _) hb1 (by have := HB.out.size; simp; omega)⟩
          case measure => simp [intOf]; omega
    · have e : k = code.length := by omega
      subst e
      have HR : Hid (codF p regs slots preds false code = true) := by unfold Hid; rw [HC.out, List.drop_length]; rfl
      go_wp2_with fail
      go_ret
      exact ⟨by rw [HR.out]; rfl, HB.out⟩

def blkOK (p : Pg) (f : Fn) (i : Nat) : Bool := match f.blocks[i]? with
  | none => true
  | some b => codF p f.regs f.slots ((predsF f.blocks).getD i []) false b.code
def codesF (p : Pg) (f : Fn) : Bool := (List.range f.blocks.length).all (blkOK p f)
/-- May a function be? -/
def fnF (p : Pg) (f : Fn) : Bool := sizF f && (endsF f && (decide ((predsF f.blocks).getD 0 [] = []) && codesF p f))
theorem codes_no {p : Pg} {f : Fn} {k : Nat} (hk : k < f.blocks.length) (h : blkOK p f k = false) : codesF p f = false := by
  unfold codesF
  rw [List.all_eq_false]
  exact ⟨k, List.mem_range.2 hk, by simp [h]⟩
theorem codes_yes {p : Pg} {f : Fn} (h : ∀ k, k < f.blocks.length → blkOK p f k = true) : codesF p f = true := by
  unfold codesF
  rw [List.all_eq_true]
  exact fun k hk => h k (List.mem_range.1 hk)
theorem blk_is {p : Pg} {f : Fn} {k : Nat} (hk : k < f.blocks.length) : blkOK p f k = codF p f.regs f.slots ((predsF f.blocks).getD k []) false f.blocks[k].code := by
  unfold blkOK
  rw [List.getElem?_eq_getElem hk]
theorem boxpf {w W : World} {p0 p1 p2 p3 f0 f1 f2 f3 f4 : Value} {T U : TypeId} (hb : Below ((w.alloc (.cells #[p0, p1, p2, p3] T)).alloc (.cells #[f0, f1, f2, f3, f4] U)).heap.size ((w.alloc (.cells #[p0, p1, p2, p3] T)).alloc (.cells #[f0, f1, f2, f3, f4] U)) W) :
    (w.heap.size + 1 < W.heap.size ∧ Below w.heap.size w W) ∧ (W.cell? ⟨w.heap.size, 0, none⟩ = some p0 ∧ W.cell? ⟨w.heap.size, 1, none⟩ = some p1 ∧ W.cell? ⟨w.heap.size, 2, none⟩ = some p2 ∧ W.cell? ⟨w.heap.size, 3, none⟩ = some p3) ∧
    (W.cell? ⟨w.heap.size + 1, 0, none⟩ = some f0 ∧ W.cell? ⟨w.heap.size + 1, 1, none⟩ = some f1 ∧ W.cell? ⟨w.heap.size + 1, 2, none⟩ = some f2 ∧ W.cell? ⟨w.heap.size + 1, 3, none⟩ = some f3 ∧ W.cell? ⟨w.heap.size + 1, 4, none⟩ = some f4) := by
  refine ⟨⟨by have := hb.size; simp at this; omega, (below2 _ _ _).trans (hb.mono (by simp; omega))⟩, ⟨?_, ?_, ?_, ?_⟩, ⟨?_, ?_, ?_, ?_, ?_⟩⟩ <;> (rw [hb.cell (by simp <;> omega)]; simp [go_sem])
theorem siz_regs {f : Fn} (h : sizF f = true) : 0 ≤ f.regs ∧ f.regs ≤ 65536 ∧ 1 ≤ f.blocks.length ∧ f.blocks.length ≤ 4096 := by
  unfold sizF winF at h
  simp at h
  omega
end Go.Proofs.Ytiehlkhpblldaaa
