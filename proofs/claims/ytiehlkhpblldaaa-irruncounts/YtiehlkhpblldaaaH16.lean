/- arrive: to a block, and its phis at once. -/
import Derived.Test.YtiehlkhpblldaaaH10
import Derived.Test.YtiehlkhpblldaaaH11
import Derived.Test.YtiehlkhpblldaaaH15
set_option linter.unusedVariables false
set_option linter.unusedSimpArgs false
set_option maxRecDepth 20000
set_option maxHeartbeats 8000000
namespace Go.Proofs.Ytiehlkhpblldaaa
open Go.RowKit Go.Maps
section
variable {C : Cst} {W0 W W' : World} {r : Nat} {s s' : St} {x : Vs} {t : Tp}
/-- A function, a block of it, its code: where they lie. -/
theorem src_block (h : Pg.ok W0 C.p) {fn bk : Nat} (hf : fn < C.p.funcs.length) (hb : bk < C.p.funcs[fn].blocks.length) : ∃ bb bo cap, C.p.funcs[fn].bv = .slice (some ⟨bb, bo, none⟩) C.p.funcs[fn].blocks.length cap ∧ bb < W0.heap.size ∧ C.p.funcs[fn].blocks.length ≤ cap ∧ (∀ w', Below W0.heap.size W0 w' → ∀ c, c < 4 → w'.cell? ⟨bb, bo + bk * 4 + c, none⟩ = (Bl.cells C.p.funcs[fn].blocks[bk])[c]?) ∧ Bl.ok W0 C.p.funcs[fn].blocks[bk] ∧ C.p.funcs[fn].blocks.length * 64 ≤ big := by
  have hfn := h.fns _ (List.getElem_mem hf)
  obtain ⟨ao, cap, e, hx⟩ := hfn.b.form bl4
  obtain ⟨b, o, rfl, h1, h2, h3⟩ := hx bk hb
  exact ⟨b, o, cap, e, h1, h2, h3, hfn.bls _ (List.getElem_mem hb), hfn.bl⟩
theorem src_code {b : Bl} (h : Bl.ok W0 b) {k : Nat} (hk : k < b.code.length) : ∃ ib io cap, b.cv = .slice (some ⟨ib, io, none⟩) b.code.length cap ∧ b.code.length ≤ cap ∧ ∀ j (hj : j < b.code.length), InAt W0 ib (io + j * 7) b.code[j] := by
  obtain ⟨ao, cap, e, hx⟩ := h.c.form in7
  obtain ⟨ib, io, rfl, h1, h2, _⟩ := hx k hk
  refine ⟨ib, io, cap, e, h2, fun j hj => ?_⟩
  obtain ⟨ib2, io2, e2, _, _, h3⟩ := hx j hj
  injection e2 with e2
  injection e2 with a1 a2
  subst a1 a2
  exact ⟨h1, h3, h.ins _ (List.getElem_mem hj)⟩
/-- What the run's function pointer leads to. -/
theorem top_fn (h : RunM C W0 r W s x t) {c : Cl} {l : List Rg} (T : Top C s x t c l) : ∃ fb fo, t.f = .pointer (some ⟨fb, fo + c.fn * 5, none⟩) ∧ ∀ w', Below W0.heap.size W0 w' → ∀ k, k < 5 → w'.cell? ⟨fb, fo + c.fn * 5 + k, none⟩ = (Fn.cells (C.p.funcs[c.fn]'T.fn))[k]? := by
  obtain ⟨fb, fo, cap, e, e2⟩ := T.tf
  obtain ⟨fb', fo', cap', e', _, _, hx⟩ := funcs_form h.rows.pg T.fn
  rw [e] at e'
  injection e' with e' _ _
  injection e' with e'
  injection e' with a1 a2
  subst a1 a2
  exact ⟨fb, fo, e2, fun w' hw k hk => hx w' hw c.fn T.fn k hk⟩

def in0 : In := ⟨0, 0, undef, [], 0, 0, 0, undef, []⟩
/-- What the phis tell. -/
def chF (l : List Rg) (no : Int) (code : List In) (from_ : Int) (n : Nat) : List Int :=
  (List.range n).map (fun i => if fndF (code.getD 0 in0).pred from_ then getR l ((code.getD i in0).args.getD (posF (code.getD 0 in0).pred from_) 0).toNat no else 0)
/-- Registers are given their values one behind the other. -/
def setsF (c : Cl) (s : St) (l : List Rg) (q : List (Nat × Int)) : St × List Rg := q.foldl (fun p y => (setS p.1 c p.2 y.1 y.2, p.2.set y.1 ⟨y.2, c.no⟩)) (s, l)
theorem setsF_snoc (c : Cl) (s : St) (l : List Rg) (q : List (Nat × Int)) (y : Nat × Int) : setsF c s l (q ++ [y]) = (setS (setsF c s l q).1 c (setsF c s l q).2 y.1 y.2, (setsF c s l q).2.set y.1 ⟨y.2, c.no⟩) := by simp [setsF]
theorem setsF_len (c : Cl) : ∀ (q : List (Nat × Int)) (s : St) (l : List Rg), (setsF c s l q).2.length = l.length ∧ (setsF c s l q).1.hidden.length ≤ s.hidden.length + q.length ∧ (setsF c s l q).1.ch = s.ch ∧ (setsF c s l q).1.calls = s.calls
  | [], s, l => ⟨rfl, Nat.le_refl _, rfl, rfl⟩
  | y :: q, s, l => by
    have h := setsF_len c q (setS s c l y.1 y.2) (l.set y.1 ⟨y.2, c.no⟩)
    have e : setsF c s l (y :: q) = setsF c (setS s c l y.1 y.2) (l.set y.1 ⟨y.2, c.no⟩) q := rfl
    rw [e]
    refine ⟨by rw [h.1, List.length_set], ?_, h.2.2.1, h.2.2.2⟩
    have h2 := h.2.1
    have h3 : (setS s c l y.1 y.2).hidden.length ≤ s.hidden.length + 1 := by unfold setS; dsimp only; split <;> simp
    rw [List.length_cons]
    omega
theorem chF_len (l : List Rg) (no : Int) (code : List In) (f : Int) (n : Nat) : (chF l no code f n).length = n := by simp [chF]
theorem chF_succ (l : List Rg) (no : Int) (code : List In) (f : Int) (n : Nat) : chF l no code f (n + 1) = chF l no code f n ++ [if fndF (code.getD 0 in0).pred f then getR l ((code.getD n in0).args.getD (posF (code.getD 0 in0).pred f) 0).toNat no else 0] := by simp [chF, List.range_succ]
theorem fnd_lt {l : List Int} {t : Int} (h : fndF l t = true) : posF l t < l.length := by
  have := of_decide_eq_true h
  exact (List.getElem?_eq_some_iff.1 this).1
theorem sets_step (c : Cl) (s : St) (l : List Rg) (PP : List (Nat × Int)) {k d : Nat} {v : Int} (h : k < PP.length) (hp : PP[k] = (d, v)) : setsF c s l (PP.take (k + 1)) = (setS (setsF c s l (PP.take k)).1 c (setsF c s l (PP.take k)).2 d v, (setsF c s l (PP.take k)).2.set d ⟨v, c.no⟩) := by
  rw [List.take_succ_eq_append_getElem h, setsF_snoc, hp]
theorem sets_hid (c : Cl) (s : St) (l : List Rg) (PP : List (Nat × Int)) (k : Nat) : (setsF c s l (PP.take k)).1.hidden.length ≤ s.hidden.length + k := by
  have h := (setsF_len c (PP.take k) s l).2.1
  rw [List.length_take] at h
  omega
theorem row_u32 {W : World} {B xb n cap k : Nat} {CH : List Int} (h : W.ownsRow B 79 1 (.slice (some ⟨xb, 0, none⟩) n cap) n (flat ucel CH)) (hn : CH.length = n) (hk : k < n) : W.cell? ⟨xb, k, none⟩ = some (.int .u32 (CH.getD k 0)) := by
  have hkC : k < CH.length := by omega
  rw [World.ownsRow.cellAt h k (by omega)]
  have h2 := flat_get uc1 CH k 0 hkC (by omega)
  simp only [Nat.mul_one, Nat.add_zero] at h2
  rw [h2]
  simp [ucel, hkC]
theorem hid_room {a b k N : Nat} (h : a ≤ b + k) (hk : k < N) (hh : (b + N + 1) * 24 ≤ 140737488355328) : (a + 1) * 24 ≤ 140737488355328 := Nat.le_trans (Nat.mul_le_mul_right 24 (show a + 1 ≤ b + N + 1 by clear hh; omega)) hh
theorem loop2_facts {wr : World} {x2 : Vs} {S8 : St} {CH : List Int} {PP : List (Nat × Int)} {c2 : Cl} {l : List Rg} {k N xb ycap d : Nat} (HR2 : RunM C W0 r wr (setsF c2 { S8 with ch := CH } l (PP.take k)).1 x2 t) (HT2 : Top C (setsF c2 { S8 with ch := CH } l (PP.take k)).1 x2 t c2 (setsF c2 { S8 with ch := CH } l (PP.take k)).2)
    (hx2 : x2.xv = .slice (some ⟨xb, 0, none⟩) N ycap) (hch : CH.length = N) (hk : k < N) (hPl : k < PP.length) (hp : PP[k] = (d, CH.getD k 0)) (hd : d < l.length) (hh : (S8.hidden.length + N + 1) * 24 ≤ 140737488355328) :
    wr.cell? ⟨xb, k, none⟩ = some (.int .u32 (CH.getD k 0)) ∧ Calls Try.prog 26 #[.pointer (some ⟨r, 0, none⟩), .int .i64 d, .int .u32 (CH.getD k 0)] wr fun e w' => e = .returned (.tuple #[]) ∧ ∃ x', RunM C W0 r w' (setsF c2 { S8 with ch := CH } l (PP.take (k + 1))).1 x' t ∧ Top C (setsF c2 { S8 with ch := CH } l (PP.take (k + 1))).1 x' t c2 (setsF c2 { S8 with ch := CH } l (PP.take (k + 1))).2 ∧ x'.xv = .slice (some ⟨xb, 0, none⟩) N ycap := by
  have hSL := setsF_len c2 (PP.take k) { S8 with ch := CH } l
  have hSH := sets_hid c2 { S8 with ch := CH } l PP k
  have hST := sets_step c2 { S8 with ch := CH } l PP hPl hp
  dsimp only at hSH hSL
  generalize setsF c2 { S8 with ch := CH } l (PP.take (k + 1)) = SS1 at *
  generalize setsF c2 { S8 with ch := CH } l (PP.take k) = SS at *
  subst hST
  obtain ⟨S, m⟩ := SS
  dsimp only at *
  have hxs := HR2.rows.xs
  rw [hSL.2.2.1, hx2, hch] at hxs
  refine ⟨row_u32 hxs hch hk, ?_⟩
  have hb : (S.hidden.length + 1) * 24 ≤ 140737488355328 := hid_room hSH hk hh
  have hdm : d < m.length := by rw [hSL.1]; exact hd
  refine (set26x HR2 HT2 hdm (CH.getD k 0) hb).mono ?_
  rintro e w' ⟨rfl, x', h1, h2, h3⟩
  exact ⟨rfl, x', h1, h2, by rw [h3]; exact hx2⟩
structure PhiOk (l : List Rg) (code : List In) (i : In) : Prop where
  d : 0 ≤ i.dst ∧ i.dst < l.length
  n : i.args.length = (code.getD 0 in0).pred.length
  a : ∀ k, k < i.args.length → 0 ≤ i.args.getD k 0 ∧ i.args.getD k 0 < l.length
def arrS (s : St) (c : Cl) (bk : Nat) (code : List In) : Cl := { c with bk := bk, nx := phN code }
def arrF (s : St) (c : Cl) (l : List Rg) (code : List In) (bk : Nat) (from_ : Int) : St × List Rg :=
  let c1 := arrS s c bk code
  let s1 := topS s c1
  if phN code = 0 then (s1, l)
  else if s1.fuel < phN code then (spendF s1 (phN code), l)
  else
    let ch := chF l c.no code from_ (phN code)
    setsF c1 { spendF s1 (phN code) with ch := ch } l ((List.range (phN code)).map (fun i => ((code.getD i in0).dst.toNat, ch.getD i 0)))
set_option maxHeartbeats 20000000 in
theorem arrive27 {c : Cl} {l : List Rg} {bk : Nat} {from_ : Int} (h : RunM C W0 r W s x t) (T : Top C s x t c l) (hb : bk < (C.p.funcs[c.fn]'T.fn).blocks.length)
    (hphi : ∀ i (hi : i < (C.p.funcs[c.fn]'T.fn).blocks[bk].code.length), i < phN (C.p.funcs[c.fn]'T.fn).blocks[bk].code → PhiOk l (C.p.funcs[c.fn]'T.fn).blocks[bk].code (C.p.funcs[c.fn]'T.fn).blocks[bk].code[i])
    (hsort : 0 < phN (C.p.funcs[c.fn]'T.fn).blocks[bk].code → SortedL ((C.p.funcs[c.fn]'T.fn).blocks[bk].code.getD 0 in0).pred) (hfu : s.fuel ≤ 9223372036854775807) (hR : RegsOk l) (hl : (s.hidden.length + phN (C.p.funcs[c.fn]'T.fn).blocks[bk].code + 1) * 24 ≤ 140737488355328) (hcl : s.calls.length ≤ 140737488355328) :
    Calls Try.prog 27 #[.pointer (some ⟨r, 0, none⟩), .int .i64 bk, .int .i64 from_] W fun e w' => e = .returned (.tuple #[]) ∧ ∃ x', RunM C W0 r w' (arrF s c l (C.p.funcs[c.fn]'T.fn).blocks[bk].code bk from_).1 x' t ∧ Top C (arrF s c l (C.p.funcs[c.fn]'T.fn).blocks[bk].code bk from_).1 x' t (arrS s c bk (C.p.funcs[c.fn]'T.fn).blocks[bk].code) (arrF s c l (C.p.funcs[c.fn]'T.fn).blocks[bk].code bk from_).2 := by
  have H := hid' h
  have HT := hid' T
  obtain ⟨bb, bo, bcap, ebv, hbb, hbc, hblk, hbok, hbig⟩ := src_block h.rows.pg T.fn hb
  obtain ⟨fb, fo, etf, hfn⟩ := top_fn h T
  have HBOK := hid' hbok
  generalize (C.p.funcs[c.fn]'T.fn).blocks[bk] = B at *
  obtain ⟨ao, acap, eav⟩ := hbok.c.len
  obtain ⟨cb, et, hcc, hcf, hcl2, hcr, ccap, ecv, hpos⟩ := T.see h
  have HBW := hid' h.rows.below
  have hbl : (bk : Int) < (C.p.funcs[c.fn]'T.fn).blocks.length := by omega
  have c12 : W.cell? ⟨r, 12, none⟩ = some (.pointer (some ⟨fb, fo + c.fn * 5, none⟩)) := by rw [← etf]; exact h.cell 12
  have f4 : W.cell? ⟨fb, fo + c.fn * 5 + 4, none⟩ = some (.slice (some ⟨bb, bo, none⟩) (C.p.funcs[c.fn]'T.fn).blocks.length bcap) := by rw [← ebv]; exact hfn W h.rows.below 4 (by omega)
  have b0 : W.cell? ⟨bb, bo + bk * 4, none⟩ = some (.slice ao B.code.length acap) := by rw [← eav]; exact hblk W h.rows.below 0 (by omega)
  have c11 : ∀ q : After W, q.1.cell? ⟨r, 11, none⟩ = some (.pointer (some ⟨cb, (s.calls.length - 1) * 6, none⟩)) := fun q => keep_cell (by rw [← et]; exact h.cell 11) q.2
  have K44 : ∀ q : After W, Calls Try.prog 44 #[.slice ao B.code.length acap] q.1 fun e w' => e = .returned (.int .i64 (phN B.code)) ∧ ∃ t' : After W, w' = t'.1 := fun q => Calls.after q (by rw [← eav]; exact phis44 (HBOK.out.c.on (below_on HBW.out q.2 HBW.out.size)) HBOK.out.cl)
  have hne := after_some W
  have hcfr : ∀ w6, Below W.heap.size W w6 → (w6.cell? ⟨cb, (s.calls.length - 1) * 6 + 4, none⟩ = some (.int .i64 c.bk) ∧ w6.cell? ⟨cb, (s.calls.length - 1) * 6 + 5, none⟩ = some (.int .i64 c.nx) ∧ ∀ j, w6.frozen? ⟨cb, j, none⟩ = false) := fun w6 hb6 => ⟨keep_cell (hcc 4 (by omega)) hb6, keep_cell (hcc 5 (by omega)) hb6, fun j => by rw [hb6.frozen hcl2]; exact hcf j⟩
  have HCF := hid' hcfr
  generalize (C.p.funcs[c.fn]'T.fn).blocks.length = NB at *
  clear hcc hcf hcfr h T hfn hblk etf ebv hb
  go_enter Try.func27, Try.ntmps27
  go_wp2
  refine region_after 11 mixed (by kernel_rfl) ?_
  simp only [List.take_succ_cons, List.take_zero, List.drop_succ_cons, List.drop_zero]
  repeat (first | go_big_quiet_step (with_reducible exact K44 _) | quiet_step (with_reducible exact K44 _))
  refine wpQuiet_nil ?_
  intro w6 hb6
  obtain ⟨k4, k5, kf⟩ := HCF.out w6 hb6
  have HR6 := hid' (H.out.on hb6)
  clear c11 K44 c12 f4 b0 hb6
  have hrc : ¬ r = cb := fun e => hcr e.symm
  have q11 : w6.cell? ⟨r, 11, none⟩ = some (.pointer (some ⟨cb, (s.calls.length - 1) * 6, none⟩)) := by rw [← et]; exact HR6.out.cell 11
  obtain ⟨t1, T1⟩ := HR6.out.topc HT.out ecv (j := 4) (by omega) { c with bk := bk } (.int .i64 bk) rfl rfl
  obtain ⟨t2, T2⟩ := t1.topc T1 (cb := cb) (cap := ccap) (by rw [topS_len _ _ hpos]; exact ecv) (j := 5) (by omega) { c with bk := bk, nx := phN B.code } (.int .i64 (phN B.code)) rfl rfl
  rw [topS_len _ _ hpos] at t2
  have eS : topS (topS s { c with bk := bk }) { c with bk := bk, nx := phN B.code } = topS s { c with bk := bk, nx := phN B.code } := by simp [topS]
  rw [eS] at t2 T2
  have HR7 := hid' t2
  have HT7 := hid' T2
  have HA : Hid (arrS s c bk B.code = { c with bk := bk, nx := phN B.code }) := rfl
  have HZ0 : Hid (phN B.code = 0 → arrF s c l B.code bk from_ = (topS s { c with bk := bk, nx := phN B.code }, l)) := fun e => by unfold arrF; simp only [e, if_true, arrS]
  have HZ1 : Hid (¬ phN B.code = 0 → s.fuel < phN B.code → arrF s c l B.code bk from_ = (spendF (topS s { c with bk := bk, nx := phN B.code }) (phN B.code), l)) := fun e e2 => by unfold arrF; simp only [e, if_false, arrS, topS, e2, if_true]
  have HZ2 : Hid (¬ phN B.code = 0 → ¬ s.fuel < phN B.code → arrF s c l B.code bk from_ = setsF { c with bk := bk, nx := phN B.code } { spendF (topS s { c with bk := bk, nx := phN B.code }) (phN B.code) with ch := chF l c.no B.code from_ (phN B.code) } l ((List.range (phN B.code)).map (fun i => ((B.code.getD i in0).dst.toNat, (chF l c.no B.code from_ (phN B.code)).getD i 0)))) := fun e e2 => by unfold arrF; simp only [e, if_false, arrS, topS, e2]
  have hNle := phN_le B.code
  have HPH := hid' hphi
  clear t1 T1 t2 T2 eS hphi
  generalize hN : phN B.code = N at *
  by_cases hz : N = 0
  · subst hz
    have HZ := hid' (HZ0.out rfl)
    clear HZ0 HZ1 HZ2
    go_wp2_with fail
    exact bodyPost_ret (v := .tuple #[]) (by simp [results, Try.results27]) rfl ⟨rfl, x, by rw [HZ.out]; exact HR7.out, by rw [HZ.out, HA.out]; exact HT7.out⟩
  · have hzi : ((N : Int) == 0) = false := by simp; omega
    by_cases hfl : s.fuel < N
    · have HZ := hid' (HZ1.out hz hfl)
      have h28 := spend28 HR7.out (n := N) (by omega) hfu
      rw [decide_eq_false (show ¬ (N : Int) ≤ (topS s { c with bk := bk, nx := N }).fuel from by show ¬ (N : Int) ≤ s.fuel; omega)] at h28
      clear HZ0 HZ1 HZ2
      go_wp2_with (go_at_call 28; refine h28.mono ?_; rintro e8 w8 ⟨rfl, hR8⟩)
      exact bodyPost_ret (v := .tuple #[]) (by simp [results, Try.results27]) rfl ⟨rfl, x, by rw [HZ.out]; exact hR8, by rw [HZ.out, HA.out]; exact HT7.out.same (by unfold spendF; split <;> rfl) (by unfold spendF; split <;> rfl)⟩
    · have HZ := hid' (HZ2.out hz hfl)
      have h28 := spend28 HR7.out (n := N) (by omega) hfu
      rw [decide_eq_true (show (N : Int) ≤ (topS s { c with bk := bk, nx := N }).fuel from by show (N : Int) ≤ s.fuel; omega)] at h28
      obtain ⟨ib, io, icap, ecv2, hic, hin⟩ := src_code HBOK.out (k := 0) (by omega)
      rw [eav] at ecv2
      injection ecv2 with a1 _ a3
      subst a1 a3
      have h0l : 0 < B.code.length := by omega
      have g0 : B.code.getD 0 in0 = B.code[0] := by simp [h0l]
      rw [g0] at hsort
      have hI0 := hin 0 h0l
      have HIN := hid' hin
      obtain ⟨po, pcap, ep⟩ := hI0.2.2.p.len
      have HSR : Hid (∀ w, Below W0.heap.size W0 w → Calls Try.prog 45 #[.slice po B.code[0].pred.length pcap, .int .i64 from_] w fun e w' => e = .returned (.tuple #[.int .i64 (posF B.code[0].pred from_), .bool (fndF B.code[0].pred from_)]) ∧ Below w.heap.size w w') := fun w hw => by rw [← ep]; exact search45 (hI0.2.2.p.on hw) hI0.2.2.pl (hsort (by omega))
      have H6 : Hid (∀ w, Below W0.heap.size W0 w → w.cell? ⟨ib, io + 6, none⟩ = some (.slice po B.code[0].pred.length pcap)) := fun w hw => by
        have := (in_cells (hI0.2.1 w hw)).2.2.2.2.2.2
        rw [ep] at this
        simpa using this
      have hSf : spendF (topS s { c with bk := bk, nx := N }) N = { topS s { c with bk := bk, nx := N } with fuel := s.fuel - N } := by unfold spendF; rw [if_neg (show ¬ (topS s { c with bk := bk, nx := N }).fuel < N from hfl)]; rfl
      rw [hSf] at h28 HZ
      have HT8 : Hid (Top C { topS s { c with bk := bk, nx := N } with fuel := s.fuel - N } x t { c with bk := bk, nx := N } l) := HT7.out.same rfl rfl
      have hSc : Hid ({ topS s { c with bk := bk, nx := N } with fuel := s.fuel - N }.calls.length = s.calls.length) := topS_len _ _ hpos
      have hSh : Hid ({ topS s { c with bk := bk, nx := N } with fuel := s.fuel - N }.hidden = s.hidden) := rfl
      have h0li : (0 : Int) < B.code.length := by omega
      clear HZ0 HZ1 HZ2 hI0 hin hSf ep
      generalize { topS s { c with bk := bk, nx := N } with fuel := s.fuel - N } = S8 at *
      go_wp2_with (first
        | (go_at_call 45; refine (HSR.out w8 hR8.rows.below).mono ?_; rintro e9 w9 ⟨rfl, hb9⟩; have HR9 := hid' (hR8.on hb9); obtain ⟨xo, xcap, exv, hxc⟩ := own_len HR9.out.rows.xs; have d14 : w9.cell? ⟨r, 14, none⟩ = some (.slice xo S8.ch.length xcap) := (by rw [← exv]; exact HR9.out.cell 14); have d11 : w9.cell? ⟨r, 11, none⟩ = some (.pointer (some ⟨cb, (s.calls.length - 1) * 6, none⟩)) := (by rw [← et]; exact HR9.out.cell 11); have df := HR9.out.fro; obtain ⟨cb2, et2, hcc2, _⟩ := HT8.out.see HR9.out; rw [et, hSc.out] at et2; injection et2 with et2; injection et2 with et2; injection et2 with et2; subst et2; rw [hSc.out] at hcc2; have d5 : w9.cell? ⟨cb, (s.calls.length - 1) * 6 + 5, none⟩ = some (.int .i64 N) := hcc2 5 (by omega); obtain ⟨v10, hv10, hR10⟩ := HR9.out.noch; rw [hv10 _ _ _ exv] at hR10; have HR10 := hid' hR10; clear hcc2 hv10 hR10 exv hb9)
        | (go_at_call 28; refine h28.mono ?_; rintro e8 w8 ⟨rfl, hR8⟩; have p6 := H6.out w8 hR8.rows.below))
      clear d14 d11 df d5 p6 k4 k5 kf q11
      generalize w9.setCell ⟨r, 14, none⟩ (.slice xo 0 xcap) = w10 at *
      have HCL := hid' (HBOK.out.cl)
      have hcd := HBOK.out.cl
      unfold big at hcd
      go_loopw [83] (fun i wr => ∃ (k : Nat) (x1 : Vs), k ≤ N ∧ i = .int .i64 k ∧ RunM C W0 r wr { S8 with ch := chF l c.no B.code from_ k } x1 t ∧ x1 = { x with xv := x1.xv }) (fun i _ => N - (intOf i).toNat)
      case atStart => exact ⟨0, { x with xv := .slice xo 0 xcap }, Nat.zero_le _, rfl, HR10.out, rfl⟩
      case round =>
        obtain ⟨k, x1, hkN, rfl, hRk, hxk⟩ := hrel
        have HRK := hid' hRk
        have HXK := hid' hxk
        have HTK : Hid (Top C { S8 with ch := chF l c.no B.code from_ k } x1 t { c with bk := bk, nx := N } l) := by
          unfold Hid; rw [hxk]; exact ⟨HT8.out.last, HT8.out.tt, HT8.out.fn, HT8.out.tf, HT8.out.bank, HT8.out.tb⟩
        clear hRk hxk
        by_cases hkl : k < N
        · have hkc : k < B.code.length := by omega
          have hP := HPH.out k hkc hkl
          have hIk := HIN.out k hkc
          have gk : B.code.getD k in0 = B.code[k] := by simp [hkc]
          have HCS := hid' (chF_succ l c.no B.code from_ k)
          rw [g0, gk] at HCS
          have h4 : ((chF l c.no B.code from_ k).length + 1) * 4 ≤ 140737488355328 := by rw [chF_len]; omega
          have hkci : (k : Int) < B.code.length := by omega
          have hne14 : Hid (∀ w : World, w.heap[r]? = some (.cells (rcells C { S8 with ch := chF l c.no B.code from_ k } x1 t) 72 (0, 0)) → w.cell? ⟨r, 14, none⟩ = some x1.xv ∧ w.frozen? ⟨r, 14, none⟩ = false) := fun w hw => ⟨by rw [cell_of_row w r 14 _ 72 (0, 0) hw]; rfl, frozen_of_row w r 14 _ 72 hw⟩
          cases hfd : fndF B.code[0].pred from_
          · rw [hfd] at HCS
            simp only [Bool.false_eq_true, if_false] at HCS
            obtain ⟨b2, cap2, w12, hr6, hrc12, hR12⟩ := HRK.out.pushXN 0 h4
            obtain ⟨m14, mf⟩ := hne14.out w12 hrc12
            have HR12 := hid' hR12
            have n14 : wr.cell? ⟨r, 14, none⟩ = some x1.xv := HRK.out.cell 14
            dsimp only at hr6 HR12
            rw [chF_len] at hr6 HR12
            unfold ucel at hr6
            try dsimp only at hr6
            clear hR12 hrc12 hne14
            go_wp2_with (at_builtin; refine wpList_append_run rfl _ _ rfl _ _ _ rfl rfl hr6 ?_)
            refine ⟨⟨k + 1, { x1 with xv := .slice (some ⟨b2, 0, none⟩) (k + 1) cap2 }, by omega, by go_num, by rw [HCS.out]; exact HR12.out, by rw [HXK.out]⟩, ?_⟩
            simp [intOf]; omega
          · rw [hfd] at HCS
            simp only [if_true] at HCS
            have hpa : posF B.code[0].pred from_ < B.code[k].args.length := by rw [hP.n, g0]; exact fnd_lt hfd
            obtain ⟨ab, ao2, acap2, eaa, hab, hac2, hargs⟩ := args_at hIk hpa
            obtain ⟨k1, e1⟩ : ∃ k1 : Nat, B.code[k].args[posF B.code[0].pred from_] = k1 := ⟨(B.code[k].args.getD (posF B.code[0].pred from_) 0).toNat, by have := (hP.a _ hpa).1; simp [hpa] at this ⊢; omega⟩
            have hk1 : k1 < l.length := by have := (hP.a _ hpa).2; simp [hpa, e1] at this; omega
            have ek1 : (B.code[k].args.getD (posF B.code[0].pred from_) 0).toNat = k1 := by simp [hpa, e1]
            rw [ek1] at HCS
            have i2 : wr.cell? ⟨ib, io + k * 7 + 2, none⟩ = some (.slice (some ⟨ab, ao2, none⟩) B.code[k].args.length acap2) := by rw [← eaa]; exact (in_cells (hIk.2.1 wr HRK.out.rows.below)).2.2.1
            have a1 : wr.cell? ⟨ab, ao2 + posF B.code[0].pred from_, none⟩ = some (.int .i64 k1) := by rw [← e1]; exact hargs wr HRK.out.rows.below _ hpa
            have h46 := get46 HRK.out HTK.out hk1
            have hpai : (posF B.code[0].pred from_ : Int) < B.code[k].args.length := by omega
            have HPX : Hid (∀ w11, Below wr.heap.size wr w11 → _) := fun w11 hb11 => (HRK.out.on hb11).pushXN (getR l k1 c.no) h4
            have HN14 : Hid (∀ w11, Below wr.heap.size wr w11 → w11.cell? ⟨r, 14, none⟩ = some x1.xv) := fun w11 hb11 => (HRK.out.on hb11).cell 14
            dsimp only at HPX h46
            rw [chF_len] at HPX
            unfold ucel at HPX
            try dsimp only at HPX
            clear hargs e1 eaa hIk hP
            generalize getR l k1 c.no = gv at *
            generalize B.code[k].args.length = na at *
            generalize posF B.code[0].pred from_ = place at *
            go_wp2_with (first
              | (go_at_call 46; refine h46.mono ?_; rintro e11 w11 ⟨rfl, hb11⟩; have n14 := HN14.out w11 hb11; obtain ⟨b2, cap2, w12, hr6, hrc12, hR12⟩ := HPX.out w11 hb11; obtain ⟨m14, mf⟩ := hne14.out w12 hrc12; have HR12 := hid' hR12; clear hR12 hrc12)
              | (at_builtin; refine wpList_append_run rfl _ _ rfl _ _ _ rfl rfl hr6 ?_))
            refine ⟨⟨k + 1, { x1 with xv := .slice (some ⟨b2, 0, none⟩) (k + 1) cap2 }, by omega, by go_num, by rw [HCS.out]; exact HR12.out, by rw [HXK.out]⟩, ?_⟩
            simp [intOf]; omega
        · have e : N = k := by omega
          subst e
          obtain ⟨M, hM⟩ : ∃ M, N = M + 1 := ⟨N - 1, by omega⟩
          have hxs := HRK.out.rows.xs
          dsimp only at hxs
          rw [chF_len, hM] at hxs
          obtain ⟨xb, ycap, eyv, hyc⟩ := own_form2 hxs
          rw [← hM] at eyv hyc
          have HEY := hid' eyv
          have n14 : wr.cell? ⟨r, 14, none⟩ = some (.slice (some ⟨xb, 0, none⟩) N ycap) := by rw [← eyv]; exact HRK.out.cell 14
          have HCH := hid' (chF_len l c.no B.code from_ N)
          generalize chF l c.no B.code from_ N = CH at *
          obtain ⟨PP, hPP⟩ : ∃ PP, PP = (List.range N).map (fun i => ((B.code.getD i in0).dst.toNat, CH.getD i 0)) := ⟨_, rfl⟩
          have HPL : Hid (PP.length = N) := by unfold Hid; rw [hPP]; simp
          have HPP : Hid (∀ k (h1 : k < N) (h2 : k < PP.length), PP[k] = ((B.code.getD k in0).dst.toNat, CH.getD k 0)) := fun k h1 h2 => by simp [hPP]
          rw [← hPP] at HZ
          clear hPP hxs hM eyv
          go_wp2_with fail
          have HPK : Hid (∀ k (h : k < N), ∃ (d : Nat) (h2 : k < PP.length), PP[k] = (d, CH.getD k 0) ∧ d < l.length ∧ k < B.code.length ∧ ∀ w, Below W0.heap.size W0 w → w.cell? ⟨ib, io + k * 7 + 1, none⟩ = some (.int .i64 d)) := fun k h => by
            have hkc : k < B.code.length := by omega
            have hP := HPH.out k hkc h
            have hIk := HIN.out k hkc
            have hlenP : k < PP.length := by rw [HPL.out]; exact h
            obtain ⟨d, hd⟩ : ∃ d : Nat, B.code[k].dst = d := ⟨B.code[k].dst.toNat, by have := hP.d.1; omega⟩
            have hpk := HPP.out k h hlenP
            rw [show B.code.getD k in0 = B.code[k] by simp [hkc], hd, Int.toNat_natCast] at hpk
            refine ⟨d, hlenP, hpk, by have := hP.d.2; omega, hkc, fun w hw => ?_⟩
            rw [← hd]
            exact (in_cells (hIk.2.1 w hw)).2.1
          have HHD : Hid ((S8.hidden.length + N + 1) * 24 ≤ 140737488355328) := by unfold Hid; rw [hSh.out]; exact hl
          clear HPP HPH HIN hSh hSc
          go_loopw [113] (fun i wr' => ∃ (k : Nat) (x2 : Vs), k ≤ N ∧ i = .int .i64 k ∧ RunM C W0 r wr' (setsF { c with bk := bk, nx := N } { S8 with ch := CH } l (PP.take k)).1 x2 t ∧ Top C (setsF { c with bk := bk, nx := N } { S8 with ch := CH } l (PP.take k)).1 x2 t { c with bk := bk, nx := N } (setsF { c with bk := bk, nx := N } { S8 with ch := CH } l (PP.take k)).2 ∧ x2.xv = .slice (some ⟨xb, 0, none⟩) N ycap) (fun i _ => N - (intOf i).toNat)
          case atStart => exact ⟨0, x1, Nat.zero_le _, rfl, HRK.out, HTK.out, HEY.out⟩
          case round =>
            obtain ⟨k, x2, hkN2, rfl, hR2, hT2, hx2⟩ := hrel
            have HR2 := hid' hR2
            have HT2 := hid' hT2
            have HX2 := hid' hx2
            clear hR2 hT2 hx2
            by_cases hk3 : k < N
            · obtain ⟨d, hPl, hpk, hdl, hkc, hic⟩ := HPK.out k hk3
              have i1 := hic wr HR2.out.rows.below
              obtain ⟨c1, h26⟩ := loop2_facts HR2.out HT2.out HX2.out HCH.out hk3 hPl hpk hdl HHD.out
              have hkci : (k : Int) < B.code.length := by omega
              clear hic hpk
              generalize CH.getD k 0 = cv at *
              go_wp2_with (go_at_call 26; refine h26.mono ?_; rintro e13 w13 ⟨rfl, x13, hR13, hT13, hx13⟩)
              refine ⟨⟨k + 1, x13, by omega, by go_num, hR13, hT13, hx13⟩, ?_⟩
              simp [intOf]; omega
            · have e : k = N := by omega
              subst e
              have HF : Hid (PP.take k = PP) := List.take_of_length_le (by rw [HPL.out]; exact Nat.le_refl _)
              rw [HF.out] at HR2 HT2
              go_wp2_with fail
              go_end0
              exact ⟨rfl, x2, by rw [HZ.out]; exact HR2.out, by rw [HZ.out, HA.out]; exact HT2.out⟩
end
end Go.Proofs.Ytiehlkhpblldaaa
