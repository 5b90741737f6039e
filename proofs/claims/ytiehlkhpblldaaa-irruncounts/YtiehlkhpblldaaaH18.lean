/- The document's phis, walked. -/
import Derived.Test.YtiehlkhpblldaaaH17
set_option linter.unusedVariables false
set_option linter.unusedSimpArgs false
set_option maxRecDepth 20000
set_option maxHeartbeats 8000000
namespace Go.Proofs.Ytiehlkhpblldaaa
open Go.RowKit Go.Maps
section
variable {C : Cst} {W0 W W' : World} {r : Nat} {d d' : Ds} {v v' : Dv}
theorem pred_at {i : In} {b o : Nat} (h : InAt W0 b o i) {k : Nat} (hk : k < i.pred.length) : ∃ ab ao cap, i.pv = .slice (some ⟨ab, ao, none⟩) i.pred.length cap ∧ ab < W0.heap.size ∧ i.pred.length ≤ cap ∧ ∀ w', Below W0.heap.size W0 w' → ∀ j (hj : j < i.pred.length), w'.cell? ⟨ab, ao + j, none⟩ = some (.int .i64 i.pred[j]) := by
  obtain ⟨ao, cap, e, hf⟩ := h.2.2.p.form ic1
  obtain ⟨b1, o1, rfl, hb, hc, _⟩ := hf k hk
  refine ⟨b1, o1, cap, e, hb, hc, fun w' hw j hj => ?_⟩
  obtain ⟨b2, o2, e', _, _, hx⟩ := hf j hj
  injection e' with e'
  injection e' with e1 e2
  subst e1 e2
  have := hx w' hw 0 (by omega)
  simpa [icell] using this
/-- A row of words of one's own grows. -/
theorem DocM.grown {B n : Nat} {vv : Value} {xs : List Value} (h : DocM C W0 r W d v) (ho : W.ownsRow B 79 1 vv n xs) (hB : W0.heap.size ≤ B) (hg : W.grownBy W' vv.ownBlock) : DocM C W0 r W' d v := by
  rcases ho.2 with ⟨rfl, _⟩ | ⟨g, cap, cur, rfl, hgB, hh, _⟩
  · have K : Kept (fun _ => False) W W' := Kept.of_grown hg (fun k e => by cases e)
    exact h.on (K.below (Nat.le_refl _) (fun k e => e.elim))
  · have K : Kept (fun k => k = g) W W' := Kept.of_grown hg (fun k e => by injection e with e; exact e.symm)
    exact h.turn hh (Nat.le_trans hB hgB) (by decide) (by decide) K
theorem src1 {w : World} {a : Nat} {z : Int} (h : w.heap[a]? = some (.cells #[.int .u32 z] 79 (0, 0))) : Src ucel w (.slice (some ⟨a, 0, none⟩) 1 1) [z] := by
  refine .inr ⟨a, 0, 1, rfl, (Array.getElem?_eq_some_iff.1 h).1, Nat.le_refl _, fun j u hj => ?_⟩
  rw [Nat.zero_add, cell_of_row w a j _ 79 (0, 0) h]
  simpa [flat, ucel] using hj
theorem info79 : (Try.prog.info? 79).map (fun i => (i.zero, i.size, i.bytes)) = some (some (.int .u32 0), 1, 4) := by kernel_rfl
/-- One word more. -/
theorem push_word {w : World} {B n : Nat} {vv : Value} {xs : List Int} (ho : w.ownsRow B 79 1 vv n (flat ucel xs)) (hn : xs.length = n) (hB : B ≤ w.heap.size) (z : Int) (hl : n ≤ 1048576) : ∃ v' w', (∀ ty, (Builtin.append_ #[70, 70] ty #[vv, .slice (some ⟨w.heap.size, 0, none⟩) 1 1]).run Try.prog (w.alloc (.cells #[.int .u32 z] 79)) = .ok v' w') ∧ w'.ownsRow B 79 1 v' (n + 1) (flat ucel (xs ++ [z])) ∧ (w.alloc (.cells #[.int .u32 z] 79)).grownBy w' vv.ownBlock := by
  subst hn
  have ho' : Own 79 1 ucel (w.alloc (.cells #[.int .u32 z] 79)) B vv xs := (Kept.alloc (Kept.rfl (fun _ => False) w) _).owns ho (fun _ _ e => e)
  have hs := src1 (heap_alloc_new w (.cells #[.int .u32 z] 79))
  have := fun ty => append_own uc1 (fun x u hu => by simp [ucel] at hu; subst hu; rfl) Try.underlying70 info79 rfl (by decide) ho' hs (by simp; omega) (by simp; unfold maxLen; omega) (by simp; omega) ty
  obtain ⟨v', w', h1, h2, h3, _⟩ := this 0
  refine ⟨v', w', fun ty => h1, ?_, h3⟩
  have h2' : w'.ownsRow B 79 1 v' (xs ++ [z]).length (flat ucel (xs ++ [z])) := h2
  rw [List.length_append] at h2'
  exact h2'
theorem phN_no : ∀ (l : List In), phN l < l.length → (l.getD (phN l) in0).op ≠ 12
  | [], h => by simp [phN] at h
  | x :: l, h => by
    unfold phN at h ⊢
    by_cases e : x.op = 12
    · rw [if_pos e] at h ⊢
      have := phN_no l (by simpa using h)
      simpa [List.getD] using this
    · rw [if_neg e]
      simpa [List.getD] using e
theorem setsL_len : ∀ (q : List (Nat × Int)) (l : List Int), (setsL l q).length = l.length
  | [], l => rfl
  | y :: q, l => by
    have := setsL_len q (l.set y.1 y.2)
    unfold setsL at *
    rw [List.foldl_cons, this, List.length_set]
theorem setsL_step (l : List Int) (PP : List (Nat × Int)) {m a : Nat} {z : Int} (h : m < PP.length) (hp : PP[m] = (a, z)) : setsL l (PP.take (m + 1)) = (setsL l (PP.take m)).set a z := by
  unfold setsL
  rw [take_snoc _ _ h, List.foldl_append, hp]
  rfl
theorem RegM.set {b : Nat} {l : List Int} (h : RegM W0 W b l) (a : Nat) (z : Int) : RegM W0 (W.setCell ⟨b, a, none⟩ (.int .u32 z)) b (l.set a z) := by
  refine ⟨h.hb, ?_⟩
  rw [heap_setCell_same W b a _ 79 _ h.rc, List.setIfInBounds_toArray]
  have : (flat ucel l).set a (.int .u32 z) = flat ucel (l.set a z) := by
    have e : ∀ q : List Int, flat ucel q = q.map (fun n => .int .u32 n) := fun q => by
      induction q with
      | nil => rfl
      | cons x q ih => rw [flat_cons, ih]; rfl
    rw [e, e, List.map_set]
  rw [this]
/-- The midst of the last loop. -/
structure Ph3 (C : Cst) (W0 W : World) (r rb : Nat) (d : Ds) (v : Dv) (l : List Int) (f : Int) (b : Bl) (vv : Value) (m : Nat) (w : World) : Prop where
  doc : DocM C W0 r w { d with fuel := d.fuel - phN b.code } v
  reg : RegM W0 w rb (setsL l ((phiP l f b.code).take m))
  box : w.heap[W.heap.size]? = some (.cells (Bl.cells b).toArray 54 (0, 0))
  row : w.ownsRow (W.heap.size + 1) 79 1 vv (phN b.code) (flat ucel (valsK l f b.code (phN b.code)))
  kept : Kept (fun q => q = r ∨ q = rb) W w
/-- The midst of the first loop. -/
structure PhMid (C : Cst) (W0 W : World) (r rb : Nat) (d : Ds) (v : Dv) (l : List Int) (f : Int) (b : Bl) (k : Nat) (vv : Value) (w : World) : Prop where
  doc : DocM C W0 r w { d with fuel := d.fuel - k } v
  reg : RegM W0 w rb l
  box : w.heap[W.heap.size]? = some (.cells (Bl.cells b).toArray 54 (0, 0))
  row : w.ownsRow (W.heap.size + 1) 79 1 vv k (flat ucel (valsK l f b.code k))
  kept : Kept (fun q => q = r) W w
  fu : k = 0 ∨ (k : Int) ≤ d.fuel
theorem phis53 {rb : Nat} {l : List Int} {b : Bl} {f : Int} (h : DocM C W0 r W d v) (hR : RegM W0 W rb l) (hrb : rb ≠ r) (hB : Bl.ok W0 b) (hl : WordsOk l) (hP : ∀ k (hk : k < b.code.length), k < phN b.code → PhiD l.length b.code[k]) (hfu : d.fuel ≤ 32768) (hN : phN b.code ≤ 65536) :
    Calls Try.prog 53 #[.pointer (some ⟨r, 0, none⟩), b.val, .int .i64 f, .slice (some ⟨rb, 0, none⟩) l.length l.length] W fun e w' => e = .returned (.bool (phisOk d (phN b.code))) ∧ DocM C W0 r w' (phisD d (phN b.code)) v ∧ RegM W0 w' rb (phisL d l f b.code) ∧ Kept (fun q => q = r ∨ q = rb) W w' := by
  have H := hid' h
  have HR := hid' hR
  have HB := hid' hB
  have HP := hid' hP
  obtain ⟨co, ccap, ec⟩ := hB.c.len
  obtain ⟨to, tcap, et⟩ := hB.t.len
  have hbv : b.val = .agg #[.slice co b.code.length ccap, .int .i64 b.en, .int .i64 b.arg, .slice to b.to.length tcap] := by unfold Bl.val; rw [ec, et]
  have hbc : (.cells (Bl.cells b).toArray 54 : Obj) = .cells #[.slice co b.code.length ccap, .int .i64 b.en, .int .i64 b.arg, .slice to b.to.length tcap] 54 := by unfold Bl.cells; rw [ec, et]
  have hcl := hB.cl
  unfold big at hcl
  rw [hbv]
  have HBC := hid' hbc
  have HEC := hid' ec
  have hrlt : rb < W.heap.size := (Array.getElem?_eq_some_iff.1 hR.rc).1
  have hrl := h.lt
  clear h hR hB hP ec et hbv hbc
  go_enter Try.func53, Try.ntmps53
  go_wp2
  have H0 : Hid (PhMid C W0 W r rb d v l f b 0 (.slice (some ⟨W.heap.size + 1, 0, none⟩) 0 0) ((W.alloc (.cells #[.slice co b.code.length ccap, .int .i64 b.en, .int .i64 b.arg, .slice to b.to.length tcap] 54)).alloc (.cells #[] 79))) := by
    rw [← HBC.out]
    have b1 := below2 W (.cells (Bl.cells b).toArray 54) (.cells #[] 79)
    refine ⟨?_, ⟨HR.out.hb, by rw [b1.block _ hrlt]; exact HR.out.rc⟩, ?_, ?_, Kept.of_below b1, .inl rfl⟩
    · have := H.out.on b1
      simpa using this
    · rw [Below.heap_alloc _ _ _ (by simp)]
      exact heap_alloc_new _ _
    · refine ⟨by simp [valsK, flat], .inr ⟨W.heap.size + 1, 0, #[], rfl, Nat.le_refl _, ?_, Nat.le_refl _, Nat.zero_le _, by simp, by simp [valsK, flat]⟩⟩
      have := heap_alloc_new (W.alloc (.cells (Bl.cells b).toArray 54)) (.cells #[] 79)
      rwa [show (W.alloc (.cells (Bl.cells b).toArray 54)).heap.size = W.heap.size + 1 by simp] at this
  generalize (W.alloc (.cells #[.slice co b.code.length ccap, .int .i64 b.en, .int .i64 b.arg, .slice to b.to.length tcap] 54)).alloc (.cells #[] 79) = w0 at *
  go_loopw [9, 10] (fun vv i wr => ∃ k : Nat, k ≤ phN b.code ∧ i = .int .i64 k ∧ PhMid C W0 W r rb d v l f b k vv wr) (fun _ i _ => b.code.length - (intOf i).toNat)
  case atStart => exact ⟨0, Nat.zero_le _, rfl, H0.out⟩
  case round =>
    obtain ⟨k, hk, rfl, hM⟩ := hrel
    have HM := hid' hM
    have hph := phN_le b.code
    obtain ⟨cv0, hcode⟩ := box_code hM.box hM.doc.below HB.out
    rw [HEC.out] at cv0
    have HC := hid' hcode
    clear hM hcode H0
    by_cases hlt : k < phN b.code
    · have hkl : k < b.code.length := by omega
      have hop := phN_yes b.code k hkl hlt
      obtain ⟨ib, io, cap, ecv, hcap, hin⟩ := HC.out k hkl
      rw [HEC.out] at ecv
      injection ecv with e1 e2 e3
      subst e1 e3
      have hy := in_cells (hin.2.1 wr HM.out.doc.below)
      rw [hop] at hy
      have y0 := hy.1
      have hki : (k : Int) < b.code.length := by omega
      have hkc : (k : Int) < ccap := by omega
      have h54 := spend54 HM.out.doc (by dsimp only; have := HM.out.fu; omega)
      have HIN := hid' hin
      clear hy hin
      by_cases g : 0 < d.fuel - k
      · rw [decide_eq_true (p := 0 < ({ d with fuel := d.fuel - (k : Int) } : Ds).fuel) g] at h54
        have hS : spendD { d with fuel := d.fuel - (k : Int) } = { d with fuel := d.fuel - ((k + 1 : Nat) : Int) } := by
          unfold spendD
          rw [if_neg (show ¬ d.fuel - (k : Int) ≤ 0 by omega)]
          have : d.fuel - (k : Int) - 1 = d.fuel - ((k + 1 : Nat) : Int) := by omega
          dsimp only
          rw [this]
        rw [hS] at h54
        go_wp2_with (go_at_call 54; refine h54.mono ?_; rintro e1 w5 ⟨rfl, hD5, hK5⟩; have HD5 := hid' hD5; have HK5 := hid' hK5; clear hD5 hK5)
        clear y0 cv0
        obtain ⟨ao, acap, ea⟩ := HIN.out.2.2.a.len
        obtain ⟨po, pcap, ep⟩ := HIN.out.2.2.p.len
        have hy5 := in_cells (HIN.out.2.1 w5 HD5.out.below)
        have y2 := hy5.2.2.1
        have y6 := hy5.2.2.2.2.2.2
        rw [ea] at y2
        rw [ep] at y6
        have hbx5 : w5.heap[W.heap.size]? = some (.cells (Bl.cells b).toArray 54 (0, 0)) := by
          rw [HK5.out.block _ (Array.getElem?_eq_some_iff.1 HM.out.box).1 (by omega)]
          exact HM.out.box
        have cv5 : w5.cell? ⟨W.heap.size, 0, none⟩ = some (.slice (some ⟨ib, io, none⟩) b.code.length ccap) := by
          rw [cell_of_row w5 _ 0 _ 54 (0, 0) hbx5, ← HEC.out]
          rfl
        have HR5 : Hid (RegM W0 w5 rb l) := HM.out.reg.kept HK5.out hrb
        have hpd := HP.out k hkl hlt
        have HPD := hid' hpd
        have HBX5 := hid' hbx5
        have hal := HIN.out.2.2.al
        have hpl := HIN.out.2.2.pl
        unfold big at hal hpl
        have hpn : (b.code[k]).args.length = (b.code[k]).pred.length := hpd.l
        have HEA := hid' ea
        have HEP := hid' ep
        clear hy5 hbx5 hpd ea ep
        generalize hI : b.code[k] = I at *
        go_loopw [11, 12] (fun z i wq => ∃ m : Nat, m ≤ I.pred.length ∧ i = .int .i64 m ∧ z = .int .u32 (phiK l f I m) ∧ wq = w5) (fun _ i _ => I.pred.length - (intOf i).toNat)
        case atStart => exact ⟨0, Nat.zero_le _, rfl, rfl, rfl⟩
        case round =>
          obtain ⟨m, hm, rfl, rfl, rfl⟩ := hrel
          by_cases hmp : m < I.pred.length
          · have hma : m < I.args.length := by omega
            obtain ⟨pb, po', pcap', ep', _, hpc, hpx⟩ := pred_at HIN.out hmp
            obtain ⟨ab, ao', acap', ea', _, hac, hax⟩ := args_at HIN.out hma
            rw [HEP.out] at ep'
            rw [HEA.out] at ea'
            injection ep' with e1 e2 e3
            injection ea' with e4 e5 e6
            subst e1 e3 e4 e6
            have pm := hpx _ HD5.out.below m hmp
            have am := hax _ HD5.out.below m hma
            have hgp : I.pred.getD m 0 = I.pred[m] := by simp [List.getD, hmp]
            have hga : I.args.getD m 0 = I.args[m] := by simp [List.getD, hma]
            have hra := HPD.out.a m hma
            obtain ⟨q, hq⟩ : ∃ q : Nat, I.args[m] = q := ⟨I.args[m].toNat, by rw [hga] at hra; omega⟩
            rw [hga, hq] at hra
            have hql : q < l.length := by omega
            obtain ⟨rc, _⟩ := HR5.out.cell hql
            have hKS := phiK_succ l f I m
            rw [hgp, hga, hq, Int.toNat_natCast] at hKS
            rw [hq] at am
            have HKS := hid' hKS
            have hmi : (m : Int) < I.pred.length := by omega
            have hmc : (m : Int) < pcap := by omega
            have hmi2 : (m : Int) < I.args.length := by omega
            have hmc2 : (m : Int) < acap := by omega
            have hqi : (q : Int) < l.length := by omega
            clear hpx hax hKS hgp hga hq
            generalize I.pred[m] = pq at *
            by_cases ge : pq = f
            · subst ge
              go_wp2
              refine ⟨⟨m + 1, by omega, by go_num, by rw [HKS.out, if_pos rfl]; simp [List.getD, hql], trivial⟩, ?_⟩
              simp [intOf]
              omega
            · have ge' : (pq == f) = false := by simp [ge]
              go_wp2
              refine ⟨⟨m + 1, by omega, by go_num, by rw [HKS.out, if_neg ge], trivial⟩, ?_⟩
              simp [intOf]
              omega
          · have e : m = I.pred.length := by omega
            subst e
            have hV : phiK l f I I.pred.length = phiV l f I := rfl
            rw [hV]
            clear hV
            have hrow5 := own_ty HM.out.row HM.out.doc.rc (by decide) HK5.out
            have hsz : W.heap.size + 1 ≤ wr.heap.size := Nat.le_trans (Array.getElem?_eq_some_iff.1 HBX5.out).1 (Nat.le_refl _)
            obtain ⟨v7, w7, hrun, hrow7, hg7⟩ := push_word hrow5 (valsK_len _ _ _ _) hsz (phiV l f I) (by omega)
            have hvs : valsK l f b.code (k + 1) = valsK l f b.code k ++ [phiV l f I] := by
              rw [valsK_succ]
              have : b.code.getD k in0 = I := by rw [← hI]; simp [List.getD, hkl]
              rw [this]
            rw [← hvs] at hrow7
            have hD6 := HD5.out.on (below1 wr (.cells #[.int .u32 (phiV l f I)] 79))
            have hrow6 := (Kept.alloc (Kept.rfl (fun _ => False) wr) (.cells #[.int .u32 (phiV l f I)] 79)).owns hrow5 (fun _ _ e => e)
            have hD7 := hD6.grown hrow6 (Nat.le_trans H.out.below.size (by omega)) hg7
            have K7 : Kept (fun q => W.heap.size + 1 ≤ q) wr w7 := by
              refine (Kept.alloc (Kept.rfl _ wr) (.cells #[.int .u32 (phiV l f I)] 79)).trans (Kept.of_grown hg7 (fun q e => ?_))
              rcases hrow5.2 with ⟨e1, _⟩ | ⟨g, cap, cur, e1, hgB, _⟩
              · rw [e1] at e; cases e
              · rw [e1] at e; injection e with e; subst e; exact hgB
            have HMN : Hid (PhMid C W0 W r rb d v l f b (k + 1) v7 w7) := by
              refine ⟨hD7, HR5.out.kept K7 (by omega), ?_, hrow7, ?_, .inr (by omega)⟩
              · rw [K7.block _ (Array.getElem?_eq_some_iff.1 HBX5.out).1 (by omega)]
                exact HBX5.out
              · exact (HM.out.kept.ahead HK5.out (fun _ _ e => e)).ahead K7 (fun i hi e => by omega)
            clear hrow5 hrow7 hg7 hD6 hrow6 hD7 K7 hvs
            generalize phiV l f I = pv at *
            go_wp2_with (at_builtin; refine wpList_append_run rfl _ _ rfl _ _ _ rfl rfl (hrun _) ?_)
            refine ⟨⟨k + 1, by omega, by go_num, HMN.out⟩, ?_⟩
            simp [intOf]
            omega
      · rw [decide_eq_false (p := 0 < ({ d with fuel := d.fuel - (k : Int) } : Ds).fuel) g] at h54
        have hfk := HM.out.fu
        have hno : phisOk d (phN b.code) = false := decide_eq_false (by omega)
        have hS : spendD { d with fuel := d.fuel - (k : Int) } = phisD d (phN b.code) := by
          unfold spendD phisD
          rw [if_pos (show d.fuel - (k : Int) ≤ 0 by omega), hno]
          have : d.fuel - (k : Int) = min d.fuel 0 := by omega
          dsimp only
          rw [this]
          rfl
        rw [hS] at h54
        have hLL : phisL d l f b.code = l := by unfold phisL; rw [hno]; rfl
        have HNO := hid' hno
        have HLL := hid' hLL
        clear hS hLL hno
        go_wp2_with (go_at_call 54; refine h54.mono ?_; rintro e1 w5 ⟨rfl, hD5, hK5⟩; have HD5 := hid' hD5; have HK5 := hid' hK5; clear hD5 hK5)
        go_ret
        refine ⟨by simp [HNO.out], HD5.out, by rw [HLL.out]; exact HM.out.reg.kept HK5.out hrb, (HM.out.kept.ahead HK5.out (fun _ _ e => e)).mono (fun q _ e => .inl e)⟩
    · have e : k = phN b.code := by omega
      subst e
      have hok : phisOk d (phN b.code) = true := decide_eq_true HM.out.fu
      have HOK := hid' hok
      obtain ⟨vo, vcap, ev, hvc⟩ := own_len HM.out.row
      have hni : ((phN b.code : Nat) : Int) ≤ b.code.length := by omega
      clear hok
      have HEV := hid' ev
      subst ev
      clear hvc
      by_cases hend : phN b.code = b.code.length
      · have hx : ¬ ((phN b.code : Nat) : Int) < b.code.length := by omega
        have H3 : Hid (Ph3 C W0 W r rb d v l f b (.slice vo (phN b.code) vcap) 0 wr) := by
          rw [← HEV.out]
          exact ⟨HM.out.doc, HM.out.reg, HM.out.box, HM.out.row, HM.out.kept.mono (fun q _ e => .inl e)⟩
        go_wp2
        go_loopw [13] (fun i wq => ∃ m : Nat, m ≤ phN b.code ∧ i = .int .i64 m ∧ Ph3 C W0 W r rb d v l f b (.slice vo (phN b.code) vcap) m wq) (fun i _ => phN b.code - (intOf i).toNat)
        case atStart => exact ⟨0, Nat.zero_le _, rfl, H3.out⟩
        case round =>
          obtain ⟨m, hm, rfl, h3⟩ := hrel
          have HM3 := hid' h3
          clear h3 H3
          by_cases hlt3 : m < phN b.code
          · have hml : m < b.code.length := by omega
            obtain ⟨ib2, io2, cap2, ecv2, hcap2, hin2⟩ := HC.out m hml
            have cq0 : wr.cell? ⟨W.heap.size, 0, none⟩ = some (.slice (some ⟨ib2, io2, none⟩) b.code.length cap2) := by
              rw [cell_of_row wr _ 0 _ 54 (0, 0) HM3.out.box, ← ecv2]
              rfl
            have dq0 := (in_cells (hin2.2.1 wr HM3.out.doc.below)).2.1
            have hpd := HP.out m hml hlt3
            obtain ⟨a, ha⟩ : ∃ a : Nat, (b.code[m]).dst = a := ⟨(b.code[m]).dst.toNat, by have := hpd.d; omega⟩
            have hal : a < l.length := by have := hpd.d; omega
            rw [ha] at dq0
            rcases HM3.out.row.2 with ⟨e1, e2⟩ | ⟨vb, cp, cur, e1, hvb, _⟩
            · omega
            injection e1 with e1 _ e3
            subst e1 e3
            have vq0 := World.ownsRow.cellAt HM3.out.row m (by omega)
            have hvl : (valsK l f b.code (phN b.code))[m]? = some (phiV l f (b.code.getD m in0)) := by simp [valsK, hlt3]
            have hfl : (flat ucel (valsK l f b.code (phN b.code)))[m]? = some (.int .u32 (phiV l f (b.code.getD m in0))) := by
              have := flat_get uc1 (valsK l f b.code (phN b.code)) m 0 (by rw [valsK_len]; exact hlt3) (by decide)
              simp only [Nat.mul_one, Nat.add_zero] at this
              rw [this]
              have hg := (List.getElem?_eq_some_iff.1 hvl).2
              rw [hg]
              rfl
            rw [hfl] at vq0
            have hPP : m < (phiP l f b.code).length := by simp [phiP]; exact hlt3
            have hPm : (phiP l f b.code)[m] = (a, phiV l f (b.code.getD m in0)) := by
              have hgd : b.code.getD m in0 = b.code[m] := by simp [List.getD, hml]
              simp only [phiP, List.getElem_map, List.getElem_range, hgd, ha, Int.toNat_natCast]
            have HST := hid' (setsL_step l (phiP l f b.code) hPP hPm)
            have hLn := setsL_len ((phiP l f b.code).take m) l
            have hreg := HM3.out.reg
            obtain ⟨rc3, _⟩ := hreg.cell (k := a) (by rw [hLn]; exact hal)
            have rf3 : ∀ q : After wr, q.1.frozen? ⟨rb, a, none⟩ = false := fun q => by
              have hlt := (Array.getElem?_eq_some_iff.1 hreg.rc).1
              exact frozen_of_row q.1 rb a _ 79 (by rw [q.2.block rb hlt]; exact hreg.rc)
            have rq3 : ∀ q : After wr, q.1.cell? ⟨rb, a, none⟩ = some (.int .u32 ((setsL l ((phiP l f b.code).take m)).getD a 0)) := fun q => keep_cell rc3 q.2
            have cq : ∀ q : After wr, q.1.cell? ⟨W.heap.size, 0, none⟩ = some (.slice (some ⟨ib2, io2, none⟩) b.code.length cap2) := fun q => keep_cell cq0 q.2
            have dq : ∀ q : After wr, q.1.cell? ⟨ib2, io2 + m * 7 + 1, none⟩ = some (.int .i64 a) := fun q => keep_cell dq0 q.2
            have vq : ∀ q : After wr, q.1.cell? ⟨vb, m, none⟩ = some (.int .u32 (phiV l f (b.code.getD m in0))) := fun q => keep_cell vq0 q.2
            have hne := after_some wr
            have h1i : (m : Int) < b.code.length := by omega
            have h2i : (m : Int) < phN b.code := by omega
            have h3i : (a : Int) < l.length := by omega
            have h4i : (m : Int) < cap2 := by omega
            clear hin2 hpd ha dq0 cq0 vq0 hvl hfl hPP hPm rc3 hLn hreg ecv2
            generalize phiV l f (b.code.getD m in0) = zv at *
            go_wp2
            refine region_after 12 mixed (by kernel_rfl) ?_
            simp only [List.take_succ_cons, List.take_zero, List.drop_succ_cons, List.drop_zero]
            repeat (first | go_big_quiet_step (fail) | quiet_step (fail))
            refine wpQuiet_nil ?_
            intro w6 hb6
            clear cq dq vq rq3
            have f6 := rf3 ⟨w6, hb6⟩
            dsimp only at f6
            have HD6 := hid' (HM3.out.doc.on hb6)
            have HG6 : Hid (RegM W0 w6 rb (setsL l ((phiP l f b.code).take m))) := HM3.out.reg.kept (S := fun _ => False) (Kept.of_below hb6) (fun e => e)
            have x6 : w6.cell? ⟨rb, a, none⟩ = some (.int .u32 ((setsL l ((phiP l f b.code).take m)).getD a 0)) := (HG6.out.cell (k := a) (by rw [setsL_len]; exact hal)).1
            have HK6 : Hid (Kept (fun q => q = r ∨ q = rb) W (w6.setCell ⟨rb, a, none⟩ (.int .u32 zv))) := (HM3.out.kept.ahead (Kept.of_below (S := fun _ => False) hb6) (fun _ _ e => e.elim)).ahead (setK w6 rb a (.int .u32 zv)) (fun i _ e => .inr e)
            have hb6' := Kept.of_below (S := fun _ => False) hb6
            have HN3 : Hid (Ph3 C W0 W r rb d v l f b (.slice (some ⟨vb, 0, none⟩) (phN b.code) vcap) (m + 1) (w6.setCell ⟨rb, a, none⟩ (.int .u32 zv))) := by
              refine ⟨HD6.out.turn HG6.out.rc HG6.out.hb (by decide) (by decide) (setK _ _ _ _), by rw [HST.out]; exact HG6.out.set a zv, ?_, ?_, HK6.out⟩
              · exact (hb6'.block _ (Array.getElem?_eq_some_iff.1 HM3.out.box).1 (fun e => e)).trans HM3.out.box |> fun e => kept_blk e HG6.out.rc (by decide) (setK _ _ _ _)
              · exact (setK w6 rb a (.int .u32 zv)).owns (hb6'.owns HM3.out.row (fun _ _ e => e)) (fun g hg e => by have hg' : vb = g := (by simpa [Value.ownBlock] using hg); omega)
            clear rf3
            go_wp2
            refine ⟨⟨m + 1, by omega, by go_num, HN3.out⟩, ?_⟩
            simp [intOf]
            omega
          · have e : m = phN b.code := by omega
            subst e
            have hfin := HM3.out.reg
            rw [List.take_of_length_le (by simp [phiP])] at hfin
            have HFI := hid' hfin
            clear hfin
            go_wp2
            go_ret
            refine ⟨by simp [HOK.out], by unfold phisD; rw [HOK.out]; exact HM3.out.doc, by unfold phisL; rw [HOK.out]; exact HFI.out, HM3.out.kept⟩
      · have hkl : phN b.code < b.code.length := by omega
        have hop := phN_no b.code hkl
        obtain ⟨ib, io, cap, ecv, hcap, hin⟩ := HC.out _ hkl
        rw [HEC.out] at ecv
        injection ecv with e1 e2 e3
        subst e1 e3
        have y0 := (in_cells (hin.2.1 wr HM.out.doc.below)).1
        have hgd : b.code.getD (phN b.code) in0 = b.code[phN b.code] := by simp [List.getD, hkl]
        rw [hgd] at hop
        have hop' : ((b.code[phN b.code]).op == 12) = false := by simp [hop]
        generalize (b.code[phN b.code]).op = opv at *
        have hki : ((phN b.code : Nat) : Int) < b.code.length := by omega
        have hkc : ((phN b.code : Nat) : Int) < ccap := by omega
        clear hin hgd
        have H3 : Hid (Ph3 C W0 W r rb d v l f b (.slice vo (phN b.code) vcap) 0 wr) := by
          rw [← HEV.out]
          exact ⟨HM.out.doc, HM.out.reg, HM.out.box, HM.out.row, HM.out.kept.mono (fun q _ e => .inl e)⟩
        go_wp2
        go_loopw [13] (fun i wq => ∃ m : Nat, m ≤ phN b.code ∧ i = .int .i64 m ∧ Ph3 C W0 W r rb d v l f b (.slice vo (phN b.code) vcap) m wq) (fun i _ => phN b.code - (intOf i).toNat)
        case atStart => exact ⟨0, Nat.zero_le _, rfl, H3.out⟩
        case round =>
          obtain ⟨m, hm, rfl, h3⟩ := hrel
          have HM3 := hid' h3
          clear h3 H3
          by_cases hlt3 : m < phN b.code
          · have hml : m < b.code.length := by omega
            obtain ⟨ib2, io2, cap2, ecv2, hcap2, hin2⟩ := HC.out m hml
            have cq0 : wr.cell? ⟨W.heap.size, 0, none⟩ = some (.slice (some ⟨ib2, io2, none⟩) b.code.length cap2) := by
              rw [cell_of_row wr _ 0 _ 54 (0, 0) HM3.out.box, ← ecv2]
              rfl
            have dq0 := (in_cells (hin2.2.1 wr HM3.out.doc.below)).2.1
            have hpd := HP.out m hml hlt3
            obtain ⟨a, ha⟩ : ∃ a : Nat, (b.code[m]).dst = a := ⟨(b.code[m]).dst.toNat, by have := hpd.d; omega⟩
            have hal : a < l.length := by have := hpd.d; omega
            rw [ha] at dq0
            rcases HM3.out.row.2 with ⟨e1, e2⟩ | ⟨vb, cp, cur, e1, hvb, _⟩
            · omega
            injection e1 with e1 _ e3
            subst e1 e3
            have vq0 := World.ownsRow.cellAt HM3.out.row m (by omega)
            have hvl : (valsK l f b.code (phN b.code))[m]? = some (phiV l f (b.code.getD m in0)) := by simp [valsK, hlt3]
            have hfl : (flat ucel (valsK l f b.code (phN b.code)))[m]? = some (.int .u32 (phiV l f (b.code.getD m in0))) := by
              have := flat_get uc1 (valsK l f b.code (phN b.code)) m 0 (by rw [valsK_len]; exact hlt3) (by decide)
              simp only [Nat.mul_one, Nat.add_zero] at this
              rw [this]
              have hg := (List.getElem?_eq_some_iff.1 hvl).2
              rw [hg]
              rfl
            rw [hfl] at vq0
            have hPP : m < (phiP l f b.code).length := by simp [phiP]; exact hlt3
            have hPm : (phiP l f b.code)[m] = (a, phiV l f (b.code.getD m in0)) := by
              have hgd : b.code.getD m in0 = b.code[m] := by simp [List.getD, hml]
              simp only [phiP, List.getElem_map, List.getElem_range, hgd, ha, Int.toNat_natCast]
            have HST := hid' (setsL_step l (phiP l f b.code) hPP hPm)
            have hLn := setsL_len ((phiP l f b.code).take m) l
            have hreg := HM3.out.reg
            obtain ⟨rc3, _⟩ := hreg.cell (k := a) (by rw [hLn]; exact hal)
            have rf3 : ∀ q : After wr, q.1.frozen? ⟨rb, a, none⟩ = false := fun q => by
              have hlt := (Array.getElem?_eq_some_iff.1 hreg.rc).1
              exact frozen_of_row q.1 rb a _ 79 (by rw [q.2.block rb hlt]; exact hreg.rc)
            have rq3 : ∀ q : After wr, q.1.cell? ⟨rb, a, none⟩ = some (.int .u32 ((setsL l ((phiP l f b.code).take m)).getD a 0)) := fun q => keep_cell rc3 q.2
            have cq : ∀ q : After wr, q.1.cell? ⟨W.heap.size, 0, none⟩ = some (.slice (some ⟨ib2, io2, none⟩) b.code.length cap2) := fun q => keep_cell cq0 q.2
            have dq : ∀ q : After wr, q.1.cell? ⟨ib2, io2 + m * 7 + 1, none⟩ = some (.int .i64 a) := fun q => keep_cell dq0 q.2
            have vq : ∀ q : After wr, q.1.cell? ⟨vb, m, none⟩ = some (.int .u32 (phiV l f (b.code.getD m in0))) := fun q => keep_cell vq0 q.2
            have hne := after_some wr
            have h1i : (m : Int) < b.code.length := by omega
            have h2i : (m : Int) < phN b.code := by omega
            have h3i : (a : Int) < l.length := by omega
            have h4i : (m : Int) < cap2 := by omega
            clear hin2 hpd ha dq0 cq0 vq0 hvl hfl hPP hPm rc3 hLn hreg ecv2
            generalize phiV l f (b.code.getD m in0) = zv at *
            go_wp2
            refine region_after 12 mixed (by kernel_rfl) ?_
            simp only [List.take_succ_cons, List.take_zero, List.drop_succ_cons, List.drop_zero]
            repeat (first | go_big_quiet_step (fail) | quiet_step (fail))
            refine wpQuiet_nil ?_
            intro w6 hb6
            clear cq dq vq rq3
            have f6 := rf3 ⟨w6, hb6⟩
            dsimp only at f6
            have HD6 := hid' (HM3.out.doc.on hb6)
            have HG6 : Hid (RegM W0 w6 rb (setsL l ((phiP l f b.code).take m))) := HM3.out.reg.kept (S := fun _ => False) (Kept.of_below hb6) (fun e => e)
            have x6 : w6.cell? ⟨rb, a, none⟩ = some (.int .u32 ((setsL l ((phiP l f b.code).take m)).getD a 0)) := (HG6.out.cell (k := a) (by rw [setsL_len]; exact hal)).1
            have HK6 : Hid (Kept (fun q => q = r ∨ q = rb) W (w6.setCell ⟨rb, a, none⟩ (.int .u32 zv))) := (HM3.out.kept.ahead (Kept.of_below (S := fun _ => False) hb6) (fun _ _ e => e.elim)).ahead (setK w6 rb a (.int .u32 zv)) (fun i _ e => .inr e)
            have hb6' := Kept.of_below (S := fun _ => False) hb6
            have HN3 : Hid (Ph3 C W0 W r rb d v l f b (.slice (some ⟨vb, 0, none⟩) (phN b.code) vcap) (m + 1) (w6.setCell ⟨rb, a, none⟩ (.int .u32 zv))) := by
              refine ⟨HD6.out.turn HG6.out.rc HG6.out.hb (by decide) (by decide) (setK _ _ _ _), by rw [HST.out]; exact HG6.out.set a zv, ?_, ?_, HK6.out⟩
              · exact (hb6'.block _ (Array.getElem?_eq_some_iff.1 HM3.out.box).1 (fun e => e)).trans HM3.out.box |> fun e => kept_blk e HG6.out.rc (by decide) (setK _ _ _ _)
              · exact (setK w6 rb a (.int .u32 zv)).owns (hb6'.owns HM3.out.row (fun _ _ e => e)) (fun g hg e => by have hg' : vb = g := (by simpa [Value.ownBlock] using hg); omega)
            clear rf3
            go_wp2
            refine ⟨⟨m + 1, by omega, by go_num, HN3.out⟩, ?_⟩
            simp [intOf]
            omega
          · have e : m = phN b.code := by omega
            subst e
            have hfin := HM3.out.reg
            rw [List.take_of_length_le (by simp [phiP])] at hfin
            have HFI := hid' hfin
            clear hfin
            go_wp2
            go_ret
            refine ⟨by simp [HOK.out], by unfold phisD; rw [HOK.out]; exact HM3.out.doc, by unfold phisL; rw [HOK.out]; exact HFI.out, HM3.out.kept⟩
end
end Go.Proofs.Ytiehlkhpblldaaa
