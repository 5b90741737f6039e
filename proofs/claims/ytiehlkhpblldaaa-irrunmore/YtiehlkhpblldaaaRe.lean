/- access: loads and stores. -/
import Derived.Test.YtiehlkhpblldaaaRd
namespace Go.Proofs.Ytiehlkhpblldaaa
open Go.RowKit Go.Maps
set_option linter.unusedVariables false
set_option linter.unusedSimpArgs false
section
variable {C : Cst} {W0 W W' : World} {r : Nat} {s s' : St} {x : Vs} {t : Tp}
def BytesOk (l : List Int) : Prop := ∀ i (h : i < l.length), 0 ≤ l[i] ∧ l[i] < 256
def adrF (l : List Rg) (no : Int) (i : In) : Int := (getR l (arg i 0) no + i.imm % 4294967296) % 4294967296
def partL (l : List Int) (o n : Nat) : List Int := (l.drop o).take n
theorem partL_len {l : List Int} {o n : Nat} (h : o + n ≤ l.length) : (partL l o n).length = n := by simp [partL]; omega
theorem partL_at {l : List Int} {o n k : Nat} (h : o + n ≤ l.length) (hk : k < (partL l o n).length) : (partL l o n)[k] = l[o + k]'(by rw [partL_len h] at hk; omega) := by simp [partL]
def accF (s : St) (c : Cl) (l : List Rg) (i : In) : St :=
  match atF s (adrF l c.no i) i.wide with
  | none => trapF s 5
  | some (st, o) =>
    if i.op = 6 then setS s c l i.dst.toNat (wordK (partL (if st then s.sk else s.gl) o i.wide.toNat) i.wide.toNat)
    else if st then { s with sk := putL s.sk o (layL (getR l (arg i 1) c.no) i.wide.toNat) } else { s with gl := putL s.gl o (layL (getR l (arg i 1) c.no) i.wide.toNat) }
/-- What the run's memory must be. -/
structure MemOk (s : St) : Prop where
  l1 : 8126464 ≤ s.low ∧ s.low ≤ 8388608
  l2 : s.sk.length ≤ 524288
  l3 : 8388608 - s.low ≤ s.sk.length
  g : s.gl.length ≤ 65536
  kb : BytesOk s.sk
  gb : BytesOk s.gl
structure Acc (l : List Rg) (i : In) : Prop where
  w : i.wide = 1 ∨ i.wide = 4
  len : 1 ≤ i.args.length
  a0 : 0 ≤ i.args.getD 0 0 ∧ i.args.getD 0 0 < l.length
  ld : i.op = 6 → 0 ≤ i.dst ∧ i.dst < l.length
  st : ¬ i.op = 6 → 2 ≤ i.args.length ∧ 0 ≤ i.args.getD 1 0 ∧ i.args.getD 1 0 < l.length
set_option maxRecDepth 20000 in
set_option maxHeartbeats 20000000 in
theorem access50 {c : Cl} {l : List Rg} {b o : Nat} {i : In} (h : RunM C W0 r W s x t) (T : Top C s x t c l) (hI : InAt W0 b o i) (hA : Acc l i) (hM : MemOk s) (hR : RegsOk l) (hl : (s.hidden.length + 1) * 24 ≤ 140737488355328) :
    Calls Try.prog 50 #[.pointer (some ⟨r, 0, none⟩), .pointer (some ⟨b, o, none⟩)] W fun e w' => e = .returned (.tuple #[]) ∧ ∃ x' l', RunM C W0 r w' (accF s c l i) x' t ∧ Top C (accF s c l i) x' t c l' := by
  have H := hid' h
  have HT := hid' T
  have HI := hid' hI
  have HAC := hid' hA
  have HM := hid' hM
  have HRG := hid' hR
  have hlen := hA.len
  obtain ⟨ab, ao, acap, ea, hab, hac, hargs⟩ := args_at hI (k := 0) (by omega)
  obtain ⟨k0, e0⟩ : ∃ k0 : Nat, i.args[0]'(by omega) = k0 := ⟨(i.args.getD 0 0).toNat, by have := hA.a0; simp [show 0 < i.args.length by omega] at this ⊢; omega⟩
  have q0 : arg i 0 = k0 := by simp [arg, show 0 < i.args.length by omega, e0]
  have hk0 : k0 < l.length := by have := hA.a0; simp [show 0 < i.args.length by omega, e0] at this; omega
  obtain ⟨n, hn⟩ : ∃ n : Nat, i.wide = n := ⟨i.wide.toNat, by rcases hA.w with e | e <;> rw [e] <;> rfl⟩
  have hn4 : 0 < n ∧ n ≤ 4 := by rcases hA.w with e | e <;> (rw [hn] at e; omega)
  have hadr : adrF l c.no i = (getR l k0 c.no + i.imm % 4294967296) % 4294967296 := by unfold adrF; rw [q0]
  have HACC : Hid (accF s c l i = match atF s ((getR l k0 c.no + i.imm % 4294967296) % 4294967296) n with
    | none => trapF s 5
    | some (st, o) =>
      if i.op = 6 then setS s c l i.dst.toNat (wordK (partL (if st then s.sk else s.gl) o n) n)
      else if st then { s with sk := putL s.sk o (layL (getR l (arg i 1) c.no) n) } else { s with gl := putL s.gl o (layL (getR l (arg i 1) c.no) n) }) := by
    unfold Hid accF
    rw [hadr, hn, Int.toNat_natCast]
  have F : Hid (∀ t1 : After W,
      (t1.1.cell? ⟨b, o, none⟩ = some (.int .i64 i.op) ∧ t1.1.cell? ⟨b, o + 1, none⟩ = some (.int .i64 i.dst) ∧ t1.1.cell? ⟨b, o + 2, none⟩ = some (.slice (some ⟨ab, ao, none⟩) i.args.length acap) ∧ t1.1.cell? ⟨b, o + 3, none⟩ = some (.int .i32 i.imm) ∧ t1.1.cell? ⟨b, o + 5, none⟩ = some (.int .i64 n)) ∧ t1.1.cell? ⟨ab, ao, none⟩ = some (.int .i64 k0) ∧
      (∀ k1 : Nat, (∃ h : 1 < i.args.length, i.args[1] = k1) → t1.1.cell? ⟨ab, ao + 1, none⟩ = some (.int .i64 k1)) ∧
      (Calls Try.prog 46 #[.pointer (some ⟨r, 0, none⟩), .int .i64 k0] t1.1 fun e w' => e = .returned (.int .u32 (getR l k0 c.no)) ∧ ∃ t' : After W, w' = t'.1)) := fun t1 => by
    have hb := below_on H.out.rows.below t1.2 H.out.rows.below.size
    have hc := in_cells (HI.out.2.1 t1.1 hb)
    have hr1 := H.out.on t1.2
    refine ⟨⟨hc.1, hc.2.1, by rw [hc.2.2.1, ea], hc.2.2.2.1, by rw [hc.2.2.2.2.2.1, hn]⟩, ?_, ?_, Calls.after t1 (get46 hr1 HT.out hk0)⟩
    · have := hargs t1.1 hb 0 (by omega)
      rw [e0] at this
      simpa using this
    · rintro k1 ⟨h1, e1⟩
      have := hargs t1.1 hb 1 h1
      rw [e1] at this
      simpa using this
  have hg0 := hR.get hk0 c.no
  have himm : (i.imm : Int) % 4294967296 % 4294967296 = i.imm % 4294967296 := by omega
  generalize getR l k0 c.no = g0 at *
  have ha32 : 0 ≤ (g0 + i.imm % 4294967296) % 4294967296 ∧ (g0 + i.imm % 4294967296) % 4294967296 < 4294967296 := by omega
  have H70 : Hid (∀ w6, Below W.heap.size W w6 → Calls Try.prog 70 #[.pointer (some ⟨r, 6, none⟩), .int .u32 ((g0 + i.imm % 4294967296) % 4294967296), .int .i64 n] w6 fun e w' => ∃ v, e = .returned v ∧ AtR s x ((g0 + i.imm % 4294967296) % 4294967296) n v ∧ w' = w6) := fun w6 hb6 => at70 (H.out.on hb6) ha32 hn4 ⟨by have := HM.out.l1; omega, HM.out.l1.2⟩ (by have := HM.out.l2; omega) HM.out.l3 HM.out.g
  have y0 := fun q => (F.out q).1.1
  have y1 := fun q => (F.out q).1.2.1
  have y2 := fun q => (F.out q).1.2.2.1
  have y3 := fun q => (F.out q).1.2.2.2.1
  have y5 := fun q => (F.out q).1.2.2.2.2
  have ya0 := fun q => (F.out q).2.1
  have K46 := fun q => (F.out q).2.2.2
  have hne := after_some W
  clear hargs e0 q0 hadr ea h T hI hA hM hR hn
  generalize hAD : (g0 + i.imm % 4294967296) % 4294967296 = AD at *
  go_enter Try.func50, Try.ntmps50
  go_wp2
  refine region_after 21 mixed (by kernel_rfl) ?_
  simp only [List.take_succ_cons, List.take_zero, List.drop_succ_cons, List.drop_zero]
  repeat (first | go_big_quiet_step (with_reducible exact K46 _) | quiet_step (with_reducible exact K46 _))
  refine wpQuiet_nil ?_
  intro w6 hb6
  have z0 := (F.out ⟨w6, hb6⟩).1.1
  dsimp only at z0
  have HR6 := hid' (H.out.on hb6)
  have HB6 := hid' hb6
  clear y0 y1 y2 y3 y5 ya0 K46
  have h70 := H70.out w6 hb6
  clear hb6 H70
  rcases hAT : atF s AD n with _ | ⟨st, o2⟩
  · have HA : Hid (∀ v, AtR s x AD n v → v = .slice none 0 0) := by
      rintro v (⟨_, e⟩ | ⟨o3, kb, cap, cap', e, _⟩ | ⟨o3, kb, cap, cap', e, _⟩)
      · exact e
      · rw [hAT] at e; cases e
      · rw [hAT] at e; cases e
    have HZ : Hid (accF s c l i = trapF s 5) := by unfold Hid; rw [HACC.out, hAT]
    have q1 := fun W => Go.Lib.run_eql_slice_nil (P := Try.prog) W 59 5 none 0 0 0 0 Try.underlying59
    simp only [Option.isNone_none] at q1
    clear HACC hAT
    go_wp2_with (first
      | (go_at_call 24; refine (trap24 HR6.out 5).mono ?_; rintro e8 w8 ⟨rfl, hR8⟩)
      | (go_at_call 70; refine h70.mono ?_; rintro e7 w7 ⟨v, rfl, hv, rfl⟩; obtain rfl := HA.out v hv))
    exact bodyPost_ret (v := .tuple #[]) (by simp [results, Try.results50]) rfl ⟨rfl, x, l, by rw [HZ.out]; exact hR8, by rw [HZ.out]; exact HT.out.same rfl rfl⟩
  · cases st
    · -- gl
      have HA : Hid (∀ v, AtR s x AD n v → ∃ kb cap cap', v = .slice (some ⟨kb, o2, none⟩) n cap' ∧ x.gv = .slice (some ⟨kb, 0, none⟩) s.gl.length cap ∧ o2 + n ≤ s.gl.length) := by
        rintro v (⟨e, _⟩ | ⟨o3, kb, cap, cap', e, hv, hk, hl⟩ | ⟨o3, kb, cap, cap', e, hv, hk, hl⟩) <;> rw [hAT] at e
        · cases e
        · injection e with e; injection e with e; cases e
        · injection e with e; injection e with _ e; subst e; exact ⟨kb, cap, cap', hv, hk, hl⟩
      by_cases g6 : i.op = 6
      · obtain ⟨d, hd⟩ : ∃ d : Nat, i.dst = d := ⟨i.dst.toNat, by have := (HAC.out.ld g6).1; omega⟩
        have hdl : d < l.length := by have := (HAC.out.ld g6).2; omega
        have HZ : Hid (accF s c l i = setS s c l d (wordK (partL s.gl o2 n) n)) := by unfold Hid; rw [HACC.out, hAT]; simp only [g6, if_true, hd, Int.toNat_natCast]; rfl
        rw [g6] at z0
        have HD := hid' hd
        clear HACC hAT g6 hd
        go_wp2_with (go_at_call 70; refine h70.mono ?_; rintro e7 w7 ⟨v, rfl, hv, rfl⟩; obtain ⟨kb, cap, cap', rfl, hk, hlo⟩ := HA.out v hv; have q1 := fun W => Go.Lib.run_eql_slice_nil (P := Try.prog) W 59 5 (some ⟨kb, o2, none⟩) n cap' 0 0 Try.underlying59; simp only [Option.isNone_some] at q1)
        clear h70
        have HK := hid' hk
        have y1 : ∀ q : After w7, q.1.cell? ⟨b, o + 1, none⟩ = some (.int .i64 d) := fun q => by rw [← HD.out]; exact (F.out ⟨q.1, below_up HB6.out q.2⟩).1.2.1
        have K71 : ∀ q : After w7, Calls Try.prog 71 #[.slice (some ⟨kb, o2, none⟩) n cap'] q.1 fun e w' => e = .returned (.int .u32 (wordK (partL s.gl o2 n) n)) ∧ ∃ t' : After w7, w' = t'.1 := fun q => Calls.after q (by
          have hrow := (HR6.out.on q.2).rows.gs
          rw [HK.out] at hrow
          refine wordOf71 (partL_len hlo) hn4.2 (fun k hk2 => ?_) (fun k hk2 => ?_)
          · rw [partL_at hlo hk2]; exact HM.out.gb _ _
          · rw [partL_at hlo hk2, World.ownsRow.cellAt hrow _ (by rw [partL_len hlo] at hk2; omega), flat_by]
            rw [partL_len hlo] at hk2
            simp [show o2 + k < s.gl.length by omega])
        have hne2 := after_some w7
        clear q1 z0 hk
        generalize wordK (partL s.gl o2 n) n = wv at *
        refine region_after 7 mixed (by kernel_rfl) ?_
        simp only [List.take_succ_cons, List.take_zero, List.drop_succ_cons, List.drop_zero]
        repeat (first | go_big_quiet_step (with_reducible exact K71 _) | quiet_step (with_reducible exact K71 _))
        refine wpQuiet_nil ?_
        intro w8 hb8
        have HR8 := hid' (HR6.out.on hb8)
        clear y1 K71 hb8
        go_wp2_with (go_at_call 26; refine (set26 HR8.out HT.out hdl wv hl).mono ?_; rintro e9 w9 ⟨rfl, x9, hR9, hT9⟩)
        exact bodyPost_ret (v := .tuple #[]) (by simp [results, Try.results50]) rfl ⟨rfl, x9, _, by rw [HZ.out]; exact hR9, by rw [HZ.out]; exact hT9⟩
      · obtain ⟨hl2, ha1⟩ := HAC.out.st g6
        have g6' : (i.op == 6) = false := by simp [g6]
        obtain ⟨k1, e1⟩ : ∃ k1 : Nat, i.args[1]'(by omega) = k1 := ⟨(i.args.getD 1 0).toNat, by simp [show 1 < i.args.length by omega] at ha1 ⊢; omega⟩
        have q1' : arg i 1 = k1 := by simp [arg, show 1 < i.args.length by omega, e1]
        have hk1 : k1 < l.length := by simp [show 1 < i.args.length by omega, e1] at ha1; omega
        have HZ : Hid (accF s c l i = { s with gl := putL s.gl o2 (layL (getR l k1 c.no) n) }) := by unfold Hid; rw [HACC.out, hAT]; simp only [g6, if_false, q1']; rfl
        have y2 := (F.out ⟨w6, HB6.out⟩).1.2.2.1
        have ya1 := (F.out ⟨w6, HB6.out⟩).2.2.1 k1 ⟨by omega, e1⟩
        dsimp only at y2 ya1
        have h46 := get46 HR6.out HT.out hk1
        have hgv := HRG.out.get hk1 c.no
        have hl2i : (1 : Int) < i.args.length := by omega
        generalize getR l k1 c.no = gv at *
        clear HACC hAT e1 q1' ha1
        go_wp2_with (first
          | (go_at_call 72; refine h72.mono ?_; rintro e9 w9 ⟨rfl, rfl⟩)
          | (go_at_call 46; refine h46.mono ?_; rintro e8 w8 ⟨rfl, hb8⟩; have HR8 := hid' (HR6.out.on hb8); have h72 : Calls Try.prog 72 #[.slice (some ⟨kb, o2, none⟩) n cap', .int .u32 gv] w8 fun e w' => e = .returned (.tuple #[]) ∧ w' = w8.setCells kb o2 (flat bcel (layL gv n)) := (layWord72 hgv hn4.2 (fun k hk2 => by
              have hrow := HR8.out.rows.gs
              rw [HK.out] at hrow
              rw [World.ownsRow.cellAt hrow _ (by omega), flat_by]
              simp [show o2 + k < s.gl.length by omega]) (fun k => by
              have hrow := HR8.out.rows.gs
              rw [HK.out] at hrow
              exact World.ownsRow.frozenAt hrow k)))
          | (go_at_call 70; refine h70.mono ?_; rintro e7 w7 ⟨v, rfl, hv, rfl⟩; obtain ⟨kb, cap, cap', rfl, hk, hlo⟩ := HA.out v hv; have HK := hid' hk; have q1 := fun W => Go.Lib.run_eql_slice_nil (P := Try.prog) W 59 5 (some ⟨kb, o2, none⟩) n cap' 0 0 Try.underlying59; simp only [Option.isNone_some] at q1))
        go_end0
        exact ⟨rfl, x, l, by rw [HZ.out]; exact RunM.bytesG _ o2 _ s HR8.out HK.out, by rw [HZ.out]; exact HT.out.same rfl rfl⟩
    · -- sk
      have HA : Hid (∀ v, AtR s x AD n v → ∃ kb cap cap', v = .slice (some ⟨kb, o2, none⟩) n cap' ∧ x.kv = .slice (some ⟨kb, 0, none⟩) s.sk.length cap ∧ o2 + n ≤ s.sk.length) := by
        rintro v (⟨e, _⟩ | ⟨o3, kb, cap, cap', e, hv, hk, hl⟩ | ⟨o3, kb, cap, cap', e, hv, hk, hl⟩) <;> rw [hAT] at e
        · cases e
        · injection e with e; injection e with _ e; subst e; exact ⟨kb, cap, cap', hv, hk, hl⟩
        · injection e with e; injection e with e; cases e
      by_cases g6 : i.op = 6
      · obtain ⟨d, hd⟩ : ∃ d : Nat, i.dst = d := ⟨i.dst.toNat, by have := (HAC.out.ld g6).1; omega⟩
        have hdl : d < l.length := by have := (HAC.out.ld g6).2; omega
        have HZ : Hid (accF s c l i = setS s c l d (wordK (partL s.sk o2 n) n)) := by unfold Hid; rw [HACC.out, hAT]; simp only [g6, if_true, hd, Int.toNat_natCast]
        rw [g6] at z0
        have HD := hid' hd
        clear HACC hAT g6 hd
        go_wp2_with (go_at_call 70; refine h70.mono ?_; rintro e7 w7 ⟨v, rfl, hv, rfl⟩; obtain ⟨kb, cap, cap', rfl, hk, hlo⟩ := HA.out v hv; have q1 := fun W => Go.Lib.run_eql_slice_nil (P := Try.prog) W 59 5 (some ⟨kb, o2, none⟩) n cap' 0 0 Try.underlying59; simp only [Option.isNone_some] at q1)
        clear h70
        have HK := hid' hk
        have y1 : ∀ q : After w7, q.1.cell? ⟨b, o + 1, none⟩ = some (.int .i64 d) := fun q => by rw [← HD.out]; exact (F.out ⟨q.1, below_up HB6.out q.2⟩).1.2.1
        have K71 : ∀ q : After w7, Calls Try.prog 71 #[.slice (some ⟨kb, o2, none⟩) n cap'] q.1 fun e w' => e = .returned (.int .u32 (wordK (partL s.sk o2 n) n)) ∧ ∃ t' : After w7, w' = t'.1 := fun q => Calls.after q (by
          have hrow := (HR6.out.on q.2).rows.ks
          rw [HK.out] at hrow
          refine wordOf71 (partL_len hlo) hn4.2 (fun k hk2 => ?_) (fun k hk2 => ?_)
          · rw [partL_at hlo hk2]; exact HM.out.kb _ _
          · rw [partL_at hlo hk2, World.ownsRow.cellAt hrow _ (by rw [partL_len hlo] at hk2; omega), flat_by]
            rw [partL_len hlo] at hk2
            simp [show o2 + k < s.sk.length by omega])
        have hne2 := after_some w7
        clear q1 z0 hk
        generalize wordK (partL s.sk o2 n) n = wv at *
        refine region_after 7 mixed (by kernel_rfl) ?_
        simp only [List.take_succ_cons, List.take_zero, List.drop_succ_cons, List.drop_zero]
        repeat (first | go_big_quiet_step (with_reducible exact K71 _) | quiet_step (with_reducible exact K71 _))
        refine wpQuiet_nil ?_
        intro w8 hb8
        have HR8 := hid' (HR6.out.on hb8)
        clear y1 K71 hb8
        go_wp2_with (go_at_call 26; refine (set26 HR8.out HT.out hdl wv hl).mono ?_; rintro e9 w9 ⟨rfl, x9, hR9, hT9⟩)
        exact bodyPost_ret (v := .tuple #[]) (by simp [results, Try.results50]) rfl ⟨rfl, x9, _, by rw [HZ.out]; exact hR9, by rw [HZ.out]; exact hT9⟩
      · obtain ⟨hl2, ha1⟩ := HAC.out.st g6
        have g6' : (i.op == 6) = false := by simp [g6]
        obtain ⟨k1, e1⟩ : ∃ k1 : Nat, i.args[1]'(by omega) = k1 := ⟨(i.args.getD 1 0).toNat, by simp [show 1 < i.args.length by omega] at ha1 ⊢; omega⟩
        have q1' : arg i 1 = k1 := by simp [arg, show 1 < i.args.length by omega, e1]
        have hk1 : k1 < l.length := by simp [show 1 < i.args.length by omega, e1] at ha1; omega
        have HZ : Hid (accF s c l i = { s with sk := putL s.sk o2 (layL (getR l k1 c.no) n) }) := by unfold Hid; rw [HACC.out, hAT]; simp only [g6, if_false, q1']; rfl
        have y2 := (F.out ⟨w6, HB6.out⟩).1.2.2.1
        have ya1 := (F.out ⟨w6, HB6.out⟩).2.2.1 k1 ⟨by omega, e1⟩
        dsimp only at y2 ya1
        have h46 := get46 HR6.out HT.out hk1
        have hgv := HRG.out.get hk1 c.no
        have hl2i : (1 : Int) < i.args.length := by omega
        generalize getR l k1 c.no = gv at *
        clear HACC hAT e1 q1' ha1
        go_wp2_with (first
          | (go_at_call 72; refine h72.mono ?_; rintro e9 w9 ⟨rfl, rfl⟩)
          | (go_at_call 46; refine h46.mono ?_; rintro e8 w8 ⟨rfl, hb8⟩; have HR8 := hid' (HR6.out.on hb8); have h72 : Calls Try.prog 72 #[.slice (some ⟨kb, o2, none⟩) n cap', .int .u32 gv] w8 fun e w' => e = .returned (.tuple #[]) ∧ w' = w8.setCells kb o2 (flat bcel (layL gv n)) := (layWord72 hgv hn4.2 (fun k hk2 => by
              have hrow := HR8.out.rows.ks
              rw [HK.out] at hrow
              rw [World.ownsRow.cellAt hrow _ (by omega), flat_by]
              simp [show o2 + k < s.sk.length by omega]) (fun k => by
              have hrow := HR8.out.rows.ks
              rw [HK.out] at hrow
              exact World.ownsRow.frozenAt hrow k)))
          | (go_at_call 70; refine h70.mono ?_; rintro e7 w7 ⟨v, rfl, hv, rfl⟩; obtain ⟨kb, cap, cap', rfl, hk, hlo⟩ := HA.out v hv; have HK := hid' hk; have q1 := fun W => Go.Lib.run_eql_slice_nil (P := Try.prog) W 59 5 (some ⟨kb, o2, none⟩) n cap' 0 0 Try.underlying59; simp only [Option.isNone_some] at q1))
        go_end0
        exact ⟨rfl, x, l, by rw [HZ.out]; exact RunM.bytesK _ o2 _ s HR8.out HK.out, by rw [HZ.out]; exact HT.out.same rfl rfl⟩
end
end Go.Proofs.Ytiehlkhpblldaaa
