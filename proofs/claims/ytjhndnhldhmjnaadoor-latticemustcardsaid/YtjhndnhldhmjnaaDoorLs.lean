/- Rows of words; the law's rounds. -/
import Derived.Test.YtjhndnhldhmjnaaDoorFp
import Derived.Deep.RegionLaw
import Derived.Deep.Cut
import Derived.Deep.DeepCutAuto
import Derived.BigRegion
namespace Go.Proofs.YtjhndnhldhmjnaaDoor
open Go.RowKit Go.Maps
set_option linter.unusedVariables false
set_option linter.unusedSimpArgs false
theorem info29 : (Tryd.prog.info? 29).map (fun i => (i.zero, i.size, i.bytes)) = some (some (.int .u64 0), 1, 8) := by kernel_rfl
theorem step_make {P : Program} {ops : Array Oper} {o : Oper} {a : Act} {w w' : World} {K : Act → World → Prop} {Q : Exit → Act → World → Prop} {E : Prop}
    (hg : o.guard = none) (x : Operand) (t : TypeId) (hop : o.op = Op.makeSlice t x x) (xv v' : Value) (hx : a.eval x = xv) (hrun : (Instr.makeSlice t xv xv).run P w = .ok v' w') (hK : K (a.put o.dst v') w') :
    if Region.wanted o (yielded ops a.tmps) = true then Oper.wp P o a w K Q else E := by
  have hw : Region.wanted o (yielded ops a.tmps) = true := by simp [Region.wanted, hg]
  rw [if_pos hw]
  unfold Oper.wp
  simp [execOp, hop, hx, hrun, Result.andThen]
  exact hK
/-- A row of n words in block g. -/
def RowU (w : World) (g n : Nat) (f : Nat → Wd) : Prop := w.rowIs g 29 n (fun j => uv (f j))
theorem RowU.cell {w : World} {g n i : Nat} {f : Nat → Wd} (h : RowU w g n f) (hi : i < n) : w.cell? ⟨g, i, none⟩ = some (uv (f i)) := World.rowIs.cell h hi
theorem RowU.fro {w : World} {g n : Nat} {f : Nat → Wd} (h : RowU w g n f) (i : Nat) : w.frozen? ⟨g, i, none⟩ = false := World.rowIs.frozen h i
theorem RowU.lt {w : World} {g n : Nat} {f : Nat → Wd} (h : RowU w g n f) : g < w.heap.size := World.rowIs.lt h
theorem RowU.on {w w' : World} {g n : Nat} {f : Nat → Wd} (h : RowU w g n f) (hb : Below w.heap.size w w') : RowU w' g n f := World.rowIs.of_block h (hb.block _ (World.rowIs.lt h))
theorem RowU.kept {S : Nat → Prop} {w w' : World} {g n : Nat} {f : Nat → Wd} (h : RowU w g n f) (hk : Kept S w w') (hn : ¬ S g) : RowU w' g n f := hk.row h hn
theorem RowU.set {w : World} {g n : Nat} {f : Nat → Wd} (h : RowU w g n f) (i : Nat) (x : Wd) : RowU (w.setCell ⟨g, i, none⟩ (uv x)) g n (upd f i x) :=
  World.rowIs.congr (World.rowIs.set h i (uv x)) (fun j _ => by unfold upd; split <;> rfl)
theorem RowU.other {w : World} {g g' n i : Nat} {f : Nat → Wd} {v : Value} (h : RowU w g n f) (hne : g ≠ g') : RowU (w.setCell ⟨g', i, none⟩ v) g n f := World.rowIs.setOther h hne v
theorem RowU.congr {w : World} {g n : Nat} {f f' : Nat → Wd} (h : RowU w g n f) (e : ∀ i, i < n → f i = f' i) : RowU w g n f' := World.rowIs.congr h (fun i hi => by rw [e i hi])
theorem make_words (w : World) {n : Nat} (hn : n * 8 ≤ big) :
    ∃ w', (Instr.makeSlice 25 (.int .i64 (n : Nat)) (.int .i64 (n : Nat))).run Tryd.prog w = .ok (.slice (some ⟨w.heap.size, 0, none⟩) n n) w' ∧ RowU w' w.heap.size n (fun _ => 0) ∧ Below w.heap.size w w' ∧ w'.heap.size = w.heap.size + 1 := by
  unfold big at hn
  obtain ⟨i0, hi, e0, e1, e2⟩ := info_parts info29
  have hmul : ((8 : Nat) : Int) * ((n : Nat) : Int) ≤ 281474976710656 := by omega
  have hr := run_make (P := Tryd.prog) w 25 29 i0 (.int .u64 0) Tryd.underlying25 hi e0 .i64 .i64 (n : Nat) (n : Nat) (by omega) (Int.le_refl _) (by rw [e2]; exact hmul) (by omega)
  rw [Int.toNat_natCast, e1] at hr
  refine ⟨_, hr, ?_, below1 _ _, by simp⟩
  have := World.rowIs_made w (.int .u64 0) (n * 1) 29
  rw [Nat.mul_one] at this
  unfold RowU uv
  simpa [Value.cells] using this
theorem RowU.same {w : World} {g n : Nat} {f f' : Nat → Wd} (h : RowU w g n f) (h' : RowU w g n f') : ∀ k, k < n → f k = f' k := fun k hk => by
  have := (h.cell hk).symm.trans (h'.cell hk)
  injection this with this
  unfold uv at this
  injection this with _ this
  exact BitVec.eq_of_toNat_eq (by omega)
theorem potR_congr (P : Prb Wd) {i o i' o' : Nat → Wd} (h : ∀ k, k < P.n → i k = i' k) (h' : ∀ k, k < P.n → o k = o' k) : P.potR i o = P.potR i' o' :=
  Nat.le_antisymm (sum_le _ fun k hk => by rw [h k hk, h' k hk]; exact Nat.le_refl _) (sum_le _ fun k hk => by rw [h k hk, h' k hk]; exact Nat.le_refl _)
open Classical in
/-- How often the rounds may still turn something, as memory tells it. -/
noncomputable def msr (P : Prb Wd) (g1 g2 : Nat) (w : World) : Nat := if h : ∃ m, ∃ i o, RowU w g1 P.n i ∧ RowU w g2 P.n o ∧ P.potR i o = m then Classical.choose h else 0
theorem msr_is {P : Prb Wd} {g1 g2 : Nat} {w : World} {i o : Nat → Wd} (h1 : RowU w g1 P.n i) (h2 : RowU w g2 P.n o) : msr P g1 g2 w = P.potR i o := by
  have h : ∃ m, ∃ i o, RowU w g1 P.n i ∧ RowU w g2 P.n o ∧ P.potR i o = m := ⟨_, i, o, h1, h2, rfl⟩
  unfold msr
  rw [dif_pos h]
  obtain ⟨i', o', k1, k2, e⟩ := Classical.choose_spec h
  rw [← e]
  exact potR_congr P (k1.same h1) (k2.same h2)
/-- What the rounds leave. -/
def LeastR (ns : List Nd) (l : List (Int × Int)) (h : edgesF l ns.length = true) (w : World) (e : Ending) (w' : World) : Prop :=
  ∃ (g1 g2 : Nat) (i o : Nat → Wd), e = .returned (.tuple #[.slice (some ⟨g1, 0, none⟩) ns.length ns.length, .slice (some ⟨g2, 0, none⟩) ns.length ns.length]) ∧ RowU w' g1 ns.length i ∧ RowU w' g2 ns.length o ∧ (orP ns l h).Fix i o ∧ (orP ns l h).Low i o ∧ Below w.heap.size w w' ∧ w.heap.size ≤ g1 ∧ w.heap.size ≤ g2
set_option maxRecDepth 20000 in
set_option maxHeartbeats 4000000 in
theorem least13 {w : World} {nv ev : Value} {ns : List Nd} {l : List (Int × Int)} (hn : Src Nd.cells w nv ns) (he : Src ecell w ev l) (n64 : ns.length ≤ 64) (l256 : l.length ≤ 256) (h : edgesF l ns.length = true) :
    Calls Tryd.prog 13 #[nv, ev] w (LeastR ns l h w) := by
  obtain ⟨ao, cap, rfl, hf⟩ := hn.nodes
  obtain ⟨bo, cap2, rfl, hf2⟩ := he.edges
  have HF := hid' hf
  have HE := hid' hf2
  clear hf hf2
  have HM : Hid (∀ W : World, ∃ w', (Instr.makeSlice 25 (.int .i64 (ns.length : Nat)) (.int .i64 (ns.length : Nat))).run Tryd.prog W = .ok (.slice (some ⟨W.heap.size, 0, none⟩) ns.length ns.length) w' ∧ RowU w' W.heap.size ns.length (fun _ => 0) ∧ Below W.heap.size W w' ∧ w'.heap.size = W.heap.size + 1) := fun W => make_words W (n := ns.length) (by unfold big; omega)
  go_enter Tryd.func13, Tryd.ntmps13
  go_wp2_with fail
  go_cut [4, 5] (fun iv ov wx => ∃ (g1 g2 : Nat), iv = .slice (some ⟨g1, 0, none⟩) ns.length ns.length ∧ ov = .slice (some ⟨g2, 0, none⟩) ns.length ns.length ∧ RowU wx g1 ns.length (fun _ => 0) ∧ RowU wx g2 ns.length (fun _ => 0) ∧ g1 ≠ g2 ∧ Below w.heap.size w wx ∧ w.heap.size ≤ g1 ∧ w.heap.size ≤ g2)
  case first =>
    obtain ⟨w1, hm1, hR1, hb1, hs1⟩ := HM.out w.drew
    obtain ⟨w2, hm2, hR2, hb2, hs2⟩ := HM.out w1
    have D0 : Hid (Below w.heap.size w w2) := by
      refine Below.trans (bdrew (Below.refl _ _) 1 : Below w.heap.size w w.drew) ?_
      exact below_up hb1 hb2
    have R1 := hid' (hR1.on hb2)
    have R2 := hid' hR2
    have NE : Hid (w.drew.heap.size ≠ w1.heap.size) := by unfold Hid; omega
    have L1 : Hid (w.heap.size ≤ w1.heap.size) := by have : w.drew.heap.size = w.heap.size := rfl; unfold Hid; omega
    clear hR1 hR2 hb1 hb2 hs1 hs2
    go_region_law (fail)
    all_goals go_wp2_with fail
    all_goals go_meet
    · exact ⟨w.drew.heap.size, w1.heap.size, rfl, rfl, R1.out, R2.out, NE.out, D0.out, Nat.le_refl _, L1.out⟩
    · exact ⟨w1.heap.size, w.drew.heap.size, rfl, rfl, R2.out, R1.out, fun e => NE.out e.symm, D0.out, L1.out, Nat.le_refl _⟩
  case rest =>
    obtain ⟨g1, g2, rfl, rfl, hR1, hR2, hne, hB, hg1, hg2⟩ := hcut
    have HR1 := hid' hR1
    have HR2 := hid' hR2
    have HB := hid' hB
    clear hR1 hR2 hB HM
    go_wp2_with fail
    obtain ⟨P, eP⟩ : ∃ P, P = orP ns l h := ⟨_, rfl⟩
    have ePn : P.n = ns.length := by rw [eP]; rfl
    have ePb : P.rnd_begin = P.rnd_begin := rfl
    have R0 : Hid (P.Rnd (fun _ => 0) (fun _ => 0)) := by
      have := (orP ns l h).rnd_begin
      rw [eP]
      exact this
    have HLR : Hid (LeastR ns l h = LeastR ns l h) := rfl
    go_loopw [6, 7, 8, 9, 10] (fun tv _ _ _ _ wr => ∃ (b : Bool) (i o : Nat → Wd), tv = .bool b ∧ RowU wr g1 ns.length i ∧ RowU wr g2 ns.length o ∧ P.Rnd i o ∧ (b = false → P.Fix i o) ∧ Below w.heap.size w wr) (fun tv _ _ _ _ wr => msr P g1 g2 wr * 2 + (match tv with | .bool true => 1 | _ => 0))
    case atStart => exact ⟨true, _, _, rfl, HR1.out, HR2.out, R0.out, (fun e => by cases e), HB.out⟩
    case round =>
      obtain ⟨b, i, o, rfl, hR1, hR2, hRn, hFx, hB⟩ := hrel
      have K1 := hid' hR1
      have K2 := hid' hR2
      have KN := hid' hRn
      have KF := hid' hFx
      have KB := hid' hB
      clear hR1 hR2 hRn hFx hB
      cases b with
      | false =>
        go_wp2_with fail
        refine bodyPost_ret (results_tmp2 rfl _ _ _) rfl ?_
        rw [eP] at KN KF
        exact ⟨g1, g2, i, o, rfl, K1.out, K2.out, KF.out (by trivial), KN.out.low, KB.out, hg1, hg2⟩
      | true =>
        have KM : Hid (msr P g1 g2 wr = P.potR i o) := msr_is (by rw [ePn]; exact K1.out) (by rw [ePn]; exact K2.out)
        go_wp2_with fail
        go_loopw [6, 7, 8, 9, 10] (fun tv kv _ _ _ wx => ∃ (b : Bool) (k : Nat) (i' o' : Nat → Wd), k ≤ ns.length ∧ kv = .int .i64 k ∧ tv = .bool b ∧ RowU wx g1 ns.length i' ∧ RowU wx g2 ns.length o' ∧ P.Rnd i' o' ∧ Below w.heap.size w wx ∧ (b = false → P.potR i' o' = P.potR i o ∧ ∀ j, j < k → i' j = P.inOf o' j ∧ o' j = P.flow j (i' j)) ∧ (b = true → P.potR i' o' < P.potR i o)) (fun _ kv _ _ _ _ => ns.length - (intOf kv).toNat)
        case atStart => exact ⟨false, 0, i, o, Nat.zero_le _, rfl, rfl, K1.out, K2.out, KN.out, KB.out, (fun _ => ⟨rfl, fun j hj => by omega⟩), (fun e => by cases e)⟩
        case round =>
          obtain ⟨b, k, i', o', hk, rfl, rfl, hR1, hR2, hRn, hB, hF, hT⟩ := hrel
          have J1 := hid' hR1
          have J2 := hid' hR2
          have JN := hid' hRn
          have JB := hid' hB
          have JF := hid' hF
          have JT := hid' hT
          clear hR1 hR2 hRn hB hF hT
          by_cases hlt : k < ns.length
          · obtain ⟨b1, off1, rfl, hb1, hc1, hcc1⟩ := HF.out k hlt
            obtain ⟨c1, c2, c3⟩ := hcc1 wr JB.out
            have en := nth_at hlt
            rw [← en] at c1 c2 c3
            clear en hcc1
            go_wp2_with fail
            go_loopw [8, 9] (fun vv iv wx => ∃ (j : Nat), j ≤ l.length ∧ iv = .int .i64 j ∧ vv = uv (foldE (· ||| ·) o' k (l.take j) (nth ns k).start) ∧ wx = wr) (fun _ iv _ => l.length - (intOf iv).toNat)
            case atStart => exact ⟨0, Nat.zero_le _, rfl, rfl, rfl⟩
            case round =>
              obtain ⟨j, hj, rfl, rfl, rfl⟩ := hrel
              by_cases hjl : j < l.length
              · obtain ⟨b2, off2, rfl, hb2, hc2, hcc2⟩ := HE.out j hjl
                obtain ⟨d1, d2⟩ := hcc2 _ JB.out
                have SN := hid' (foldE_snoc (· ||| ·) o' k l (nth ns k).start j hjl)
                have EA := edges_at h hjl
                clear hcc2
                generalize foldE (· ||| ·) o' k (l.take j) (nth ns k).start = x at *
                obtain ⟨ea1, ea2, ea3, ea4⟩ := EA
                obtain ⟨a, ha⟩ : ∃ a : Nat, l[j].1 = a := ⟨l[j].1.toNat, by omega⟩
                have r2 := J2.out.cell (i := a) (by omega)
                rw [ha] at d1
                rw [ha, Int.toNat_natCast] at SN
                generalize l[j].2 = y at *
                by_cases hy : y = (k : Int)
                · subst hy
                  have SNo := SN.out
                  rw [if_pos rfl] at SNo
                  unfold uv at *
                  go_wp2
                  refine ⟨⟨j + 1, by omega, by go_num, ?_, trivial⟩, by simp [intOf]; omega⟩
                  rw [SNo]
                  exact congrArg (Value.int .u64) (b_or _ _)
                · have SNo := SN.out
                  rw [if_neg hy] at SNo
                  go_wp2
                  refine ⟨⟨j + 1, by omega, by go_num, ?_, trivial⟩, by simp [intOf]; omega⟩
                  rw [SNo]
              · have e : j = l.length := by omega
                subst e
                rw [List.take_length, foldE_or h, ← eP]
                have q1 := J1.out.cell hlt
                have q2 := J2.out.cell hlt
                have f1 := J1.out.fro k
                have f2 := J2.out.fro k
                generalize eX : P.inOf o' k = X at *
                have FX : Hid (P.flow k X = X &&& ~~~(nth ns k).kill ||| (nth ns k).gen) := by rw [eP]; rfl
                generalize (nth ns k).kill = kl at *
                generalize (nth ns k).gen = gn at *
                unfold uv at *
                go_wp2
                go_quiet (fail)
                rw [b_andNot, b_or, ← FX.out]
                have M1 : Hid (RowU (wr.drewN nq) g1 ns.length i') := J1.out
                have M2 : Hid (RowU (wr.drewN nq) g2 ns.length o') := J2.out
                have MB : Hid (Below w.heap.size w (wr.drewN nq)) := bdrew JB.out nq
                have p1 : (wr.drewN nq).cell? ⟨g1, k, none⟩ = some (.int .u64 ((i' k).toNat : Nat)) := q1
                have p2 : (wr.drewN nq).cell? ⟨g2, k, none⟩ = some (.int .u64 ((o' k).toNat : Nat)) := q2
                have z1 : (wr.drewN nq).frozen? ⟨g1, k, none⟩ = false := f1
                have z2 : (wr.drewN nq).frozen? ⟨g2, k, none⟩ = false := f2
                have VS := hid' (JN.out.visit P (k := k) (by omega))
                have FL := hid' (JN.out.falls P (k := k) (by omega))
                rw [eX] at VS FL
                generalize eF : P.flow k X = F at *
                generalize wr.drewN nq = W at *
                clear q1 q2 f1 f2 c1 c2 c3
                have e1 := b_eq X (i' k)
                have e2 := b_eq F (o' k)
                have hd : Hid (P.potR i' o' ≤ P.potR i o) := by
                  cases b with
                  | true => exact Nat.le_of_lt (JT.out rfl)
                  | false => exact Nat.le_of_eq (JF.out rfl).1
                have FIN : Hid (X ≠ i' k ∨ F ≠ o' k → P.potR (upd i' k X) (upd o' k F) < P.potR i o) := fun hc => by
                  exact Nat.lt_of_lt_of_le (FL.out hc) hd.out
                by_cases h1 : X = i' k
                · by_cases h2 : F = o' k
                  · have hx : Hid (P.inOf o' k = i' k) := eX.trans h1
                    have hf : Hid (P.flow k (i' k) = o' k) := by rw [← h1]; exact eF.trans h2
                    rw [← h1] at p1
                    rw [← h2] at p2
                    clear h1 h2 e1 e2
                    go_wp2
                    refine ⟨⟨b, k + 1, i', o', by omega, by go_num, rfl, M1.out, M2.out, JN.out, MB.out, (fun e => ⟨(JF.out e).1, fun j hj => ?_⟩), JT.out⟩, by simp [intOf]; omega⟩
                    by_cases c : j = k
                    · subst c
                      exact ⟨hx.out.symm, hf.out.symm⟩
                    · exact (JF.out e).2 j (by omega)
                  · have n2 : ¬ ((F.toNat : Int) = ((o' k).toNat : Int)) := by rw [e2]; exact h2
                    rw [← h1] at p1
                    have FN := hid' (FIN.out (.inr h2))
                    clear h1 h2 e1 e2
                    go_wp2
                    exact ⟨⟨true, k + 1, upd i' k X, upd o' k F, by omega, by go_num, rfl, (M1.out.set k X).other hne, (M2.out.other (Ne.symm hne)).set k F, VS.out, (MB.out.setCell hg1 _).setCell hg2 _, (fun e => by cases e), fun _ => FN.out⟩, by simp [intOf]; omega⟩
                · have n1 : ¬ ((X.toNat : Int) = ((i' k).toNat : Int)) := by rw [e1]; exact h1
                  have FN := hid' (FIN.out (.inl h1))
                  clear h1 e1 e2
                  go_wp2
                  exact ⟨⟨true, k + 1, upd i' k X, upd o' k F, by omega, by go_num, rfl, (M1.out.set k X).other hne, (M2.out.other (Ne.symm hne)).set k F, VS.out, (MB.out.setCell hg1 _).setCell hg2 _, (fun e => by cases e), fun _ => FN.out⟩, by simp [intOf]; omega⟩
          · have e : k = ns.length := by omega
            subst e
            have NM : Hid (msr P g1 g2 wr = P.potR i' o') := msr_is (by rw [ePn]; exact J1.out) (by rw [ePn]; exact J2.out)
            go_wp2_with fail
            refine ⟨⟨b, i', o', rfl, J1.out, J2.out, JN.out, (fun e j hj => (JF.out e).2 j (by omega)), JB.out⟩, ?_⟩
            rw [NM.out, KM.out]
            cases b with
            | true =>
              have := JT.out rfl
              show P.potR i' o' * 2 + 1 < P.potR i o * 2 + 1
              omega
            | false =>
              have := (JF.out rfl).1
              show P.potR i' o' * 2 + 0 < P.potR i o * 2 + 1
              omega
end Go.Proofs.YtjhndnhldhmjnaaDoor
