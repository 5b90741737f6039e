/- The finder's least. -/
import Derived.Test.YtgkaeoieclegjaaFm
import Derived.Deep.Cut
namespace Go.Proofs.Ytgkaeoieclegjaa
open Go.RowKit Go.Maps
set_option linter.unusedVariables false
set_option linter.unusedSimpArgs false
variable {B r n : Nat} {W : World} {v : Fv} {ab : Nat → Option Nat} {s : Fs} {way : List Nat} {g : Dfs}
theorem oi_some (k : Nat) : oi (some k) = k := rfl
theorem oi_none : oi none = -1 := rfl
/-- The way's list, and how it is cut. -/
theorem FM.way_form (h : FM B W r v n ab s way) : ∃ ao c, v.wv = .slice ao way.length c ∧ way.length ≤ c ∧
    (∀ k, k ≤ way.length → FM B (W.setCell ⟨r, 5, none⟩ (.slice ao k c)) r { v with wv := .slice ao k c } n ab s (way.take k) ∧ Below B W (W.setCell ⟨r, 5, none⟩ (.slice ao k c))) ∧
    ∀ k (hk : k < way.length), ∃ hb, ao = some ⟨hb, 0, none⟩ ∧ W.cell? ⟨hb, k, none⟩ = some (.int .i64 way[k]) := by
  have ei : ∀ l : List Nat, (ints l).length = l.length := fun l => by simp [ints]
  have et : ∀ k, ints (way.take k) = (ints way).take k := fun k => by simp [ints, List.map_take]
  rcases h.fm with ⟨rfl, e⟩ | ⟨b, c, e, hc⟩
  · refine ⟨none, 0, e, Nat.le_refl _, fun k hk => ?_, fun k hk => by simp at hk⟩
    have hk0 : k = 0 := by simpa using hk
    subst hk0
    have ho := h.own
    rw [e] at ho
    exact h.put_way (Kept.rfl (fun _ => False) W) (fun b e => e.elim) (by simpa using ho) (.inl ⟨by simp, rfl⟩) (fun b hb => by cases hb)
  · have ho := h.own
    rw [e] at ho
    refine ⟨_, c, e, hc, fun k hk => ?_, fun k hk => ⟨b, rfl, ?_⟩⟩
    · have hl : (way.take k).length = k := by rw [List.length_take]; omega
      refine h.put_way (Kept.rfl (fun _ => False) W) (fun b e => e.elim) (by rw [et]; exact own_take ho (by rw [ei]; exact hk)) (.inr ⟨b, c, by rw [hl], by omega⟩) (fun b' hb => .inl ?_)
      rw [e]; exact hb
    · have h1 := ho
      unfold Own at h1
      rw [ei] at h1
      refine (World.ownsRow.cellAt h1 k (by omega)).trans ?_
      rw [flat_i]
      simp [ints, hk]
theorem FM.cut (h : FM B W r v n ab s way) {ao : Option Addr} {k m c : Nat} (e : v.wv = .slice ao m c) (hk : k ≤ way.length) :
    FM B (W.setCell ⟨r, 5, none⟩ (.slice ao k c)) r { v with wv := .slice ao k c } n ab s (way.take k) ∧ Below B W (W.setCell ⟨r, 5, none⟩ (.slice ao k c)) := by
  obtain ⟨ao', c', e', _, hcut, _⟩ := h.way_form
  rw [e] at e'
  injection e' with e1 e2 e3
  subst e1 e3
  exact hcut k hk
theorem upd_self {α : Type} (f : Nat → α) (k : Nat) : Dfs.upd f k (f k) = f := funext fun j => by unfold Dfs.upd; split <;> simp_all
theorem bdw {B : Nat} {W w : World} (h : Below B W w) : Below B W w.drew := ⟨h.os, h.tape, h.output, h.size, h.block⟩
theorem bdr {B k : Nat} {W w : World} (h : Below B W w) : Below B W (w.drewN k) := ⟨h.os, h.tape, h.output, h.size, h.block⟩
/-- What least leaves. -/
def LeastR (B r n : Nat) (v : Fv) (ab : Nat → Option Nat) (s : Fs) (g : Dfs) (i j : Nat) (W : World) (e : Ending) (w' : World) : Prop :=
  ∃ (x : Nat) (best : Nat → Nat) (up : Nat → Option Nat) (way' : List Nat) (wv' : Value), e = .returned (.int .i64 x) ∧ FM B w' r { v with wv := wv' } n ab { s with best := best, up := up } way' ∧
    g.Hang i s.sm best up ∧ LeastOf g i s.sm j x ∧ Below B W w'
set_option maxRecDepth 20000 in
set_option maxHeartbeats 8000000 in
theorem least40 {i j : Nat} (hn : g.n = n) (hB : n * 64 ≤ big) (h : FM B W r v n ab s way) (hh : g.Hang i s.sm s.best s.up) (hj : j < n) :
    Calls Try.prog 40 #[.pointer (some ⟨r, 0, none⟩), .int .i64 j] W (LeastR B r n v ab s g i j W) := by
  have c3 : W.cell? ⟨r, 3, none⟩ = some (.slice (some ⟨v.g3, 0, none⟩) n n) := h.cell 3 (by omega)
  have cu := h.ru.cell hj
  have H := hid' h
  have HH := hid' hh
  unfold big at hB
  cases hup : s.up j with
  | none =>
    rw [hup, oi_none] at cu
    have HU := hid' hup
    clear h hh hup
    go_enter Try.func40, Try.ntmps40
    go_wp2_with fail
    go_ret
    exact ⟨j, s.best, s.up, way, v.wv, rfl, H.out, HH.out, Lead.root HH.out (by omega) HU.out, Below.refl _ _⟩
  | some a =>
    obtain ⟨ao, c, ew, hlc, hcut, _⟩ := h.way_form
    have c5 : W.cell? ⟨r, 5, none⟩ = some v.wv := h.cell 5 (by omega)
    have f5 := h.fro 5
    rw [ew] at c5
    rw [hup, oi_some] at cu
    have hne : (((a : Int) == -1)) = false := beq_eq_false_iff_ne.2 (by omega)
    have HU := hid' hup
    obtain ⟨hF0, hB0⟩ := hcut 0 (Nat.zero_le _)
    rw [List.take_zero] at hF0
    have HF0 := hid' hF0
    have HB0 := hid' hB0
    clear h hh hup hcut hF0 hB0
    go_enter Try.func40, Try.ntmps40
    go_wp2_with fail
    obtain ⟨ti3, hi3, z0', z1', z2'⟩ := info_parts info3
    have HI3 := hid' hi3
    go_loopw [5] (fun vv wr => ∃ (at_ : Nat) (rl : List Nat) (wv' : Value), vv = .int .i64 at_ ∧ FM B wr r { v with wv := wv' } n ab s rl.reverse ∧ Lead s.up j rl at_ ∧ (∃ b, s.up at_ = some b) ∧ Below B W wr) (fun vv _ => (intOf vv).toNat)
    case atStart => exact ⟨j, [], _, rfl, HF0.out, rfl, ⟨a, HU.out⟩, HB0.out⟩
    case round =>
      obtain ⟨at_, rl, wv', rfl, hF, hL, ⟨b, hb⟩, hbr⟩ := hrel
      obtain ⟨hL2, hba⟩ := hL.push HH.out (by omega) hb
      have hat := hL.len
      have c3 : wr.cell? ⟨r, 3, none⟩ = some (.slice (some ⟨v.g3, 0, none⟩) n n) := hF.cell 3 (by omega)
      have c5 : wr.cell? ⟨r, 5, none⟩ = some wv' := hF.cell 5 (by omega)
      have f5 := hF.fro 5
      have cu := hF.ru.cell (i := at_) (by omega)
      have cu2 := hF.ru.cell (i := b) (by omega)
      rw [hb, oi_some] at cu
      have hbn : b < n := by omega
      have hatn : at_ < n := by omega
      have HF := hid' hF
      have HL := hid' hL
      have HL2 := hid' hL2
      have HB := hid' hbr
      have HBB := hid' hb
      have hrl : rl.length ≤ n := by omega
      clear hF hL hL2 hbr hb
      cases hub : s.up b with
      | some c' =>
        have HUB := hid' hub
        rw [hub, oi_some] at cu2
        clear hub
        have hne2 : ((c' : Int) == -1) = false := beq_eq_false_iff_ne.2 (by omega)
        go_wp2_with fail
        go_quiet (fail)
        go_wp2_with (at_builtin; refine of_mark ?_)
        unfold Mark
        have hF2 := HF.out.drewN nq
        have hlen : (ints rl.reverse).length = rl.length := by simp [ints]
        refine wpList_append_own_at _ rfl _ _ 26 rfl B 3 ti3 (.int .i64 0) 1 8 Try.underlying26 HI3.out z0' z1' z2' rfl (by decide) wv' _ _ rfl (World.ownsRow.alloc hF2.own _) ⟨(wr.drewN nq).heap.size, 0, none⟩ 1 1 [.int .i64 at_] rfl rfl (cell_one_new _ _ _) (by intro x hx; simp at hx; rw [hx]; rfl) (by rw [hlen]; unfold maxLen; omega) (by rw [hlen]; omega) (by have := HF.out.big; simp; omega) ?_
        intro v' w5 hown' hgrow hnil hloc
        have hO5 : Own 3 1 icell w5 B v' (ints rl.reverse ++ [(at_ : Int)]) := by
          unfold Own
          rw [flat_append, List.length_append]
          exact hown'
        obtain ⟨hF5, hb5⟩ := hF2.app hO5 hgrow hloc
        have HF5 : Hid (FM B (w5.setCell ⟨r, 5, none⟩ v') r { v with wv := v' } n ab s (at_ :: rl).reverse) := by
          rw [List.reverse_cons]
          exact hF5
        have hgk : w5.heap[r]? = wr.heap[r]? := by
          have K1 : Kept (fun b => wv'.ownBlock = some b) (wr.drewN nq) w5 := ((Kept.rfl (fun b => wv'.ownBlock = some b) (wr.drewN nq)).alloc _).ahead (Kept.of_grown (S := fun b => wv'.ownBlock = some b) hgrow (fun k e => e)) (fun i _ e => e)
          exact K1.block _ HF.out.box.lt (fun e => (HF.out.wn r e).1 rfl)
        have c5' : w5.cell? ⟨r, 5, none⟩ = some wv' := (World.cell?_of_block hgk).trans c5
        have f5' : w5.frozen? ⟨r, 5, none⟩ = false := (World.frozen?_of_block hgk).trans f5
        have c3' : w5.cell? ⟨r, 3, none⟩ = some (.slice (some ⟨v.g3, 0, none⟩) n n) := (World.cell?_of_block hgk).trans c3
        have HB5 := hid' hb5
        obtain ⟨g5, k5, rfl⟩ : ∃ g5 k5, v' = .slice (some ⟨g5, 0, none⟩) (rl.length + 1) k5 := by
          rcases hown'.2 with ⟨_, e0⟩ | ⟨g5, c5, cu5, e5, _⟩
          · simp at e0
          · exact ⟨g5, c5, by rw [e5]; simp [ints]⟩
        clear hown' hgrow hnil hloc hO5 hF5 hb5 hF2 hgk
        go_upto_region 6 with fail
        have d3 := HF5.out.c3
        have du := HF5.out.ru.cell (i := at_) (by omega)
        rw [HBB.out, oi_some] at du
        have HB6 : Hid (Below B W (w5.setCell ⟨r, 5, none⟩ (.slice (some ⟨g5, 0, none⟩) (rl.length + 1) k5))) := HB.out.trans ⟨HB5.out.os, HB5.out.tape, HB5.out.output, HB5.out.size, HB5.out.block⟩
        generalize w5.setCell ⟨r, 5, none⟩ (.slice (some ⟨g5, 0, none⟩) (rl.length + 1) k5) = w6 at *
        go_wp2_with fail
        go_roundw
        case rel => exact ⟨b, at_ :: rl, _, rfl, HF5.out, HL2.out, ⟨c', HUB.out⟩, HB6.out⟩
        case measure => simp [intOf]; omega
      | none =>
        have HUB := hid' hub
        rw [hub, oi_none] at cu2
        clear hub
        go_wp2_with fail
        go_quiet (fail)
        have HF2 : Hid (FM B (wr.drewN nq) r { v with wv := wv' } n ab s rl.reverse) := HF.out.drewN nq
        have HB2 : Hid (Below B W (wr.drewN nq)) := ⟨HB.out.os, HB.out.tape, HB.out.output, HB.out.size, HB.out.block⟩
        generalize wr.drewN nq = wq at *
        clear HF HB c3 c5 f5 cu cu2
        go_wp2_with fail
        go_loopw [] (fun wx => ∃ (rl : List Nat) (at_ R : Nat) (best : Nat → Nat) (up : Nat → Option Nat) (wv' : Value), FM B wx r { v with wv := wv' } n ab { s with best := best, up := up } rl.reverse ∧ g.Hang i s.sm best up ∧ Lead up j rl at_ ∧ up at_ = some R ∧ up R = none ∧ Below B W wx) (fun wx => match wx.cell? ⟨r, 5, none⟩ with | some (.slice _ k _) => k | _ => 0)
        case atStart => exact ⟨rl, at_, b, s.best, s.up, wv', HF2.out, HH.out, HL.out, HBB.out, HUB.out, HB2.out⟩
        case round =>
          obtain ⟨rl, at_, R, best, up, wv', hF, hH, hL, hR, hR0, hbr⟩ := hrel
          have c5 : wr.cell? ⟨r, 5, none⟩ = some wv' := hF.c5
          have f5 := hF.fro 5
          obtain ⟨ao, c, ew, hlc, hcut, hcell⟩ := hF.way_form
          have ew : wv' = .slice ao rl.reverse.length c := ew
          subst ew
          have HF := hid' hF
          have HH := hid' hH
          have HL := hid' hL
          have HR := hid' hR
          have HR0 := hid' hR0
          have HB := hid' hbr
          cases rl with
          | nil =>
            have hc4 := hF.c4
            have hcb := hF.rb.cell hj
            have hL : at_ = j := hL
            subst hL
            have HT := hid' (Lead.tells hH (by omega) hR hR0)
            simp only [List.reverse_nil, List.length_nil] at c5 hc4 HF
            clear hF hH hR hR0 hbr hcut hcell
            go_wp2_with fail
            go_ret
            exact ⟨_, best, up, _, _, rfl, HF.out, HH.out, HT.out, HB.out⟩
          | cons a rl =>
            have elen : (a :: rl).reverse.length = rl.length + 1 := by simp
            have etake : (a :: rl).reverse.take rl.length = rl.reverse := by rw [List.reverse_cons, List.take_append_of_le_length (by simp), List.take_of_length_le (by simp)]
            have eget : (a :: rl).reverse[rl.length]'(by rw [elen]; omega) = a := by simp
            obtain ⟨hb, rfl, htop⟩ := hcell rl.length (by rw [elen]; omega)
            rw [eget] at htop
            have hcut' := hid' (hcut rl.length (by rw [elen]; omega))
            rw [etake] at hcut'
            rw [elen] at c5
            have hlc' : rl.length + 1 ≤ c := by rw [elen] at hlc; exact hlc
            obtain ⟨p1, p2, p3, p4, p5, p6, p7, p8, p9, p10⟩ := Lead.pop hH hL (by omega) hR hR0
            have hln := hL.len
            simp only [List.length_cons] at hln
            clear hF hH hL hR hR0 hbr hcut hcell
            go_wp2_with fail
            go_quiet (fail)
            go_wp2_with fail
            go_region
            obtain ⟨F1, B1⟩ := (HF.out.drewN (nq + 1)).cut (k := rl.length) (e := rfl) (by rw [elen]; omega)
            rw [etake] at F1
            have B1' : Below B W ((wr.drewN (nq + 1)).setCell ⟨r, 5, none⟩ (.slice (some ⟨hb, 0, none⟩) rl.length c)) := (bdr (k := nq + 1) HB.out).trans B1
            have HF1 := hid' F1
            have HB1 := hid' B1'
            have C5 := hid' c5
            clear F1 B1 B1' HF HB hcut' c5 f5 htop
            generalize (wr.drewN (nq + 1)).setCell ⟨r, 5, none⟩ (.slice (some ⟨hb, 0, none⟩) rl.length c) = w1 at *
            have c1 := HF1.out.c1
            have c3 := HF1.out.c3
            have c4 := HF1.out.c4
            have cu := HF1.out.ru.cell (i := a) (by omega)
            have cb1 := HF1.out.rb.cell (i := at_) (by omega)
            have cb2 := HF1.out.rb.cell (i := a) (by omega)
            have cs1 := HF1.out.rs.cell (i := best at_) (by omega)
            have cs2 := HF1.out.rs.cell (i := best a) (by omega)
            dsimp only at cu cb1 cb2 cs1 cs2
            rw [p10, oi_some] at cu
            have atn : at_ < n := by omega
            have an : a < n := by omega
            have bn1 : best at_ < n := by omega
            have bn2 : best a < n := by omega
            have HP1 := hid' p1
            have HP2 := hid' p2
            have HP3 := hid' p3
            have HP4 := hid' p4
            have hpt := HR.out
            clear p1 p2 p3 p4 p10
            have hrt := HR
            by_cases hlt : s.sm (best at_) < s.sm (best a)
            · rw [if_pos hlt] at HP1
              go_wp2_with fail
              go_quiet (fail)
              have f4 := HF1.out.rb.fro a
              go_wp2_with fail
              go_region
              obtain ⟨F2, B2⟩ := (HF1.out.drewN (nq + 1)).put_best a (best at_)
              have HF2 := hid' F2
              have HB2 : Hid (Below B W ((w1.drewN (nq + 1)).setCell ⟨v.g4, a, none⟩ (.int .i64 (best at_)))) := (bdr (k := nq + 1) HB1.out).trans B2
              clear F2 B2 HF1 HB1 c1 c3 c4 cu cb1 cb2 cs1 cs2 f4
              dsimp only at HF2
              generalize (w1.drewN (nq + 1)).setCell ⟨v.g4, a, none⟩ (.int .i64 (best at_)) = w2 at *
              have c3 := HF2.out.c3
              have cu1 := HF2.out.ru.cell (i := at_) (by omega)
              have f3 := HF2.out.ru.fro a
              have cu3 := HF2.out.ru.cell (i := a) (by omega)
              dsimp only at cu1
              rw [hrt.out, oi_some] at cu1
              go_wp2_with fail
              go_region
              obtain ⟨F3, B3⟩ := HF2.out.put_up a (some R)
              rw [oi_some] at F3 B3
              have HF3 := hid' F3.drew
              have HB3 := hid' (bdw (HB2.out.trans B3))
              clear F3 B3 HF2 HB2 c3 cu1 f3 cu3
              dsimp only at HF3
              generalize (w2.setCell ⟨v.g3, a, none⟩ (.int .i64 R)).drew = w3 at *
              go_wp2_with fail
              go_roundw
              case rel => exact ⟨rl, a, R, _, _, _, HF3.out, HP1.out, HP2.out, HP3.out, HP4.out, HB3.out⟩
              case measure =>
                have := HF3.out.c5
                rw [this, C5.out]
                simp
            · rw [if_neg hlt, upd_self] at HP1
              go_wp2_with fail
              go_quiet (fail)
              have HF2 := hid' (HF1.out.drewN nq)
              have HB2 := hid' (bdr (k := nq) HB1.out)
              clear HF1 HB1 c1 c3 c4 cu cb1 cb2 cs1 cs2
              generalize w1.drewN nq = w2 at *
              have c3 := HF2.out.c3
              have cu1 := HF2.out.ru.cell (i := at_) (by omega)
              have f3 := HF2.out.ru.fro a
              have cu3 := HF2.out.ru.cell (i := a) (by omega)
              dsimp only at cu1
              rw [hrt.out, oi_some] at cu1
              go_wp2_with fail
              go_region
              obtain ⟨F3, B3⟩ := HF2.out.put_up a (some R)
              rw [oi_some] at F3 B3
              have HF3 := hid' F3.drew
              have HB3 := hid' (bdw (HB2.out.trans B3))
              clear F3 B3 HF2 HB2 c3 cu1 f3 cu3
              dsimp only at HF3
              generalize (w2.setCell ⟨v.g3, a, none⟩ (.int .i64 R)).drew = w3 at *
              go_wp2_with fail
              go_roundw
              case rel => exact ⟨rl, a, R, _, _, _, HF3.out, HP1.out, HP2.out, HP3.out, HP4.out, HB3.out⟩
              case measure =>
                have := HF3.out.c5
                rw [this, C5.out]
                simp
end Go.Proofs.Ytgkaeoieclegjaa
