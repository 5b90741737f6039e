/- The program's walk. -/
import Derived.Test.YtnnnfabpceapcaaGreatDoorWalkI
import Derived.Deep.QuietTactic
import Derived.BigQuiet
import Derived.Deep.CutBlock
import Derived.Deep.RegionLaw
namespace Go.Proofs.YtnnnfabpceapcaaGreatDoor
open Go.RowKit
set_option linter.unusedVariables false

theorem szT_pos (t : Tr) : 1 ≤ szT t := by unfold szT; split <;> omega
theorem len_le_szL : ∀ (l : List Tr), l.length ≤ szL l
  | [] => by simp
  | t :: r => by
    have := szT_pos t
    have := len_le_szL r
    rw [szL_cons, List.length_cons]
    omega

theorem walk_start {w wB : World} {cb n : Nat} {Inv : Int → List (List Tr × Nat) → Prop} {x : NdH} {kv : Value} {ks : List Tr} (hcb : cb < w.heap.size) (hc : w.cell? ⟨cb, 0, none⟩ = some (.int .i64 0)) (hf : w.frozen? ⟨cb, 0, none⟩ = false) (hK : Ks cb n w kv ks) (h0 : Inv 0 [([Tr.node x ks], 1)])
    (hwB : wB = (w.alloc (.cells #[.int .i64 x.kind, .string x.str, .int .u32 x.num, .bool x.flag, kv, .int .i64 x.pos] 25)).alloc (.cells #[.int .i64 x.kind, .string x.str, .int .u32 x.num, .bool x.flag, kv, .int .i64 x.pos] 25)) :
    WM wB cb (1 + szL ks) Inv [] 0 0 [⟨.slice (some ⟨w.heap.size + 1, 0, none⟩) 1 1, 1, [Tr.node x ks]⟩] (.slice (some ⟨w.heap.size + 1 + 1, 0, none⟩) 1 1) (wB.alloc (.cells #[.slice (some ⟨w.heap.size + 1, 0, none⟩) 1 1, .int .i64 1] 48)) := by
  have hs : wB.heap.size = w.heap.size + 1 + 1 := by rw [hwB]; simp
  have hb : Below w.heap.size w wB := by rw [hwB]; exact (below1 _ _).alloc (by simp) _
  have hKB := hK.below hb
  refine ⟨⟨rfl, .inr ⟨w.heap.size + 1 + 1, 1, #[.slice (some ⟨w.heap.size + 1, 0, none⟩) 1 1, .int .i64 1], rfl, by omega, ?_, Nat.le_refl _, by unfold maxLen; omega, rfl, rfl⟩⟩, fun e he => ?_, (Kept.rfl _ _).alloc _, ⟨0, ?_, Int.le_refl _, Int.le_refl _, h0⟩, ?_, ?_, by simp, by omega⟩
  · rw [← hs]
    exact heap_alloc_new wB _
  · rw [List.mem_singleton] at he
    subst he
    refine ⟨⟨n + 1, ?_⟩, by show 1 ≤ 0 + 1; omega, by simp⟩
    rw [Ks]
    refine ⟨by simp, _, _, rfl, fun i hi => ?_⟩
    have : i = 0 := by simp at hi; omega
    subst this
    refine ⟨w.heap.size + 1, 0, x, kv, ks, rfl, ⟨by omega, by omega⟩, ⟨rfl, by simp⟩, ?_, hKB⟩
    rw [hwB]
    refine ⟨?_, ?_, ?_, ?_, ?_, ?_⟩ <;> simp [go_sem]
  · have h1 := (below1 wB (.cells #[.slice (some ⟨w.heap.size + 1, 0, none⟩) 1 1, .int .i64 1] 48)).cell (p := ⟨cb, 0, none⟩) (by show cb < _; omega)
    exact h1.trans ((hb.cell (p := ⟨cb, 0, none⟩) hcb).trans hc)
  · have h1 := (below1 wB (.cells #[.slice (some ⟨w.heap.size + 1, 0, none⟩) 1 1, .int .i64 1] 48)).frozen (p := ⟨cb, 0, none⟩) (by show cb < _; omega)
    exact h1.trans ((hb.frozen (p := ⟨cb, 0, none⟩) hcb).trans hf)
  · simp only [tot]
    rw [szL_cons, szL_nil, szT_node]
    omega

set_option maxRecDepth 20000 in
set_option maxHeartbeats 4000000 in
theorem walk16 {w : World} {cb n : Nat} {g : FuncId} {step : Int → Nat → Int} {Inv : Int → List (List Tr × Nat) → Prop} {x : NdH} {kv : Value} {ks : List Tr} (hw : Way step Inv) (hcb : cb < w.heap.size) (hc : w.cell? ⟨cb, 0, none⟩ = some (.int .i64 0)) (hf : w.frozen? ⟨cb, 0, none⟩ = false) (hK : Ks cb n w kv ks) (h0 : Inv 0 [([Tr.node x ks], 1)]) (hg : ∀ (args : Array Value) (W : World), (callFunc g args).run Tryz.prog W = .ok (.enter g args) W)
    (hsee : ∀ (W : World) (p : Value) (d : Nat) (c : Int), W.cell? ⟨cb, 0, none⟩ = some (.int .i64 c) → W.frozen? ⟨cb, 0, none⟩ = false → cb < W.heap.size → 0 ≤ c → c ≤ 1000000 → d ≤ 1000000 → Calls Tryz.prog g #[p, .int .i64 (d : Int), .pointer (some ⟨cb, 0, none⟩)] W fun e w' => e = .returned (.bool true) ∧ w' = W.setCell ⟨cb, 0, none⟩ (.int .i64 (step c d))) :
    Calls Tryz.prog 11 #[ndV x kv, .func (.func g) #[] #[.pointer (some ⟨cb, 0, none⟩)]] w fun e w' => ∃ c : Int, e = .returned (.bool (decide (1 + szL ks ≤ 262144))) ∧ w'.cell? ⟨cb, 0, none⟩ = some (.int .i64 c) ∧ (1 + szL ks ≤ 262144 → Inv c []) ∧ Kept (fun b => b = cb) w w' := by
  obtain ⟨wB, hwB⟩ : ∃ wB, wB = (w.alloc (.cells #[.int .i64 x.kind, .string x.str, .int .u32 x.num, .bool x.flag, kv, .int .i64 x.pos] 25)).alloc (.cells #[.int .i64 x.kind, .string x.str, .int .u32 x.num, .bool x.flag, kv, .int .i64 x.pos] 25) := ⟨_, rfl⟩
  have HST := hid' (walk_start hcb hc hf hK h0 hwB)
  have HSB : Hid (Kept (fun b => b = cb) w wB) := by rw [hwB]; exact ((Kept.rfl _ _).alloc _).alloc _
  have hcB : cb < wB.heap.size := by rw [hwB]; simp; omega
  have HW := hid' hw
  have HSEE := hid' hsee
  clear hsee hw hK hc hf h0
  obtain ⟨i49, hi49, hz0, hz1, hz2⟩ := info_parts info49'
  unfold ndV
  go_enter Tryz.func11, Tryz.ntmps11
  go_wp2_with fail
  rw [← hwB]
  clear hwB
  go_loopw [5, 6] (fun v l wr => ∃ S vis, l = .int .i64 (262144 - (vis : Nat) : Int) ∧ WM wB cb (1 + szL ks) Inv [] 0 vis S v wr) (fun _ l _ => (intOf l).toNat)
  case atStart => exact ⟨_, 0, rfl, HST.out⟩
  case round =>
    obtain ⟨S, vis, rfl, hM⟩ := hrel
    rcases List.eq_nil_or_concat S with rfl | ⟨S, e, rfl⟩
    · obtain ⟨ao, cap, rfl⟩ : ∃ ao cap, u5 = .slice ao 0 cap := by
        obtain ⟨_, ⟨e, _⟩ | ⟨g, cap, cur, e, _⟩⟩ := hM.own
        · exact ⟨_, _, e⟩
        · exact ⟨_, _, e⟩
      obtain ⟨c, hc, _, _, hI⟩ := hM.inv
      have hs := hM.sum
      have hl := hM.lim
      simp only [tot] at hs
      have hd : decide (1 + szL ks ≤ 262144) = true := by simp; omega
      have HC : Hid (∃ c : Int, wr.cell? ⟨cb, 0, none⟩ = some (.int .i64 c) ∧ Inv c []) := ⟨c, hc, hI⟩
      have HKe := hid' (HSB.out.trans hM.kept)
      have HD := hid' hd
      clear hM hc hI hs hd
      go_wp2
      go_ret
      obtain ⟨c, h1, h2⟩ := HC.out
      exact ⟨c, by rw [HD.out]; rfl, h1, fun _ => h2, HKe.out⟩
    · rw [List.concat_eq_append] at hM
      obtain ⟨gb, cap, rfl, hg, hgl, hcap, hmx, c0, c1, hM1, ⟨m, hKe⟩, hed, he1⟩ := hM.pop
      obtain ⟨hkl, ao, kcap, hev⟩ := hKe.shape
      rw [hev] at c0 hKe
      have hlim := hM.lim
      have hsum := hM1.sum
      have hlen := len_le_szL e.ks
      have hfw := hM.few
      rw [List.length_append, List.length_singleton] at hfw
      have HSB' := hid' (HSB.out.trans hM.kept)
      obtain ⟨cc, hcc, _⟩ := hM.inv
      have hlc := Nat.lt_of_lt_of_le hcB hM.kept.size
      have HM1 := hid' hM1
      have HKE := hid' hKe
      by_cases hfit : 262144 < vis + e.ks.length
      · have HD : Hid (decide (1 + szL ks ≤ 262144) = false) := by show _ = _; simp; omega
        have HC : Hid (∀ W', Below wr.heap.size wr W' → W'.cell? ⟨cb, 0, none⟩ = some (.int .i64 cc)) := fun W' hb => (hb.cell (p := ⟨cb, 0, none⟩) hlc).trans hcc
        clear hM hM1 hKe hsum hlen hcc hev HM1
        go_wp2
        go_ret
        exact ⟨cc, by rw [HD.out]; rfl, HC.out _ (below1 _ _), fun h => by have := HD.out; simp at this; omega, HSB'.out.trans (Kept.of_below (below1 _ _))⟩
      · have HI0 := hid' (IM.start (rv := .slice ao e.ks.length kcap) (d := e.d) hM1 hcB (by omega))
        have HEV := hid' hev
        clear hM hM1 hKe hsum hlen hcc hev HM1 HSB'
        go_wp2_with fail
        obtain ⟨rb, hrb⟩ : ∃ rb, rb = wr.heap.size := ⟨_, rfl⟩
        rw [← hrb] at HI0 ⊢
        have hrb1 : cb < rb := by rw [hrb]; exact hlc
        clear hrb
        go_loopw [5, 41] (fun v i wx => ∃ S' k, k ≤ e.ks.length ∧ i = .int .i64 (k : Nat) ∧ IM wB cb (1 + szL ks) Inv [(e.ks.drop k, e.d)] (szL (e.ks.drop k)) (vis + k) S' v rb (.slice ao e.ks.length kcap) e.d wx) (fun _ i _ => e.ks.length - (intOf i).toNat)
        case atStart => exact ⟨S, 0, Nat.zero_le _, rfl, HI0.out⟩
        case round =>
          obtain ⟨S', k, hk, rfl, hI⟩ := hrel
          have y0 := hI.r0
          have y1 := hI.r1
          have yl := hI.rlt
          by_cases hlt : k < e.ks.length
          · obtain ⟨m', b, off, x', kv', ks', hm', rfl, ⟨hbl, hbn⟩, hke, hat, hK'⟩ := HKE.out.kid k hlt
            obtain ⟨hkl', ao', kcap', rfl⟩ := hK'.shape
            obtain ⟨c, hc, hc0, hc1, _⟩ := hI.wm.inv
            have hfz := hI.wm.frz
            have hlx : cb < wr.heap.size := Nat.lt_of_lt_of_le hcB hI.wm.kept.size
            have hdr : e.ks.drop k = Tr.node x' ks' :: e.ks.drop (k + 1) := by rw [List.drop_eq_getElem_cons hlt, hke]
            rw [hdr] at hI
            have hS := hid' (HSEE.out wr (.pointer (some ⟨b, off + k * 6, none⟩)) e.d c hc hfz hlx hc0 (by omega) (by omega))
            have HI5 : Hid (∀ W', W' = wr.setCell ⟨cb, 0, none⟩ (.int .i64 (step c e.d)) → IM wB cb (1 + szL ks) Inv [(e.ks.drop (k + 1), e.d), (ks', e.d + 1)] (szL (e.ks.drop (k + 1)) + szL ks') (vis + k + 1) S' u5 rb (.slice (some ⟨b, off, none⟩) e.ks.length kcap) e.d W') := fun W' hW => hI.see HW.out hcB (by omega) (by omega) hc hW
            have HAT := hid' hat
            have hfs := hI.few
            have HK' := hid' hK'
            clear hI hdr hc hfz hat hK' hke
            by_cases hks : 0 < ks'.length
            · go_wp2_with ((with_reducible refine hS.out.mono ?_); rintro e5 w5 ⟨rfl, hw5⟩; have hJ := HI5.out w5 hw5; have z0 := hJ.r0; have z1 := hJ.r1; have zl := hJ.rlt; obtain ⟨_, _, _, _, z4, _⟩ := HAT.out.kept hJ.wm.kept hbl hbn; have HJ := hid' hJ; clear hJ hw5)
              have hown := HJ.out.wm.own
              have hbs := HJ.out.wm.kept.size
              have HY : Hid (((w5.alloc (.cells #[.slice ao' ks'.length kcap', .int .i64 (IntKind.i64.wrap ((e.d : Int) + 1))] 48)).drew).ownsRow wB.heap.size 48 2 u5 S'.length (entsC S')) := (World.ownsRow.alloc hown _).drew
              have HBD : Hid (Below w5.heap.size w5 ((w5.alloc (.cells #[.slice ao' ks'.length kcap', .int .i64 (IntKind.i64.wrap ((e.d : Int) + 1))] 48)).drew)) := (below1 _ _).drew
              clear hown
              go_region_law (refine step_app rfl (.tmp 60) (.tmp 69) 49 rfl wB.heap.size 48 i49 (.agg #[.slice none 0 0, .int .i64 0]) 2 32 Tryz.underlying49 hi49 hz0 hz1 hz2 rfl (by decide) u5 S'.length (entsC S') (by simp [Act.eval]) HY.out ⟨w5.heap.size, 0, none⟩ 1 1 [.slice ao' ks'.length kcap', .int .i64 (IntKind.i64.wrap ((e.d : Int) + 1))] (by simp [Act.eval]) rfl (cells2 (by simp [go_sem]) (by simp [go_sem])) (fun u hu => by simp at hu; rcases hu with rfl | rfl <;> rfl) (by unfold maxLen; omega) (by omega) (by simp; omega) ?_; intro v' w6 hown2 hgrow hloc)
              all_goals
                have hD : IntKind.i64.wrap ((e.d : Int) + 1) = ((e.d + 1 : Nat) : Int) := by rw [Go.IntWalk.i64_in _ (by omega)]; rfl
                have HN : Hid (IM wB cb (1 + szL ks) Inv [(e.ks.drop (k + 1), e.d)] (szL (e.ks.drop (k + 1))) (vis + (k + 1)) (S' ++ [⟨.slice ao' ks'.length kcap', e.d + 1, ks'⟩]) v' rb (.slice (some ⟨b, off, none⟩) e.ks.length kcap) e.d w6) := HJ.out.push hcB (by omega) hfs HK'.out hks HBD.out (by rw [← hD]; exact hown2) hgrow hloc
                clear hown2 hgrow hloc hD
                try go_wp2
                exact ⟨⟨_, k + 1, by omega, by go_num, HN.out⟩, by simp [intOf]; omega⟩
            · have hks0 : ks' = [] := List.eq_nil_of_length_eq_zero (by omega)
              subst hks0
              go_wp2_with ((with_reducible refine hS.out.mono ?_); rintro e5 w5 ⟨rfl, hw5⟩; have hJ := HI5.out w5 hw5; have z0 := hJ.r0; have z1 := hJ.r1; have zl := hJ.rlt; obtain ⟨_, _, _, _, z4, _⟩ := HAT.out.kept hJ.wm.kept hbl hbn; have HJ := hid' hJ; clear hJ hw5)
              have HN : IM wB cb (1 + szL ks) Inv [(e.ks.drop (k + 1), e.d)] (szL (e.ks.drop (k + 1))) (vis + (k + 1)) S' u5 rb (.slice (some ⟨b, off, none⟩) e.ks.length kcap) e.d w5 := by
                have h := HJ.out
                rw [szL_nil, Nat.add_zero] at h
                exact h.leaf HW.out
              exact ⟨⟨S', k + 1, by omega, by go_num, HN⟩, by simp [intOf]; omega⟩
          · have hk' : k = e.ks.length := by omega
            subst hk'
            rw [List.drop_length] at hI
            have HN := hid' (hI.wm.done HW.out)
            clear hI
            go_wp2_with fail
            exact ⟨⟨S', vis + e.ks.length, by congr 1; omega, HN.out⟩, by simp [intOf]; omega⟩
end Go.Proofs.YtnnnfabpceapcaaGreatDoor
