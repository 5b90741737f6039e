/- The program's walk, where a closure asks. -/
import Derived.Test.YtnnnfabpceapcaaGreatDoorWalkC
import Derived.Deep.QuietTactic
import Derived.BigQuiet
import Derived.Deep.CutBlock
import Derived.Deep.RegionLaw
namespace Go.Proofs.YtnnnfabpceapcaaGreatDoor
open Go.RowKit
set_option linter.unusedVariables false

theorem walk_startC {w wB : World} {cb n : Nat} {ok : NdH → List Tr → Bool} {x : NdH} {kv : Value} {ks : List Tr} (hcb : cb ≠ w.heap.size + 1) (hK : Ks cb n w kv ks)
    (hwB : wB = (w.alloc (.cells #[.int .i64 x.kind, .string x.str, .int .u32 x.num, .bool x.flag, kv, .int .i64 x.pos] 25)).alloc (.cells #[.int .i64 x.kind, .string x.str, .int .u32 x.num, .bool x.flag, kv, .int .i64 x.pos] 25)) :
    CM wB cb (1 + szL ks) (allT ok (Tr.node x ks)) ok [] 0 0 [⟨.slice (some ⟨w.heap.size + 1, 0, none⟩) 1 1, 1, [Tr.node x ks]⟩] (.slice (some ⟨w.heap.size + 1 + 1, 0, none⟩) 1 1) (wB.alloc (.cells #[.slice (some ⟨w.heap.size + 1, 0, none⟩) 1 1, .int .i64 1] 48)) := by
  have hs : wB.heap.size = w.heap.size + 1 + 1 := by rw [hwB]; simp
  have hb : Below w.heap.size w wB := by rw [hwB]; exact (below1 _ _).alloc (by simp) _
  have hKB := hK.below hb
  refine ⟨⟨rfl, .inr ⟨w.heap.size + 1 + 1, 1, #[.slice (some ⟨w.heap.size + 1, 0, none⟩) 1 1, .int .i64 1], rfl, by omega, ?_, Nat.le_refl _, by unfold maxLen; omega, rfl, rfl⟩⟩, fun e he => ?_, (Kept.rfl _ _).alloc _, ?_, ?_, by simp, by omega⟩
  · rw [← hs]
    exact heap_alloc_new wB _
  · rw [List.mem_singleton] at he
    subst he
    refine ⟨⟨n + 1, ?_⟩, by show 1 ≤ 0 + 1; omega, by simp⟩
    rw [Ks]
    refine ⟨by simp, _, _, rfl, fun i hi => ?_⟩
    have : i = 0 := by simp at hi; omega
    subst this
    refine ⟨w.heap.size + 1, 0, x, kv, ks, rfl, ⟨by omega, by omega⟩, ⟨rfl, by simp⟩, ?_, hKB⟩
    rw [hwB]
    refine ⟨?_, ?_, ?_, ?_, ?_, ?_⟩ <;> simp [go_sem]
  · unfold allS
    rw [allL_nil]
    simp [allL_cons, allL_nil]
  · simp only [tot]
    rw [szL_cons, szL_nil, szT_node]
    omega

set_option maxRecDepth 20000 in
set_option maxHeartbeats 4000000 in
theorem walk16c {w : World} {n : Nat} {g : FuncId} {ok gd : NdH → List Tr → Bool} {x : NdH} {kv : Value} {ks : List Tr} (hgd : allT gd (Tr.node x ks) = true) (hK : Ks w.heap.size n w kv ks) (hg : ∀ (args : Array Value) (W : World), (callFunc g args).run Tryz.prog W = .ok (.enter g args) W)
    (hsee : ∀ (W : World) (b o : Nat) (x : NdH) (kv : Value) (n : Nat) (ks : List Tr) (d : Nat), gd x ks = true → NdAt W b o x kv → b < W.heap.size → Ks w.heap.size n W kv ks → Calls Tryz.prog g #[.pointer (some ⟨b, o, none⟩), .int .i64 (d : Int)] W fun e w' => e = .returned (.bool (ok x ks)) ∧ Below W.heap.size W w') :
    Calls Tryz.prog 11 #[ndV x kv, .func (.func g) #[] #[]] w fun e w' => e = .returned (.bool (decide (1 + szL ks ≤ 262144) && allT ok (Tr.node x ks))) ∧ Below w.heap.size w w' := by
  obtain ⟨wB, hwB⟩ : ∃ wB, wB = (w.alloc (.cells #[.int .i64 x.kind, .string x.str, .int .u32 x.num, .bool x.flag, kv, .int .i64 x.pos] 25)).alloc (.cells #[.int .i64 x.kind, .string x.str, .int .u32 x.num, .bool x.flag, kv, .int .i64 x.pos] 25) := ⟨_, rfl⟩
  obtain ⟨cb, hcbe⟩ : ∃ cb, cb = w.heap.size := ⟨_, rfl⟩
  rw [← hcbe] at hK hsee
  have HST := hid' (walk_startC (ok := ok) (by omega) hK hwB)
  have HSG := hid' (walk_startC (ok := gd) (by omega) hK hwB)
  rw [hgd] at HSG
  have HSB : Hid (∀ w3, Kept (fun b => b = cb) wB w3 → Below w.heap.size w w3) := fun w3 k => by
    have hb2 : Below w.heap.size w wB := by rw [hwB]; exact (below1 _ _).alloc (by simp) _
    exact ⟨k.os.trans hb2.os, k.tape.trans hb2.tape, k.output.trans hb2.output, Nat.le_trans hb2.size k.size, fun j hj => (k.block j (Nat.lt_of_lt_of_le hj hb2.size) (by omega)).trans (hb2.block j hj)⟩
  have HSEE := hid' hsee
  clear hsee hK hcbe
  obtain ⟨A, hA⟩ : ∃ A, A = allT ok (Tr.node x ks) := ⟨_, rfl⟩
  rw [← hA] at HST ⊢
  clear hA
  obtain ⟨i49, hi49, hz0, hz1, hz2⟩ := info_parts info49'
  unfold ndV
  go_enter Tryz.func11, Tryz.ntmps11
  go_wp2_with fail
  rw [← hwB]
  clear hwB
  go_loopw [5, 6] (fun v l wr => ∃ S vis, l = .int .i64 (262144 - (vis : Nat) : Int) ∧ CM wB cb (1 + szL ks) A ok [] 0 vis S v wr ∧ CM wB cb (1 + szL ks) true gd [] 0 vis S v wr) (fun _ l _ => (intOf l).toNat)
  case atStart => exact ⟨_, 0, rfl, HST.out, HSG.out⟩
  case round =>
    obtain ⟨S, vis, rfl, hM, hMG⟩ := hrel
    rcases List.eq_nil_or_concat S with rfl | ⟨S, e, rfl⟩
    · obtain ⟨ao, cap, rfl⟩ : ∃ ao cap, u5 = .slice ao 0 cap := by
        obtain ⟨_, ⟨e, _⟩ | ⟨g, cap, cur, e, _⟩⟩ := hM.own
        · exact ⟨_, _, e⟩
        · exact ⟨_, _, e⟩
      have hI := hM.inv
      have hs := hM.sum
      have hl := hM.lim
      simp only [tot] at hs
      have hd : (decide (1 + szL ks ≤ 262144) && A) = true := by
        rw [hI, decide_eq_true (by omega)]
        rfl
      have HKe := hid' (HSB.out _ hM.kept)
      have HD := hid' hd
      clear hM hMG hI hs hd
      go_wp2
      go_ret
      exact ⟨by rw [HD.out]; rfl, HKe.out⟩
    · rw [List.concat_eq_append] at hM hMG
      have HMG := hid' hMG
      clear hMG
      obtain ⟨gb, cap, rfl, hg, hgl, hcap, hmx, c0, c1, hM1, ⟨m, hKe⟩, hed, he1⟩ := hM.pop
      obtain ⟨hkl, ao, kcap, hev⟩ := hKe.shape
      rw [hev] at c0 hKe
      have hlim := hM.lim
      have hsum := hM1.sum
      have hlen := len_le_szL e.ks
      have hfw := hM.few
      rw [List.length_append, List.length_singleton] at hfw
      have HSB' := hid' hM.kept
      have HM1 := hid' hM1
      have HKE := hid' hKe
      have HMG1 : Hid (CM wB cb (1 + szL ks) true gd e.ks (szL e.ks) vis S (.slice (some ⟨gb, 0, none⟩) S.length cap) wr) := by
        obtain ⟨gb', cap', e', _, _, _, _, _, _, h', _⟩ := HMG.out.pop
        injection e' with e1 _ e3
        injection e1 with e1
        injection e1 with e1
        subst e1 e3
        exact h'
      clear HMG
      by_cases hfit : 262144 < vis + e.ks.length
      · have HD : Hid ((decide (1 + szL ks ≤ 262144) && A) = false) := by show _ = _; rw [decide_eq_false (by omega)]; rfl
        have HKe := hid' (HSB.out _ (HSB'.out.trans (Kept.of_below (below1 wr (.cells #[.slice ao e.ks.length kcap, .int .i64 (e.d : Int)] 48)))))
        clear hM hM1 hKe hsum hlen hev HM1 HMG1
        go_wp2
        go_ret
        exact ⟨by rw [HD.out]; rfl, HKe.out⟩
      · have HI0 := hid' (CI.start (rv := .slice ao e.ks.length kcap) (d := e.d) hM1 (by omega))
        have HG0 := hid' (CI.start (rv := .slice ao e.ks.length kcap) (d := e.d) HMG1.out (by omega))
        have HEV := hid' hev
        clear hM hM1 hKe hsum hlen hev HM1 HSB' HMG1
        go_wp2_with fail
        obtain ⟨rb, hrb⟩ : ∃ rb, rb = wr.heap.size := ⟨_, rfl⟩
        rw [← hrb] at HI0 HG0 ⊢
        clear hrb
        go_loopw [5, 41] (fun v i wx => ∃ S' k, k ≤ e.ks.length ∧ i = .int .i64 (k : Nat) ∧ CI wB cb (1 + szL ks) A ok (e.ks.drop k) (szL (e.ks.drop k)) (vis + k) S' v rb (.slice ao e.ks.length kcap) e.d wx ∧ CI wB cb (1 + szL ks) true gd (e.ks.drop k) (szL (e.ks.drop k)) (vis + k) S' v rb (.slice ao e.ks.length kcap) e.d wx) (fun _ i _ => e.ks.length - (intOf i).toNat)
        case atStart => exact ⟨S, 0, Nat.zero_le _, rfl, HI0.out, HG0.out⟩
        case round =>
          obtain ⟨S', k, hk, rfl, hI, hIG⟩ := hrel
          have y0 := hI.r0
          have y1 := hI.r1
          have yl := hI.rlt
          by_cases hlt : k < e.ks.length
          · obtain ⟨m', b, off, x', kv', ks', hm', rfl, ⟨hbl, hbn⟩, hke, hat, hK'⟩ := HKE.out.kid k hlt
            obtain ⟨hkl', ao', kcap', rfl⟩ := hK'.shape
            have hdr : e.ks.drop k = Tr.node x' ks' :: e.ks.drop (k + 1) := by rw [List.drop_eq_getElem_cons hlt, hke]
            rw [hdr] at hI hIG
            have hgk : gd x' ks' = true := by
              have h := hIG.wm.inv
              rw [allL_cons, allT_node] at h
              simp at h
              exact h.1.1.1
            have hat1 := hat.kept hI.wm.kept hbl hbn
            have hS := hid' (HSEE.out wr b (off + k * 6) x' (.slice ao' ks'.length kcap') m' ks' e.d hgk hat1 (Nat.lt_of_lt_of_le hbl hI.wm.kept.size) (hK'.kept hI.wm.kept))
            have hfs := hI.few
            have HAT := hid' hat
            have HK' := hid' hK'
            by_cases hok : ok x' ks' = true
            rotate_left
            · have hok' : ok x' ks' = false := by simpa using hok
              have hAf := hI.wm.not hok'
              have HD : Hid ((decide (1 + szL ks ≤ 262144) && A) = false) := by show _ = _; rw [hAf, Bool.and_false]
              have HKw := hid' hI.wm.kept
              rw [hok'] at hS
              clear hI hIG hdr hat hat1 hK' hke hok hok' hAf
              go_wp2_with ((with_reducible refine hS.out.mono ?_); rintro e5 w5 ⟨rfl, hb5⟩; have HN := hid' (HSB.out _ (HKw.out.trans (Kept.of_below hb5))); clear hb5)
              go_ret
              exact ⟨by rw [HD.out]; rfl, HN.out⟩
            have HI5 : Hid (∀ W', Below wr.heap.size wr W' → CI wB cb (1 + szL ks) A ok (e.ks.drop (k + 1) ++ ks') (szL (e.ks.drop (k + 1)) + szL ks') (vis + k + 1) S' u5 rb (.slice (some ⟨b, off, none⟩) e.ks.length kcap) e.d W') := fun W' hW => hI.see (by omega) hok hW
            have HG5 : Hid (∀ W', Below wr.heap.size wr W' → CI wB cb (1 + szL ks) true gd (e.ks.drop (k + 1) ++ ks') (szL (e.ks.drop (k + 1)) + szL ks') (vis + k + 1) S' u5 rb (.slice (some ⟨b, off, none⟩) e.ks.length kcap) e.d W') := fun W' hW => hIG.see (by omega) hgk hW
            rw [hok] at hS
            clear hI hIG hdr hat hat1 hK' hke hok hgk
            by_cases hks : 0 < ks'.length
            · go_wp2_with ((with_reducible refine hS.out.mono ?_); rintro e5 w5 ⟨rfl, hw5⟩; have hJ := HI5.out w5 hw5; have z0 := hJ.r0; have z1 := hJ.r1; have zl := hJ.rlt; obtain ⟨_, _, _, _, z4, _⟩ := HAT.out.kept hJ.wm.kept hbl hbn; have HJ := hid' hJ; have HJG := hid' (HG5.out w5 hw5); clear hJ hw5)
              have hown := HJ.out.wm.own
              have hbs := HJ.out.wm.kept.size
              have HY : Hid (((w5.alloc (.cells #[.slice ao' ks'.length kcap', .int .i64 (IntKind.i64.wrap ((e.d : Int) + 1))] 48)).drew).ownsRow wB.heap.size 48 2 u5 S'.length (entsC S')) := (World.ownsRow.alloc hown _).drew
              have HBD : Hid (Below w5.heap.size w5 ((w5.alloc (.cells #[.slice ao' ks'.length kcap', .int .i64 (IntKind.i64.wrap ((e.d : Int) + 1))] 48)).drew)) := (below1 _ _).drew
              clear hown
              go_region_law (refine step_app rfl (.tmp 60) (.tmp 69) 49 rfl wB.heap.size 48 i49 (.agg #[.slice none 0 0, .int .i64 0]) 2 32 Tryz.underlying49 hi49 hz0 hz1 hz2 rfl (by decide) u5 S'.length (entsC S') (by simp [Act.eval]) HY.out ⟨w5.heap.size, 0, none⟩ 1 1 [.slice ao' ks'.length kcap', .int .i64 (IntKind.i64.wrap ((e.d : Int) + 1))] (by simp [Act.eval]) rfl (cells2 (by simp [go_sem]) (by simp [go_sem])) (fun u hu => by simp at hu; rcases hu with rfl | rfl <;> rfl) (by unfold maxLen; omega) (by omega) (by simp; omega) ?_; intro v' w6 hown2 hgrow hloc)
              all_goals
                have hD : IntKind.i64.wrap ((e.d : Int) + 1) = ((e.d + 1 : Nat) : Int) := by rw [Go.IntWalk.i64_in _ (by omega)]; rfl
                have HN : Hid (CI wB cb (1 + szL ks) A ok (e.ks.drop (k + 1)) (szL (e.ks.drop (k + 1))) (vis + (k + 1)) (S' ++ [⟨.slice ao' ks'.length kcap', e.d + 1, ks'⟩]) v' rb (.slice (some ⟨b, off, none⟩) e.ks.length kcap) e.d w6) := HJ.out.push (by omega) hfs HK'.out hks HBD.out (by rw [← hD]; exact hown2) hgrow hloc
                have HNG : Hid (CI wB cb (1 + szL ks) true gd (e.ks.drop (k + 1)) (szL (e.ks.drop (k + 1))) (vis + (k + 1)) (S' ++ [⟨.slice ao' ks'.length kcap', e.d + 1, ks'⟩]) v' rb (.slice (some ⟨b, off, none⟩) e.ks.length kcap) e.d w6) := HJG.out.push (by omega) hfs HK'.out hks HBD.out (by rw [← hD]; exact hown2) hgrow hloc
                clear hown2 hgrow hloc hD
                try go_wp2
                exact ⟨⟨_, k + 1, by omega, by go_num, HN.out, HNG.out⟩, by simp [intOf]; omega⟩
            · have hks0 : ks' = [] := List.eq_nil_of_length_eq_zero (by omega)
              subst hks0
              go_wp2_with ((with_reducible refine hS.out.mono ?_); rintro e5 w5 ⟨rfl, hw5⟩; have hJ := HI5.out w5 hw5; have z0 := hJ.r0; have z1 := hJ.r1; have zl := hJ.rlt; obtain ⟨_, _, _, _, z4, _⟩ := HAT.out.kept hJ.wm.kept hbl hbn; have HJ := hid' hJ; have HJG := hid' (HG5.out w5 hw5); clear hJ hw5)
              have HN : CI wB cb (1 + szL ks) A ok (e.ks.drop (k + 1)) (szL (e.ks.drop (k + 1))) (vis + (k + 1)) S' u5 rb (.slice (some ⟨b, off, none⟩) e.ks.length kcap) e.d w5 := by
                have h := HJ.out
                rw [szL_nil, Nat.add_zero, List.append_nil] at h
                exact h
              have HNG : CI wB cb (1 + szL ks) true gd (e.ks.drop (k + 1)) (szL (e.ks.drop (k + 1))) (vis + (k + 1)) S' u5 rb (.slice (some ⟨b, off, none⟩) e.ks.length kcap) e.d w5 := by
                have h := HJG.out
                rw [szL_nil, Nat.add_zero, List.append_nil] at h
                exact h
              exact ⟨⟨S', k + 1, by omega, by go_num, HN, HNG⟩, by simp [intOf]; omega⟩
          · have hk' : k = e.ks.length := by omega
            subst hk'
            rw [List.drop_length] at hI hIG
            have HN := hid' hI.wm.done
            have HNG := hid' hIG.wm.done
            clear hI hIG
            go_wp2_with fail
            exact ⟨⟨S', vis + e.ks.length, by congr 1; omega, HN.out, HNG.out⟩, by simp [intOf]; omega⟩
end Go.Proofs.YtnnnfabpceapcaaGreatDoor
