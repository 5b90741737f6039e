/- A quoted text's token, by the document. -/
import Derived.Test.YtjeioblhpfogfaaGreatDoorX41
import Derived.Test.YtjeioblhpfogfaaGreatDoorX42
import Derived.Test.YtjeioblhpfogfaaGreatDoorX43
set_option linter.unusedVariables false
set_option linter.unusedSimpArgs false
set_option maxRecDepth 20000
set_option maxHeartbeats 8000000
namespace Go.Proofs.YtjeioblhpfogfaaGreatDoorLx
open Go.RowKit

theorem tokP_none {p : Nat} : TokP p none (.returned (.tuple #[zeroV, .bool false])) := ⟨_, _, _, _, _, _, rfl⟩
theorem unit_stop {mk : UInt8} {l : List UInt8} {k : Nat} {L : List UInt8} {M : Nat} {a : List UInt8} {A : Nat} (h : (L, M) = (a ++ (units mk (l.drop k)).1, A + (units mk (l.drop k)).2)) (hu : unitF mk (l.drop k) = none) : L = a ∧ M = A := by
  rw [units_none hu] at h
  simpa using h
theorem quot_eq {mk : UInt8} {l L : List UInt8} {M : Nat} (h : (L, M) = units mk (l.drop 1)) : quotF mk l = if [mk].isPrefixOf (l.drop (1 + M)) = true then
    (if mk = 34 then some (⟨7, L, 0, false⟩, M + 2) else if L.length = 1 then some (⟨6, [], (L.headD 0).toNat, false⟩, M + 2) else none) else none := by
  unfold quotF
  rw [← h]

theorem quoted44 (s : ByteArray) (p : Nat) (hp : p < s.size) (hs : s.size < 4294967281) (hm : s[p].toNat = 34 ∨ s[p].toNat = 39) (w : World) :
    Calls Tryz.prog 117 #[.string s, .int .i64 (p : Int)] w fun e w' => TokP p (quotF s[p] ((lst s).drop p)) e ∧ Below w.heap.size w w' := by
  obtain ⟨mk, hmk⟩ : ∃ mk, mk = s[p] := ⟨_, rfl⟩
  rw [← hmk] at hm ⊢
  have hmv : byteV s[p] = byteV mk := by rw [hmk]
  have hp' : (p : Int) < s.size := by omega
  obtain ⟨L, M, hLM⟩ : ∃ L M, (L, M) = units mk (((lst s).drop p).drop 1) := ⟨_, _, rfl⟩
  have hX := quot_eq hLM
  rw [List.drop_drop] at hLM hX
  obtain ⟨X, hX'⟩ : ∃ X, X = quotF mk ((lst s).drop p) := ⟨_, rfl⟩
  rw [← hX'] at hX ⊢
  clear hX'
  replace hX := hid hX
  obtain ⟨i0, hi, hz0, hz1, hz2⟩ := info_parts info5'
  have hun := fun k hk w => unit59 s k mk hk hs w
  go_enter Tryz.func117, Tryz.ntmps117
  go_upto_region 2 with fail
  clear hmk hmv
  go_upto_block 0 with fail
  go_cut [6, 7, 8] (fun c v i wx => ∃ k : Nat, c = byteV mk ∧ i = .int .i64 (k : Nat) ∧ k ≤ s.size ∧ k = p + 1 + M ∧ L.length ≤ k ∧ (k < s.size → Hid ([mk].isPrefixOf ((lst s).drop k) = true)) ∧ wx.ownsRow (w.heap.size + 1) 5 1 v L.length (vals L) ∧ Below (w.alloc zBox).heap.size (w.alloc zBox) wx)
  case first =>
    go_wp2_with fail
    go_loopw [7, 8] (fun v i wr => ∃ (k : Nat) (a : List UInt8), p + 1 ≤ k ∧ k ≤ s.size ∧ a.length ≤ k ∧ i = .int .i64 k ∧ (L, M) = (a ++ (units mk ((lst s).drop k)).1, (k - (p + 1)) + (units mk ((lst s).drop k)).2) ∧
      wr.ownsRow (w.heap.size + 1) 5 1 v a.length (vals a) ∧ Below (w.alloc zBox).heap.size (w.alloc zBox) wr) (fun _ i _ => s.size - (intOf i).toNat)
    case atStart => exact ⟨p + 1, [], Nat.le_refl _, by omega, Nat.zero_le _, vi (by omega), by rw [hLM]; simp, ⟨rfl, .inl ⟨rfl, rfl⟩⟩, Below.refl _ _⟩
    case round =>
      obtain ⟨k, a, hk1, hk, hak, rfl, hU, hO, hB⟩ := hrel
      have HU := hid hU
      have HO := hid hO
      have HB := hid hB
      clear hU hO hB
      have hks : (k : Int) ≤ s.size := by omega
      by_cases hlt : k < s.size
      · have hl := hid (lst_cons s k hlt)
        by_cases hsk : s[k].toNat = mk.toNat
        · have hu : unitF mk ((lst s).drop k) = none := by rw [hl.out]; simp [unitF, hsk]
          obtain ⟨e1, e2⟩ := unit_stop HU.out hu
          have hpre : Hid ([mk].isPrefixOf ((lst s).drop k) = true) := by
            show _ = _
            rw [hl.out, show s[k] = mk from UInt8.toNat_inj.1 hsk]
            simp
          have hsk' : ((s[k].toNat : Int) != (mk.toNat : Int)) = false := by simp; omega
          have E1 := hid e1
          have E2 := hid e2
          clear hu hsk e1 e2
          go_wp2
          go_meet
          case rel => exact ⟨k, rfl, rfl, hk, by rw [E2.out]; omega, by rw [E1.out]; exact hak, fun _ => hpre, by rw [E1.out]; exact HO.out, HB.out⟩
        · have hsk' : ((s[k].toNat : Int) != (mk.toNat : Int)) = true := by simp; omega
          have hc := fun w => hun k hk w
          cases hu : unitF mk ((lst s).drop k) with
          | none =>
            obtain ⟨e1, e2⟩ := unit_stop HU.out hu
            have hXn : X = none := by
              rw [hX.out, e2, show p + (1 + (k - (p + 1))) = k by omega, hl.out, if_neg]
              intro h
              simp at h
              exact hsk (by rw [h])
            rw [hu] at hc
            replace hXn := hid hXn
            clear hu hsk e1 e2 hun
            obtain ⟨⟨k0, k1, k2, k3, k4, k5⟩, hz, hB, hltz⟩ := zkept HB.out
            have z0 := hz 0
            have z1 := hz 1
            have z2 := hz 2
            have z3 := hz 3
            have z4 := hz 4
            have z5 := hz 5
            replace hB := hid hB
            clear hz
            go_wp2_with (go_at_call 167; (with_reducible refine (hc _).mono ?_); rintro e w1 ⟨⟨x, y, rfl⟩, rfl⟩)
            rw [hXn.out]
            exact bodyPost_ret (v := .tuple #[zeroV, .bool false]) (by simp [results, Tryz.results117, go_sem, zeroV, k0, k1, k2, k3, k4, k5]) rfl ⟨tokP_none, below_set6 hB.out _ _ _ _ _ _⟩
          | some q =>
            obtain ⟨b, n⟩ := q
            have hn := unitF_len hu
            rw [hu] at hc
            have HU2 := hid (units_step HU.out hu)
            rw [List.length_drop, lst_len] at hn
            clear hu hsk hun
            simp only [unitP] at hc
            have hlt2 : w.heap.size + 1 ≤ wr.heap.size := (zkept HB.out).2.2.2
            go_wp2_with (first
              | (go_at_call 167; (with_reducible refine (hc _).mono ?_); rintro e w1 ⟨rfl, rfl⟩)
              | (at_builtin; refine of_mark ?_))
            unfold Mark
            refine wpList_append_own _ rfl _ _ 40 rfl (w.heap.size + 1) 5 i0 (.int .u8 0) 1 1 Tryz.underlying40 hi hz0 hz1 hz2 rfl (by decide) _ _ _ rfl (World.ownsRow.alloc HO.out _) ⟨w1.heap.size, 0, none⟩ 1 1 [.int .u8 (b.toNat : Int)] rfl rfl ?c1 ?c2 ?c3 ?c4 ?c5 ?_
            case c1 => intro j u hj; rw [Addr.add_lit]; match j, hj with | 0, hj => (simp at hj; subst hj; simp [go_sem])
            case c2 => intro u hu; simp at hu; subst hu; rfl
            case c3 => unfold maxLen; omega
            case c4 => omega
            case c5 => simp; omega
            · intro v' w3 hown2 hgrow _
              have hb2 := hid (((Below.refl (w.heap.size + 1) w1).alloc hlt2 (.cells #[.int .u8 (b.toNat : Int)] 5)).grown hgrow (by simp; omega) (fun k hk => (HO.out.lt k hk).1))
              have ho2 : Hid (w3.ownsRow (w.heap.size + 1) 5 1 v' (a ++ [b]).length (vals (a ++ [b]))) := by
                rw [vals_append, List.length_append]; exact hown2
              clear hown2 hgrow
              go_wp2
              go_roundw
              case rel =>
                have hw : (w.alloc zBox).heap.size = w.heap.size + 1 := by simp
                refine ⟨k + n, a ++ [b], by omega, by omega, by simp; omega, vi (by omega), ?_, ho2.out, HB.out.trans (by rw [hw]; exact hb2.out)⟩
                rw [HU2.out]
                simp only [Prod.mk.injEq, true_and]
                omega
              case measure => simp [intOf]; omega
      · have hu : unitF mk ((lst s).drop k) = none := by rw [lst_nil s k (by omega)]; rfl
        obtain ⟨e1, e2⟩ := unit_stop HU.out hu
        have E1 := hid e1
        have E2 := hid e2
        clear hu e1 e2
        go_wp2
        go_meet
        case rel => exact ⟨k, rfl, rfl, hk, by rw [E2.out]; omega, by rw [E1.out]; exact hak, fun h => absurd h hlt, by rw [E1.out]; exact HO.out, HB.out⟩
  case rest =>
    obtain ⟨k, rfl, rfl, hk, hkM, hLk, hpre, hO, hB⟩ := hcut
    clear hun hLM
    have HO := hid hO
    have hks : (k : Int) ≤ s.size := by omega
    obtain ⟨⟨k0, k1, k2, k3, k4, k5⟩, hz, hBB, hltz⟩ := zkept hB
    have z0 := hz 0
    have z1 := hz 1
    have z2 := hz 2
    have z3 := hz 3
    have z4 := hz 4
    have z5 := hz 5
    replace hBB := hid hBB
    clear hz hB
    rw [show p + (1 + M) = k by omega] at hX
    have HkM := hid hkM
    clear hkM
    by_cases hlt : k < s.size
    · have hlt' : (k : Int) < s.size := by omega
      have hX2 := hX.out
      rw [if_pos (hpre hlt).out] at hX2
      clear hX hpre
      rcases hm with hm | hm
      · obtain rfl : mk = 34 := UInt8.toNat_inj.1 hm
        rw [if_pos rfl] at hX2
        have HX2 := hid hX2
        have hcv := conv_own HO.out
        clear hX2 hm hO
        go_wp2
        rw [HX2.out]
        refine bodyPost_ret (v := .tuple #[tokV ⟨7, L, 0, false⟩ (p : Int) ((k : Int) + 1), .bool true]) (by simp [results, Tryz.results117, go_sem, tokV, k0, k1, k2, k3, k4, k5]) rfl ⟨?_, below_set6 hBB.out _ _ _ _ _ _⟩
        show Ending.returned _ = Ending.returned _
        rw [show (k : Int) + 1 = ((p + (M + 2) : Nat) : Int) by rw [HkM.out]; omega]
      · obtain rfl : mk = 39 := UInt8.toNat_inj.1 hm
        rw [if_neg (by decide)] at hX2
        clear hm
        have hO2 := hO
        obtain ⟨_, ⟨rfl, h0⟩ | ⟨g, cap, cur, rfl, _⟩⟩ := hO
        · rw [if_neg (by omega)] at hX2
          have HX2 := hid hX2
          clear hX2 hO2 HO h0 hLk
          go_wp2
          rw [HX2.out]
          exact bodyPost_ret (v := .tuple #[zeroV, .bool false]) (by simp [results, Tryz.results117, go_sem, zeroV, k0, k1, k2, k3, k4, k5]) rfl ⟨tokP_none, below_set6 hBB.out _ _ _ _ _ _⟩
        · by_cases h1 : L.length = 1
          · rw [if_pos h1] at hX2
            obtain ⟨b, rfl⟩ : ∃ b, L = [b] := by
              match L, h1 with
              | [b], _ => exact ⟨b, rfl⟩
            have HX2 := hid hX2
            have hc0 := hO2.cells (g := g) rfl 0 (.int .u8 (b.toNat : Int)) rfl
            rw [Addr.add_lit] at hc0
            have hbl := b.toNat_lt
            clear hX2 hO2 HO h1
            go_wp2
            rw [HX2.out]
            refine bodyPost_ret (v := .tuple #[tokV ⟨6, [], b.toNat, false⟩ (p : Int) ((k : Int) + 1), .bool true]) (by simp [results, Tryz.results117, go_sem, tokV, strL, k0, k1, k2, k3, k4, k5]) rfl ⟨?_, below_set6 hBB.out _ _ _ _ _ _⟩
            show Ending.returned _ = Ending.returned _
            rw [show (k : Int) + 1 = ((p + (M + 2) : Nat) : Int) by rw [HkM.out]; omega]
            rfl
          · rw [if_neg h1] at hX2
            have HX2 := hid hX2
            have h1' : ((L.length : Int) != 1) = true := by simp; omega
            clear hX2 hO2 HO h1
            go_wp2
            rw [HX2.out]
            exact bodyPost_ret (v := .tuple #[zeroV, .bool false]) (by simp [results, Tryz.results117, go_sem, zeroV, k0, k1, k2, k3, k4, k5]) rfl ⟨tokP_none, below_set6 hBB.out _ _ _ _ _ _⟩
    · have hX2 := hX.out
      rw [lst_nil s k (by omega), if_neg (by simp)] at hX2
      have HX2 := hid hX2
      clear hX hpre hX2
      go_wp2
      rw [HX2.out]
      exact bodyPost_ret (v := .tuple #[zeroV, .bool false]) (by simp [results, Tryz.results117, go_sem, zeroV, k0, k1, k2, k3, k4, k5]) rfl ⟨tokP_none, below_set6 hBB.out _ _ _ _ _ _⟩
end Go.Proofs.YtjeioblhpfogfaaGreatDoorLx
