/- A string's token, by the program. -/
import Derived.Test.YtjeioblhpfogfaaGreatDoorX01
set_option linter.unusedVariables false
set_option linter.unusedSimpArgs false
set_option maxRecDepth 20000
set_option maxHeartbeats 8000000
namespace Go.Proofs.YtjeioblhpfogfaaGreatDoorLx
open Go.RowKit

abbrev box0 : Obj := .cells #[.int .i64 0, .string ⟨#[]⟩, .int .u32 0, .bool false, .int .i64 0, .int .i64 0] 42
/-- The zeros behind calls that have turned nothing. -/
theorem zkept {w w1 : World} (hb : Below (w.alloc box0).heap.size (w.alloc box0) w1) :
    (w1.cell? ⟨w.heap.size, 0, none⟩ = some (.int .i64 0) ∧ w1.cell? ⟨w.heap.size, 1, none⟩ = some (.string ⟨#[]⟩) ∧ w1.cell? ⟨w.heap.size, 2, none⟩ = some (.int .u32 0) ∧ w1.cell? ⟨w.heap.size, 3, none⟩ = some (.bool false) ∧ w1.cell? ⟨w.heap.size, 4, none⟩ = some (.int .i64 0) ∧ w1.cell? ⟨w.heap.size, 5, none⟩ = some (.int .i64 0)) ∧
    (∀ o, w1.frozen? ⟨w.heap.size, o, none⟩ = false) ∧ Below w.heap.size w w1 ∧ w.heap.size < w1.heap.size := by
  obtain ⟨hc, hf⟩ := bcell hb
  have hl : w.heap.size < (w.alloc box0).heap.size := by simp
  refine ⟨⟨?_, ?_, ?_, ?_, ?_, ?_⟩, fun o => ?_, below_box2 hb, Nat.lt_of_lt_of_le hl hb.size⟩
  all_goals first | (rw [hc _ _ hl]; simp [go_sem]) | (rw [hf _ _ hl]; simp [go_sem])
theorem below_set6 {w W : World} (h : Below w.heap.size w W) (v0 v1 v2 v3 v4 v5 : Value) : Below w.heap.size w ((((((W.setCell ⟨w.heap.size, 0, none⟩ v0).setCell ⟨w.heap.size, 1, none⟩ v1).setCell ⟨w.heap.size, 2, none⟩ v2).setCell ⟨w.heap.size, 3, none⟩ v3).setCell ⟨w.heap.size, 4, none⟩ v4).setCell ⟨w.heap.size, 5, none⟩ v5) :=
  (((((h.setCell (Nat.le_refl _) v0).setCell (Nat.le_refl _) v1).setCell (Nat.le_refl _) v2).setCell (Nat.le_refl _) v3).setCell (Nat.le_refl _) v4).setCell (Nat.le_refl _) v5



/-- The units so far. -/
theorem units_step {l : List UInt8} {mk b : UInt8} {k n : Nat} {L : List UInt8} {M : Nat} {a : List UInt8} {A : Nat} (h : (L, M) = (a ++ (units mk (l.drop k)).1, A + (units mk (l.drop k)).2)) (hu : unitF mk (l.drop k) = some (b, n)) :
    (L, M) = ((a ++ [b]) ++ (units mk (l.drop (k + n))).1, (A + n) + (units mk (l.drop (k + n))).2) := by
  rw [h, units_some hu, List.drop_drop]
  simp [Nat.add_assoc]

theorem text40 (s : ByteArray) (hs : s.size < 4294967281) (h0 : 0 < s.size) (hm : s[0].toNat = 34) (w : World) :
    Calls Tryz.prog 177 #[.string s] w fun e w' => e = .returned (readV (textF (lst s))) ∧ Below w.heap.size w w' := by
  have h0' : (0 : Int) < s.size := by omega
  have h1' : (1 : Int) ≤ s.size := by omega
  have hm1 : s[0] = 34 := UInt8.toNat_inj.1 hm
  have hc0 : ∀ k w, Calls Tryz.prog 219 #[.string (s.extract k s.size), byteV s[0]] w fun e w' => e = .returned (unitV (unitF 34 ((lst s).drop k))) ∧ ∃ n, w' = w.drewN n := fun k w => by
    have := ext_at s k s[0] w
    have e : unitF s[0] ((lst s).drop k) = unitF 34 ((lst s).drop k) := by rw [hm1]
    rw [e] at this
    exact this
  clear hm hm1
  have hlen := lst_len s
  obtain ⟨L, M, hLM⟩ : ∃ L M, (L, M) = units 34 ((lst s).drop 1) := ⟨_, _, rfl⟩
  have hX : textF (lst s) = if [34].isPrefixOf ((lst s).drop (1 + M)) then some (⟨7, L, 0, false⟩, M + 2) else none := by
    unfold textF
    rw [← hLM]
  replace hX := hid hX
  generalize textF (lst s) = X at hX ⊢
  obtain ⟨i0, hi, hz0, hz1, hz2⟩ := info_parts info5'
  go_enter Tryz.func177, Tryz.ntmps177
  go_wp2
  go_loopw [4, 5] (fun v i wr => ∃ (k : Nat) (a : List UInt8), 1 ≤ k ∧ k ≤ s.size ∧ a.length ≤ k ∧ i = .int .i64 k ∧ (L, M) = (a ++ (units 34 ((lst s).drop k)).1, (k - 1) + (units 34 ((lst s).drop k)).2) ∧
    wr.ownsRow (w.heap.size + 1) 5 1 v a.length (vals a) ∧ Below (w.alloc box0).heap.size (w.alloc box0) wr) (fun _ i _ => s.size - (intOf i).toNat)
  case atStart => exact ⟨1, [], Nat.le_refl _, by omega, Nat.zero_le _, rfl, by rw [hLM]; simp, ⟨rfl, .inl ⟨rfl, rfl⟩⟩, Below.refl _ _⟩
  case round =>
    obtain ⟨k, a, hk1, hk, hak, rfl, hU, hO, hB⟩ := hrel
    have HU := hid hU
    have HO := hid hO
    have HB := hid hB
    clear hU hO hB
    have hks : (k : Int) ≤ s.size := by omega
    have hc := hc0 k
    cases hu : unitF 34 ((lst s).drop k) with
    | none =>
      rw [hu] at hc
      simp only [unitV] at hc
      have hp := fun w => hasPrefix34 (s.extract k s.size) ⟨#[34]⟩ [34] rfl w
      rw [lst_ext] at hp
      have hU2 := HU.out
      rw [units_none hu] at hU2
      simp only [List.append_nil, Nat.add_zero, Prod.mk.injEq] at hU2
      obtain ⟨rfl, rfl⟩ := hU2
      rw [show 1 + (k - 1) = k by omega] at hX
      clear hu
      generalize [34].isPrefixOf ((lst s).drop k) = B at hX hp
      go_wp2
      go_quiet (with_reducible exact Calls.quiet_of (hc _))
      have HO2 : Hid ((wr.drewN nq).ownsRow (w.heap.size + 1) 5 1 u4 L.length (vals L)) := HO.out
      have HB2 : Hid (Below (w.alloc box0).heap.size (w.alloc box0) (wr.drewN nq)) := HB.out.trans ⟨rfl, rfl, rfl, Nat.le_refl _, fun _ _ => rfl⟩
      clear HO HB hc hc0
      generalize wr.drewN nq = w2 at HO2 HB2 ⊢
      have hcv := conv_own HO2.out
      obtain ⟨⟨k0, k1, k2, k3, k4, k5⟩, hz, hB, hlt⟩ := zkept HB2.out
      have z0 := hz 0
      have z1 := hz 1
      have z2 := hz 2
      have z3 := hz 3
      have z4 := hz 4
      have z5 := hz 5
      replace hB := hid hB
      clear hz
      cases B
      · go_wp2_with (go_at_call 169; refine (hp _).mono ?_; rintro e w1 ⟨rfl, rfl⟩)
        rw [show X = none from hX.out]
        exact bodyPost_ret (v := readV none) (by simp [results, Tryz.results177, go_sem, readV, zeroV, k0, k1, k2, k3, k4, k5]) rfl ⟨rfl, below_set6 hB.out _ _ _ _ _ _⟩
      · go_wp2_with (go_at_call 169; refine (hp _).mono ?_; rintro e w1 ⟨rfl, rfl⟩)
        rw [show X = some (⟨7, L, 0, false⟩, k - 1 + 2) from hX.out]
        refine bodyPost_ret (v := .tuple #[tokV ⟨7, L, 0, false⟩ 0 0, .int .i64 ((k : Int) + 1)]) (by simp [results, Tryz.results177, go_sem, tokV, k0, k1, k2, k3, k4, k5]) rfl ⟨ret_v ?_, below_set6 hB.out _ _ _ _ _ _⟩
        show Value.tuple #[_, Value.int .i64 _] = Value.tuple #[_, Value.int .i64 _]
        rw [show ((k : Int) + 1) = ((k - 1 + 2 : Nat) : Int) by omega]
    | some p =>
      obtain ⟨b, n⟩ := p
      have hn := unitF_len hu
      rw [hu] at hc
      simp only [unitV] at hc
      have HU2 := hid (units_step HU.out hu)
      rw [List.length_drop] at hn
      have hn1 : ¬ n = 0 := by omega
      clear hu
      go_wp2
      go_quiet (with_reducible exact Calls.quiet_of (hc _))
      have HO2 : Hid ((wr.drewN nq).ownsRow (w.heap.size + 1) 5 1 u4 a.length (vals a)) := HO.out
      have HB2 : Hid (Below (w.alloc box0).heap.size (w.alloc box0) (wr.drewN nq)) := HB.out.trans ⟨rfl, rfl, rfl, Nat.le_refl _, fun _ _ => rfl⟩
      clear HO HB hc hc0
      generalize wr.drewN nq = w2 at HO2 HB2 ⊢
      have hlt : w.heap.size + 1 ≤ w2.heap.size := (zkept HB2.out).2.2.2
      go_wp2_with (at_builtin; refine of_mark ?_)
      unfold Mark
      refine wpList_append_own _ rfl _ _ 40 rfl (w.heap.size + 1) 5 i0 (.int .u8 0) 1 1 Tryz.underlying40 hi hz0 hz1 hz2 rfl (by decide) _ _ _ rfl (World.ownsRow.alloc HO2.out _) ⟨w2.heap.size, 0, none⟩ 1 1 [.int .u8 (b.toNat : Int)] rfl rfl ?c1 ?c2 ?c3 ?c4 ?c5 ?_
      case c1 => intro j u hj; rw [Addr.add_lit]; match j, hj with | 0, hj => (simp at hj; subst hj; simp [go_sem])
      case c2 => intro u hu; simp at hu; subst hu; rfl
      case c3 => unfold maxLen; omega
      case c4 => omega
      case c5 => simp; omega
      · intro v' w3 hown2 hgrow _
        have hb2 := hid (((Below.refl (w.heap.size + 1) w2).alloc hlt (.cells #[.int .u8 (b.toNat : Int)] 5)).grown hgrow (by simp; omega) (fun k hk => (HO2.out.lt k hk).1))
        have ho2 : Hid (w3.ownsRow (w.heap.size + 1) 5 1 v' (a ++ [b]).length (vals (a ++ [b]))) := by
          rw [vals_append, List.length_append]; exact hown2
        clear hown2 hgrow
        go_wp2
        go_roundw
        case rel =>
          have hw : (w.alloc box0).heap.size = w.heap.size + 1 := by simp
          refine ⟨k + n, a ++ [b], by omega, by omega, by simp; omega, vi (by omega), ?_, ho2.out, HB2.out.trans (by rw [hw]; exact hb2.out)⟩
          rw [HU2.out]
          simp only [Prod.mk.injEq, true_and]
          omega
        case measure => simp [intOf]; omega
end Go.Proofs.YtjeioblhpfogfaaGreatDoorLx
