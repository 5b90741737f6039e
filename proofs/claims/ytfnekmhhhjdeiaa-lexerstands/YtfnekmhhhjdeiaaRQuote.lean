/- Quote, by the document. -/
import Derived.Test.YtfnekmhhhjdeiaaBuild
import Derived.Deep.RegionLaw
namespace Go.Proofs.Ytfnekmhhhjdeiaa
open Go.RowKit
set_option linter.unusedVariables false

/-- append to a slice that the call itself made, as one step of a region that draws its order. -/
theorem step_app {P : Program} {ops : Array Oper} {o : Oper} {a : Act} {w : World} {K : Act → World → Prop} {Q : Exit → Act → World → Prop} {E : Prop}
    (hg : o.guard = none) (s x : Operand) (t : TypeId) (hop : o.op = Op.call { callee := Callee.builtin Builtin.append, args := #[s, x], argTypes := #[t, t] })
    (base : Nat) (e : TypeId) (i : TypeInfo) (z : Value) (size bytes : Nat) (h1 : P.underlying t = some (.slice e)) (h2 : P.info? e = some i) (h3 : i.zero = some z) (h4 : i.size = size) (h5 : i.bytes = bytes) (h6 : z.cells.size = size) (h7 : 0 < size)
    (v : Value) (n : Nat) (xs : List Value) (hs : a.eval s = v) (hown : w.ownsRow base e size v n xs)
    (ad : Addr) (m c : Nat) (news : List Value) (hx : a.eval x = .slice (some ad) m c) (hn : news.length = m * size) (hc : ∀ j u, news[j]? = some u → w.cell? (ad.add j) = some u) (h1c : ∀ u ∈ news, u.oneCell' = true)
    (b1 : n + m ≤ maxLen) (b2 : (n + m) * bytes ≤ 140737488355328) (hbase : base ≤ w.heap.size)
    (hK : ∀ v' w', w'.ownsRow base e size v' (n + m) (xs ++ news) → w.grownBy w' v.ownBlock → K (a.put o.dst v') w') :
    if Region.wanted o (yielded ops a.tmps) = true then Oper.wp P o a w K Q else E := by
  have hw : Region.wanted o (yielded ops a.tmps) = true := by simp [Region.wanted, hg]
  rw [if_pos hw]
  obtain ⟨v', w', hrun, r1, r2, _⟩ := run_append_own (P := P) w base t o.type e i z size bytes h1 h2 h3 h4 h5 h6 h7 v n xs hown ad m c news hn hc h1c b1 b2 hbase
  unfold Oper.wp
  simp [execOp, hop, resolve, invoke, builtin, hs, hx, hrun, Result.andThen]
  exact hK v' w' r1 r2
/-- A row of bytes of a call's own. -/
def RowB (w : World) (B : Nat) (v : Value) (l : List UInt8) : Prop := w.ownsRow B 5 1 v l.length (vals l)
theorem cells1 {w : World} {g : Nat} {a : Value} (h0 : w.cell? ⟨g, 0, none⟩ = some a) : ∀ (j : Nat) (u : Value), [a][j]? = some u → w.cell? ((⟨g, 0, none⟩ : Addr).add j) = some u := by
  intro j u hj
  rw [Addr.add_lit]
  match j, hj with
  | 0, hj => simp at hj; subst hj; simpa using h0
theorem cells2 {w : World} {g : Nat} {a b : Value} (h0 : w.cell? ⟨g, 0, none⟩ = some a) (h1 : w.cell? ⟨g, 1, none⟩ = some b) : ∀ (j : Nat) (u : Value), [a, b][j]? = some u → w.cell? ((⟨g, 0, none⟩ : Addr).add j) = some u := by
  intro j u hj
  rw [Addr.add_lit]
  match j, hj with
  | 0, hj => simp at hj; subst hj; simpa using h0
  | 1, hj => simp at hj; subst hj; simpa using h1
theorem cells4 {w : World} {g : Nat} {a b c d : Value} (h0 : w.cell? ⟨g, 0, none⟩ = some a) (h1 : w.cell? ⟨g, 1, none⟩ = some b) (h2 : w.cell? ⟨g, 2, none⟩ = some c) (h3 : w.cell? ⟨g, 3, none⟩ = some d) : ∀ (j : Nat) (u : Value), [a, b, c, d][j]? = some u → w.cell? ((⟨g, 0, none⟩ : Addr).add j) = some u := by
  intro j u hj
  rw [Addr.add_lit]
  match j, hj with
  | 0, hj => simp at hj; subst hj; simpa using h0
  | 1, hj => simp at hj; subst hj; simpa using h1
  | 2, hj => simp at hj; subst hj; simpa using h2
  | 3, hj => simp at hj; subst hj; simpa using h3
theorem rowB_append {w : World} {B : Nat} {v : Value} {l d : List UInt8} {m : Nat} {news : List Value} (hd : vals d = news) (hm : d.length = m) (h : w.ownsRow B 5 1 v (l.length + m) (vals l ++ news)) : RowB w B v (l ++ d) := by
  unfold RowB
  rw [vals_append, List.length_append, hd, hm]
  exact h

set_option maxRecDepth 20000 in
set_option maxHeartbeats 8000000 in
theorem quote20 (s : ByteArray) (hs : s.size ≤ 1048576) (w : World) : Calls Try.prog 20 #[.string s] w fun e w' => e = .returned (.string (strL (quoteL (lst s)))) ∧ Below w.heap.size w w' := by
  have hlen := lst_len s
  obtain ⟨i0, hi, hz0, hz1, hz2⟩ := info_parts info5'
  go_enter Try.func20, Try.ntmps20
  go_wp2
  go_loopw [3, 4] (fun v i wr => ∃ k : Nat, k ≤ s.size ∧ i = .int .i64 k ∧ RowB wr w.heap.size v ([34] ++ ((lst s).take k).flatMap qb) ∧ Below w.heap.size w wr) (fun _ i _ => s.size - (intOf i).toNat)
  case atStart => exact ⟨0, Nat.zero_le _, rfl, ⟨rfl, .inr ⟨w.heap.size, 1, #[.int .u8 34], rfl, Nat.le_refl _, heap_alloc_new w _, Nat.le_refl _, by unfold maxLen; omega, rfl, rfl⟩⟩, below_box _ _⟩
  case round =>
    obtain ⟨k, hk, rfl, hO, hB⟩ := hrel
    have HO := hid hO
    have HB := hid hB
    have hsz := hB.size
    clear hO hB
    have hl : ([34] ++ ((lst s).take k).flatMap qb).length ≤ 4194305 := by
      have h1 := flat_len ((lst s).take k)
      rw [List.length_take] at h1
      rw [List.length_append]
      simp only [List.length_cons, List.length_nil]
      omega
    have HT : Hid (∀ h : k < s.size, [34] ++ ((lst s).take (k + 1)).flatMap qb = ([34] ++ ((lst s).take k).flatMap qb) ++ qb s[k]) := fun h => by
      rw [take_succ s k h, List.flatMap_append, ← List.append_assoc]
      simp
    generalize hL : [34] ++ ((lst s).take k).flatMap qb = L at *
    by_cases hlt : k < s.size
    · have HT2 := hid (HT.out hlt)
      clear HT hL
      have hcl := s[k].toNat_lt
      by_cases q10 : s[k].toNat = 10
      · have hq : qb s[k] = [92, 110] := by unfold qb; rw [if_pos q10]
        have b10 : ((s[k].toNat : Int) == 10) = true := by simp; omega
        go_wp2_with (at_builtin; refine of_mark ?_)
        unfold Mark
        refine wpList_append_own _ rfl _ _ 36 rfl w.heap.size 5 i0 (.int .u8 0) 1 1 Try.underlying36 hi hz0 hz1 hz2 rfl (by decide) _ _ _ rfl (World.ownsRow.alloc HO.out _) ⟨wr.heap.size, 0, none⟩ 2 2 [.int .u8 92, .int .u8 110] rfl rfl (cells2 (by simp [go_sem]) (by simp [go_sem])) ?c2 ?c3 ?c4 ?c5 ?_
        case c2 => intro u hu; simp at hu; rcases hu with rfl | rfl <;> rfl
        case c3 => unfold maxLen; omega
        case c4 => omega
        case c5 => simp; omega
        intro v' w3 hown2 hgrow _
        have HB3 : Hid (Below w.heap.size w w3) := ((HB.out.alloc hsz _).grown hgrow (by simp; omega) (fun j hj => (World.ownsRow.lt HO.out j hj).1))
        have HO3 : Hid (RowB w3 w.heap.size v' (L ++ [92, 110])) := rowB_append rfl rfl hown2
        rw [← hq] at HO3
        clear hown2 hgrow
        go_wp2
        go_roundw
        case rel => exact ⟨k + 1, by omega, vi (by omega), by rw [HT2.out]; exact HO3.out, HB3.out⟩
        case measure => simp [intOf]; omega
      · skip
        by_cases q9 : s[k].toNat = 9
        · have hq : qb s[k] = [92, 116] := by unfold qb; rw [if_neg q10]; rw [if_pos q9]
          have b10 : ((s[k].toNat : Int) == 10) = false := by simp; omega
          have b9 : ((s[k].toNat : Int) == 9) = true := by simp; omega
          go_wp2_with (at_builtin; refine of_mark ?_)
          unfold Mark
          refine wpList_append_own _ rfl _ _ 36 rfl w.heap.size 5 i0 (.int .u8 0) 1 1 Try.underlying36 hi hz0 hz1 hz2 rfl (by decide) _ _ _ rfl (World.ownsRow.alloc HO.out _) ⟨wr.heap.size, 0, none⟩ 2 2 [.int .u8 92, .int .u8 116] rfl rfl (cells2 (by simp [go_sem]) (by simp [go_sem])) ?c2 ?c3 ?c4 ?c5 ?_
          case c2 => intro u hu; simp at hu; rcases hu with rfl | rfl <;> rfl
          case c3 => unfold maxLen; omega
          case c4 => omega
          case c5 => simp; omega
          intro v' w3 hown2 hgrow _
          have HB3 : Hid (Below w.heap.size w w3) := ((HB.out.alloc hsz _).grown hgrow (by simp; omega) (fun j hj => (World.ownsRow.lt HO.out j hj).1))
          have HO3 : Hid (RowB w3 w.heap.size v' (L ++ [92, 116])) := rowB_append rfl rfl hown2
          rw [← hq] at HO3
          clear hown2 hgrow
          go_wp2
          go_roundw
          case rel => exact ⟨k + 1, by omega, vi (by omega), by rw [HT2.out]; exact HO3.out, HB3.out⟩
          case measure => simp [intOf]; omega
        · skip
          by_cases q13 : s[k].toNat = 13
          · have hq : qb s[k] = [92, 114] := by unfold qb; rw [if_neg q10]; rw [if_neg q9]; rw [if_pos q13]
            have b10 : ((s[k].toNat : Int) == 10) = false := by simp; omega
            have b9 : ((s[k].toNat : Int) == 9) = false := by simp; omega
            have b13 : ((s[k].toNat : Int) == 13) = true := by simp; omega
            go_wp2_with (at_builtin; refine of_mark ?_)
            unfold Mark
            refine wpList_append_own _ rfl _ _ 36 rfl w.heap.size 5 i0 (.int .u8 0) 1 1 Try.underlying36 hi hz0 hz1 hz2 rfl (by decide) _ _ _ rfl (World.ownsRow.alloc HO.out _) ⟨wr.heap.size, 0, none⟩ 2 2 [.int .u8 92, .int .u8 114] rfl rfl (cells2 (by simp [go_sem]) (by simp [go_sem])) ?c2 ?c3 ?c4 ?c5 ?_
            case c2 => intro u hu; simp at hu; rcases hu with rfl | rfl <;> rfl
            case c3 => unfold maxLen; omega
            case c4 => omega
            case c5 => simp; omega
            intro v' w3 hown2 hgrow _
            have HB3 : Hid (Below w.heap.size w w3) := ((HB.out.alloc hsz _).grown hgrow (by simp; omega) (fun j hj => (World.ownsRow.lt HO.out j hj).1))
            have HO3 : Hid (RowB w3 w.heap.size v' (L ++ [92, 114])) := rowB_append rfl rfl hown2
            rw [← hq] at HO3
            clear hown2 hgrow
            go_wp2
            go_roundw
            case rel => exact ⟨k + 1, by omega, vi (by omega), by rw [HT2.out]; exact HO3.out, HB3.out⟩
            case measure => simp [intOf]; omega
          · skip
            by_cases q0 : s[k].toNat = 0
            · have hq : qb s[k] = [92, 48] := by unfold qb; rw [if_neg q10]; rw [if_neg q9]; rw [if_neg q13]; rw [if_pos q0]
              have b10 : ((s[k].toNat : Int) == 10) = false := by simp; omega
              have b9 : ((s[k].toNat : Int) == 9) = false := by simp; omega
              have b13 : ((s[k].toNat : Int) == 13) = false := by simp; omega
              have b0 : ((s[k].toNat : Int) == 0) = true := by simp; omega
              go_wp2_with (at_builtin; refine of_mark ?_)
              unfold Mark
              refine wpList_append_own _ rfl _ _ 36 rfl w.heap.size 5 i0 (.int .u8 0) 1 1 Try.underlying36 hi hz0 hz1 hz2 rfl (by decide) _ _ _ rfl (World.ownsRow.alloc HO.out _) ⟨wr.heap.size, 0, none⟩ 2 2 [.int .u8 92, .int .u8 48] rfl rfl (cells2 (by simp [go_sem]) (by simp [go_sem])) ?c2 ?c3 ?c4 ?c5 ?_
              case c2 => intro u hu; simp at hu; rcases hu with rfl | rfl <;> rfl
              case c3 => unfold maxLen; omega
              case c4 => omega
              case c5 => simp; omega
              intro v' w3 hown2 hgrow _
              have HB3 : Hid (Below w.heap.size w w3) := ((HB.out.alloc hsz _).grown hgrow (by simp; omega) (fun j hj => (World.ownsRow.lt HO.out j hj).1))
              have HO3 : Hid (RowB w3 w.heap.size v' (L ++ [92, 48])) := rowB_append rfl rfl hown2
              rw [← hq] at HO3
              clear hown2 hgrow
              go_wp2
              go_roundw
              case rel => exact ⟨k + 1, by omega, vi (by omega), by rw [HT2.out]; exact HO3.out, HB3.out⟩
              case measure => simp [intOf]; omega
            · skip
              have b10 : ((s[k].toNat : Int) == 10) = false := by simp; omega
              have b9 : ((s[k].toNat : Int) == 9) = false := by simp; omega
              have b13 : ((s[k].toNat : Int) == 13) = false := by simp; omega
              have b0 : ((s[k].toNat : Int) == 0) = false := by simp; omega
              by_cases q2 : s[k].toNat = 34 ∨ s[k].toNat = 92
              · have hq : qb s[k] = [92, s[k]] := by unfold qb; rw [if_neg q10]; rw [if_neg q9]; rw [if_neg q13]; rw [if_neg q0]; rw [if_pos q2]
                rcases q2 with q2 | q2
                · have b34 : ((s[k].toNat : Int) == 34) = true := by simp; omega
                  clear q2
                  go_wp2_with (at_builtin; refine of_mark ?_)
                  unfold Mark
                  refine wpList_append_own _ rfl _ _ 36 rfl w.heap.size 5 i0 (.int .u8 0) 1 1 Try.underlying36 hi hz0 hz1 hz2 rfl (by decide) _ _ _ rfl (World.ownsRow.alloc HO.out _) ⟨wr.heap.size, 0, none⟩ 2 2 [.int .u8 92, .int .u8 (s[k].toNat : Int)] rfl rfl (cells2 (by simp [go_sem]) (by simp [go_sem])) ?c2 ?c3 ?c4 ?c5 ?_
                  case c2 => intro u hu; simp at hu; rcases hu with rfl | rfl <;> rfl
                  case c3 => unfold maxLen; omega
                  case c4 => omega
                  case c5 => simp; omega
                  intro v' w3 hown2 hgrow _
                  have HB3 : Hid (Below w.heap.size w w3) := ((HB.out.alloc hsz _).grown hgrow (by simp; omega) (fun j hj => (World.ownsRow.lt HO.out j hj).1))
                  have HO3 : Hid (RowB w3 w.heap.size v' (L ++ [92, s[k]])) := rowB_append rfl rfl hown2
                  rw [← hq] at HO3
                  clear hown2 hgrow
                  go_wp2
                  go_roundw
                  case rel => exact ⟨k + 1, by omega, vi (by omega), by rw [HT2.out]; exact HO3.out, HB3.out⟩
                  case measure => simp [intOf]; omega
                · have b34 : ((s[k].toNat : Int) == 34) = false := by simp; omega
                  have b92 : ((s[k].toNat : Int) == 92) = true := by simp; omega
                  clear q2
                  go_wp2_with (at_builtin; refine of_mark ?_)
                  unfold Mark
                  refine wpList_append_own _ rfl _ _ 36 rfl w.heap.size 5 i0 (.int .u8 0) 1 1 Try.underlying36 hi hz0 hz1 hz2 rfl (by decide) _ _ _ rfl (World.ownsRow.alloc HO.out _) ⟨wr.heap.size, 0, none⟩ 2 2 [.int .u8 92, .int .u8 (s[k].toNat : Int)] rfl rfl (cells2 (by simp [go_sem]) (by simp [go_sem])) ?c2 ?c3 ?c4 ?c5 ?_
                  case c2 => intro u hu; simp at hu; rcases hu with rfl | rfl <;> rfl
                  case c3 => unfold maxLen; omega
                  case c4 => omega
                  case c5 => simp; omega
                  intro v' w3 hown2 hgrow _
                  have HB3 : Hid (Below w.heap.size w w3) := ((HB.out.alloc hsz _).grown hgrow (by simp; omega) (fun j hj => (World.ownsRow.lt HO.out j hj).1))
                  have HO3 : Hid (RowB w3 w.heap.size v' (L ++ [92, s[k]])) := rowB_append rfl rfl hown2
                  rw [← hq] at HO3
                  clear hown2 hgrow
                  go_wp2
                  go_roundw
                  case rel => exact ⟨k + 1, by omega, vi (by omega), by rw [HT2.out]; exact HO3.out, HB3.out⟩
                  case measure => simp [intOf]; omega
              · skip
                have b34 : ((s[k].toNat : Int) == 34) = false := by simp; omega
                have b92 : ((s[k].toNat : Int) == 92) = false := by simp; omega
                cases hp : plainB s[k]
                · have hq : qb s[k] = [92, 120, hd (s[k].toNat / 16), hd (s[k].toNat % 16)] := by unfold qb; rw [if_neg q10]; rw [if_neg q9]; rw [if_neg q13]; rw [if_neg q0]; rw [if_neg q2, if_neg (by rw [hp]; simp)]
                  have hor : (s[k].toNat : Int) < 32 ∨ (126 : Int) < s[k].toNat := by simp [plainB] at hp; omega
                  clear hp
                  have hc2 : (s[k].toNat : Int) / 16 < 16 := by omega
                  have hc3 : 0 ≤ (s[k].toNat : Int) / 16 := by omega
                  have hand := and15 s[k]
                  rcases hor with hor | hor
                  · have hc4 : (s[k].toNat : Int) % 16 < 16 := by omega
                    have hc5 : 0 ≤ (s[k].toNat : Int) % 16 := by omega
                    go_wp2
                    have x1 : ((s[k].toNat : Int) / 16).toNat < hexS.size := by (show _ < 16); omega
                    have x2 : ((s[k].toNat : Int) % 16).toNat < hexS.size := by (show _ < 16); omega
                    have hY : Hid (((wr.alloc (.cells #[.int .u8 92, .int .u8 120, .int .u8 (hexS[((s[k].toNat : Int) / 16).toNat].toNat : Int), .int .u8 (hexS[((s[k].toNat : Int) % 16).toNat].toNat : Int)] 5)).drew).ownsRow w.heap.size 5 1 u3 L.length (vals L)) := (World.ownsRow.alloc HO.out _).drew
                    have hBd : Hid (Below w.heap.size w ((wr.alloc (.cells #[.int .u8 92, .int .u8 120, .int .u8 (hexS[((s[k].toNat : Int) / 16).toNat].toNat : Int), .int .u8 (hexS[((s[k].toNat : Int) % 16).toNat].toNat : Int)] 5)).drew)) := (HB.out.alloc hsz _).trans ⟨rfl, rfl, rfl, Nat.le_refl _, fun _ _ => rfl⟩
                    have y1 := hid (show ((s[k].toNat : Int) / 16).toNat = s[k].toNat / 16 by omega)
                    have y2 := hid (show ((s[k].toNat : Int) % 16).toNat = s[k].toNat % 16 by omega)
                    go_region_law (refine step_app rfl (.tmp 16) (.tmp 23) 36 rfl w.heap.size 5 i0 (.int .u8 0) 1 1 Try.underlying36 hi hz0 hz1 hz2 rfl (by decide) u3 L.length (vals L) (by simp [Act.eval]) hY.out ⟨wr.heap.size, 0, none⟩ 4 4 [.int .u8 92, .int .u8 120, .int .u8 (hexS[((s[k].toNat : Int) / 16).toNat].toNat : Int), .int .u8 (hexS[((s[k].toNat : Int) % 16).toNat].toNat : Int)] (by simp [Act.eval]) rfl (cells4 (by simp [go_sem]) (by simp [go_sem]) (by simp [go_sem]) (by simp [go_sem])) (fun u hu => by simp at hu; rcases hu with rfl | rfl | rfl | rfl <;> rfl) (by unfold maxLen; omega) (by omega) (by simp; omega) ?_; intro v' w3 hown2 hgrow)
                    all_goals
                      have HB3 : Hid (Below w.heap.size w w3) := Below.grown hBd.out hgrow (by simp; omega) (fun j hj => (World.ownsRow.lt HO.out j hj).1)
                      have HO3 : Hid (RowB w3 w.heap.size v' (L ++ [92, 120, hd (s[k].toNat / 16), hd (s[k].toNat % 16)])) := rowB_append (by rw [← y1.out, ← y2.out, ← hd_at _ x1, ← hd_at _ x2]; rfl) rfl hown2
                      rw [← hq] at HO3
                      clear hown2 hgrow
                      try go_wp2
                      first
                        | exact ⟨⟨k + 1, by omega, vi (by omega), by rw [HT2.out]; exact HO3.out, HB3.out⟩, by simp [intOf]; omega⟩
                        | (go_roundw
                           case rel => exact ⟨k + 1, by omega, vi (by omega), by rw [HT2.out]; exact HO3.out, HB3.out⟩
                           case measure => simp [intOf]; omega)
                  · have hc4 : (s[k].toNat : Int) % 16 < 16 := by omega
                    have hc5 : 0 ≤ (s[k].toNat : Int) % 16 := by omega
                    go_wp2
                    have x1 : ((s[k].toNat : Int) / 16).toNat < hexS.size := by (show _ < 16); omega
                    have x2 : ((s[k].toNat : Int) % 16).toNat < hexS.size := by (show _ < 16); omega
                    have hY : Hid (((wr.alloc (.cells #[.int .u8 92, .int .u8 120, .int .u8 (hexS[((s[k].toNat : Int) / 16).toNat].toNat : Int), .int .u8 (hexS[((s[k].toNat : Int) % 16).toNat].toNat : Int)] 5)).drew).ownsRow w.heap.size 5 1 u3 L.length (vals L)) := (World.ownsRow.alloc HO.out _).drew
                    have hBd : Hid (Below w.heap.size w ((wr.alloc (.cells #[.int .u8 92, .int .u8 120, .int .u8 (hexS[((s[k].toNat : Int) / 16).toNat].toNat : Int), .int .u8 (hexS[((s[k].toNat : Int) % 16).toNat].toNat : Int)] 5)).drew)) := (HB.out.alloc hsz _).trans ⟨rfl, rfl, rfl, Nat.le_refl _, fun _ _ => rfl⟩
                    have y1 := hid (show ((s[k].toNat : Int) / 16).toNat = s[k].toNat / 16 by omega)
                    have y2 := hid (show ((s[k].toNat : Int) % 16).toNat = s[k].toNat % 16 by omega)
                    go_region_law (refine step_app rfl (.tmp 16) (.tmp 23) 36 rfl w.heap.size 5 i0 (.int .u8 0) 1 1 Try.underlying36 hi hz0 hz1 hz2 rfl (by decide) u3 L.length (vals L) (by simp [Act.eval]) hY.out ⟨wr.heap.size, 0, none⟩ 4 4 [.int .u8 92, .int .u8 120, .int .u8 (hexS[((s[k].toNat : Int) / 16).toNat].toNat : Int), .int .u8 (hexS[((s[k].toNat : Int) % 16).toNat].toNat : Int)] (by simp [Act.eval]) rfl (cells4 (by simp [go_sem]) (by simp [go_sem]) (by simp [go_sem]) (by simp [go_sem])) (fun u hu => by simp at hu; rcases hu with rfl | rfl | rfl | rfl <;> rfl) (by unfold maxLen; omega) (by omega) (by simp; omega) ?_; intro v' w3 hown2 hgrow)
                    all_goals
                      have HB3 : Hid (Below w.heap.size w w3) := Below.grown hBd.out hgrow (by simp; omega) (fun j hj => (World.ownsRow.lt HO.out j hj).1)
                      have HO3 : Hid (RowB w3 w.heap.size v' (L ++ [92, 120, hd (s[k].toNat / 16), hd (s[k].toNat % 16)])) := rowB_append (by rw [← y1.out, ← y2.out, ← hd_at _ x1, ← hd_at _ x2]; rfl) rfl hown2
                      rw [← hq] at HO3
                      clear hown2 hgrow
                      try go_wp2
                      first
                        | exact ⟨⟨k + 1, by omega, vi (by omega), by rw [HT2.out]; exact HO3.out, HB3.out⟩, by simp [intOf]; omega⟩
                        | (go_roundw
                           case rel => exact ⟨k + 1, by omega, vi (by omega), by rw [HT2.out]; exact HO3.out, HB3.out⟩
                           case measure => simp [intOf]; omega)
                · have hq : qb s[k] = [s[k]] := by unfold qb; rw [if_neg q10]; rw [if_neg q9]; rw [if_neg q13]; rw [if_neg q0]; rw [if_neg q2, if_pos hp]
                  have hr1 : (32 : Int) ≤ s[k].toNat := by simp [plainB] at hp; omega
                  have hr2 : (s[k].toNat : Int) ≤ 126 := by simp [plainB] at hp; omega
                  clear hp
                  go_wp2_with (at_builtin; refine of_mark ?_)
                  unfold Mark
                  refine wpList_append_own _ rfl _ _ 36 rfl w.heap.size 5 i0 (.int .u8 0) 1 1 Try.underlying36 hi hz0 hz1 hz2 rfl (by decide) _ _ _ rfl (World.ownsRow.alloc HO.out _) ⟨wr.heap.size, 0, none⟩ 1 1 [.int .u8 (s[k].toNat : Int)] rfl rfl (cells1 (by simp [go_sem])) ?c2 ?c3 ?c4 ?c5 ?_
                  case c2 => intro u hu; simp at hu; subst hu; rfl
                  case c3 => unfold maxLen; omega
                  case c4 => omega
                  case c5 => simp; omega
                  intro v' w3 hown2 hgrow _
                  have HB3 : Hid (Below w.heap.size w w3) := ((HB.out.alloc hsz _).grown hgrow (by simp; omega) (fun j hj => (World.ownsRow.lt HO.out j hj).1))
                  have HO3 : Hid (RowB w3 w.heap.size v' (L ++ [s[k]])) := rowB_append rfl rfl hown2
                  rw [← hq] at HO3
                  clear hown2 hgrow
                  go_wp2
                  go_roundw
                  case rel => exact ⟨k + 1, by omega, vi (by omega), by rw [HT2.out]; exact HO3.out, HB3.out⟩
                  case measure => simp [intOf]; omega
    · have e1 : (lst s).take k = lst s := List.take_of_length_le (by omega)
      rw [e1] at hL
      go_wp2_with (at_builtin; refine of_mark ?_)
      unfold Mark
      refine wpList_append_own _ rfl _ _ 36 rfl w.heap.size 5 i0 (.int .u8 0) 1 1 Try.underlying36 hi hz0 hz1 hz2 rfl (by decide) _ _ _ rfl (World.ownsRow.alloc HO.out _) ⟨wr.heap.size, 0, none⟩ 1 1 [.int .u8 34] rfl rfl (cells1 (by simp [go_sem])) ?c2 ?c3 ?c4 ?c5 ?_
      case c2 => intro u hu; simp at hu; subst hu; rfl
      case c3 => unfold maxLen; omega
      case c4 => omega
      case c5 => simp; omega
      intro v' w3 hown2 hgrow _
      have HB3 : Hid (Below w.heap.size w w3) := ((HB.out.alloc hsz _).grown hgrow (by simp; omega) (fun j hj => (World.ownsRow.lt HO.out j hj).1))
      have HO3 : RowB w3 w.heap.size v' (L ++ [34]) := rowB_append rfl rfl hown2
      have hcv := conv_own HO3
      clear hown2 hgrow HO3
      go_wp2
      go_ret
      exact ⟨ret_str (by rw [← hL]; rfl), HB3.out⟩
end Go.Proofs.Ytfnekmhhhjdeiaa
