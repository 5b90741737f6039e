/- The walk. -/
import Derived.Test.YtgkaeoieclegjaaSc
import Derived.Test.YtgkaeoieclegjaaDn
namespace Go.Proofs.Ytgkaeoieclegjaa
open Go Go.RowKit Go.Maps
set_option linter.unusedVariables false
set_option linter.unusedSimpArgs false
/-- The walk's frame. -/
def WFr (F : Value) (fb rc r n : Nat) (v : Kv) (at_ z : Int) (a' : Act) : Prop := ∃ (u7 u8 u9 u10 u11 u12 u13 u14 u15 u16 u17 u18 u19 u20 u21 u22 u23 u24 u25 u26 u27 u28 u29 u30 u31 u32 u33 u34 u35 u36 u37 u38 u39 u40 u41 u42 u43 u44 u45 u46 u47 u48 u49 u50 u51 u52 u53 u54 u55 u56 u57 u58 u59 u60 u61 u62 u63 u64 u65 u66 u67 u68 u69 u70 u71 u72 u73 u74 u75 u76 u77 u78 u79 u80 u81 u82 u83 u84 u85 u86 u87 u88 u89 u90 : Value), a' = { tmps := #[F, .pointer (some ⟨fb, 0, none⟩), .pointer (some ⟨rc, 0, none⟩), .pointer (some ⟨r, 0, none⟩), .slice (some ⟨v.gt, 0, none⟩) n n, .int .i64 at_, .int .i64 z, u7, u8, u9, u10, u11, u12, u13, u14, u15, u16, u17, u18, u19, u20, u21, u22, u23, u24, u25, u26, u27, u28, u29, u30, u31, u32, u33, u34, u35, u36, u37, u38, u39, u40, u41, u42, u43, u44, u45, u46, u47, u48, u49, u50, u51, u52, u53, u54, u55, u56, u57, u58, u59, u60, u61, u62, u63, u64, u65, u66, u67, u68, u69, u70, u71, u72, u73, u74, u75, u76, u77, u78, u79, u80, u81, u82, u83, u84, u85, u86, u87, u88, u89, u90], defers := [] }
/-- What holds at the labels: 0 come, 1 leave, 2 look. -/
def WJ (F : Value) (fb rc r n : Nat) (tos : Nat → List Int) (w0 : World) (l mm : Nat) (a' : Act) (w' : World) : Prop :=
  ∃ (v : Kv) (z : Int) (m M a dp : Nat) (blk par tried tr : Nat → Nat) (plc frm : Nat → Int) (came : List Int) (left : List Nat),
    WFr F fb rc r n v (blk a) z a' ∧ KM w0.heap.size w' r v n plc frm (fun b => (tr b : Int)) came (ints left) ∧ Wk n tos m M a left dp blk par tried tr plc frm came ∧ Below w0.heap.size w0 w' ∧
    ((l = 0 ∧ m = M + 1 ∧ a = M ∧ mm = 6 * rest (fun b => (tos b).length) tr n + 2 * dp + 1) ∨ (l = 1 ∧ m = M ∧ (tos (blk a)).length ≤ tried a ∧ mm = 6 * rest (fun b => (tos b).length) tr n + 2 * dp) ∨ (l = 2 ∧ m = M ∧ mm = 6 * rest (fun b => (tos b).length) tr n + 2 * dp + 1))
set_option maxRecDepth 20000 in
theorem new38 {B r n : Nat} {W : World} {v : Kv} {plc frm tri : Nat → Int} {came left : List Int} (h : KM B W r v n plc frm tri came left) (hn : n * 64 ≤ big) (t : Int) :
    Calls Try.prog 38 #[.pointer (some ⟨r, 0, none⟩), .int .i64 t] W fun e w' => e = .returned (.bool (decide ((0 ≤ t ∧ t < n) ∧ plc t.toNat = -1))) ∧ w' = W := by
  have c2 := h.c2
  unfold big at hn
  by_cases h0 : 0 ≤ t
  · by_cases h1 : t < n
    · obtain ⟨k, rfl⟩ : ∃ k : Nat, t = k := ⟨t.toNat, by omega⟩
      have hk : k < n := by omega
      have cp := h.rp.cell hk
      rw [Int.toNat_natCast]
      clear h
      go_enter Try.func38, Try.ntmps38
      go_wp2_with fail
      go_ret
      refine ⟨?_, rfl⟩
      congr 2
      simp only [h0, h1, and_self, true_and]
      by_cases e : plc k = -1 <;> simp [e]
    · rw [decide_eq_false (fun h => h1 h.1.2)]
      clear h
      go_enter Try.func38, Try.ntmps38
      go_wp2_with fail
      go_ret
      exact ⟨rfl, rfl⟩
  · rw [decide_eq_false (fun h => h0 h.1.1)]
    clear h
    go_enter Try.func38, Try.ntmps38
    go_wp2_with fail
    go_ret
    exact ⟨rfl, rfl⟩
theorem wp_scope_3 {P : Program} {a : Act} {w : World} {Q : Exit → Act → World → Prop} {c r0 r1 r2 : Code} (J : Nat → Nat → Act → World → Prop) (h0 : findLabel c 0 = some r0) (h1 : findLabel c 1 = some r1) (h2 : findLabel c 2 = some r2)
    (first : c.wp P (jumps (fun l a w => l < 3 ∧ ∃ m, J l m a w) Q) a w)
    (p0 : ∀ m a w, J 0 m a w → r0.wp P (jumps (fun l' a' w' => l' < 3 ∧ ∃ m', m' < m ∧ J l' m' a' w') Q) a w)
    (p1 : ∀ m a w, J 1 m a w → r1.wp P (jumps (fun l' a' w' => l' < 3 ∧ ∃ m', m' < m ∧ J l' m' a' w') Q) a w)
    (p2 : ∀ m a w, J 2 m a w → r2.wp P (jumps (fun l' a' w' => l' < 3 ∧ ∃ m', m' < m ∧ J l' m' a' w') Q) a w) : (Code.scope c).wp P Q a w := by
  have hf : ∀ l, l < 3 → ∃ rest, findLabel c l = some rest := fun l hl => by
    match l, hl with
    | 0, _ => exact ⟨_, h0⟩
    | 1, _ => exact ⟨_, h1⟩
    | 2, _ => exact ⟨_, h2⟩
  have mono : ∀ {c' : Code} {A B : Nat → Act → World → Prop} {a : Act} {w : World}, (∀ l a w, A l a w → B l a w) → c'.wp P (jumps A Q) a w → c'.wp P (jumps B Q) a w := fun hAB h b k cs => by
    obtain ⟨e, a1, w1, hq, harr⟩ := h b k cs
    refine ⟨e, a1, w1, ?_, harr⟩
    cases e with
    | goto l => exact hAB l a1 w1 hq
    | _ => exact hq
  refine wp_scope_many (fun l m a w => l < 3 ∧ J l m a w) (fun l m a w h => hf l h.1) (mono (fun l a w h => ?_) first) (fun l rest hr m a w h => ?_)
  · obtain ⟨hl, m, hJ⟩ := h
    exact ⟨m, hl, hJ⟩
  · have key : ∀ l' a' w', (l' < 3 ∧ ∃ m', m' < m ∧ J l' m' a' w') → ∃ m', m' < m ∧ l' < 3 ∧ J l' m' a' w' := fun l' a' w' ⟨hl, m', hm, hJ⟩ => ⟨m', hm, hl, hJ⟩
    obtain ⟨hl, hJ⟩ := h
    match l, hl with
    | 0, _ => rw [h0] at hr; injection hr with hr; subst hr; exact mono key (p0 m a w hJ)
    | 1, _ => rw [h1] at hr; injection hr with hr; subst hr; exact mono key (p1 m a w hJ)
    | 2, _ => rw [h2] at hr; injection hr with hr; subst hr; exact mono key (p2 m a w hJ)
theorem z4 {W : World} {q : Nat} (h : W.heap[q]? = some (.cells #[.slice none 0 0, .slice none 0 0, .slice none 0 0, .slice none 0 0] 47 (0, 0))) : W.cell? ⟨q, 0, none⟩ = some (.slice none 0 0) ∧ W.cell? ⟨q, 1, none⟩ = some (.slice none 0 0) ∧ W.cell? ⟨q, 2, none⟩ = some (.slice none 0 0) ∧ W.cell? ⟨q, 3, none⟩ = some (.slice none 0 0) ∧ W.frozen? ⟨q, 0, none⟩ = false ∧ W.frozen? ⟨q, 1, none⟩ = false ∧ W.frozen? ⟨q, 2, none⟩ = false ∧ W.frozen? ⟨q, 3, none⟩ = false := by
  have c := fun o => cell_of_row W q o _ 47 (0, 0) h
  exact ⟨c 0, c 1, c 2, c 3, by simp [World.frozen?, h], by simp [World.frozen?, h], by simp [World.frozen?, h], by simp [World.frozen?, h]⟩
theorem z_new4 {W w1 : World} (hb : Below (W.alloc (.cells #[.slice none 0 0, .slice none 0 0, .slice none 0 0, .slice none 0 0] 47)).heap.size (W.alloc (.cells #[.slice none 0 0, .slice none 0 0, .slice none 0 0, .slice none 0 0] 47)) w1) : w1.heap[W.heap.size]? = some (.cells #[.slice none 0 0, .slice none 0 0, .slice none 0 0, .slice none 0 0] 47 (0, 0)) := by
  rw [hb.block W.heap.size (by simp), heap_alloc_new]
theorem z_keep {w1 w2 : World} {q : Nat} (h : w1.heap[q]? = some (.cells #[.slice none 0 0, .slice none 0 0, .slice none 0 0, .slice none 0 0] 47 (0, 0))) (hb : Below w1.heap.size w1 w2) : w2.heap[q]? = some (.cells #[.slice none 0 0, .slice none 0 0, .slice none 0 0, .slice none 0 0] 47 (0, 0)) := by
  rw [hb.block q (Array.getElem?_eq_some_iff.1 h).1]
  exact h
/-- The walk's struct is made. -/
structure ZK (w0 : World) (n : Nat) (W : World) (r gp gf : Nat) : Prop where
  box : W.rowIs r 47 4 ((⟨gp, gf, 0, .slice none 0 0, .slice none 0 0⟩ : Kv).cell n)
  rp : RowI W gp n (fun _ => -1)
  rf : RowI W gf n (fun _ => -1)
  lo : w0.heap.size ≤ r ∧ w0.heap.size ≤ gp ∧ w0.heap.size ≤ gf
  ne : r ≠ gp ∧ r ≠ gf ∧ gp ≠ gf
  below : Below w0.heap.size w0 W
theorem ZK.set {w0 w2 : World} {n q gp gf : Nat} (hz : w2.heap[q]? = some (.cells #[.slice none 0 0, .slice none 0 0, .slice none 0 0, .slice none 0 0] 47 (0, 0))) (hp : RowI w2 gp n (fun _ => -1)) (hf : RowI w2 gf n (fun _ => -1)) (hl : w0.heap.size ≤ q ∧ w0.heap.size ≤ gp ∧ w0.heap.size ≤ gf) (hn : q ≠ gp ∧ q ≠ gf ∧ gp ≠ gf) (hb : Below w0.heap.size w0 w2) :
    ZK w0 n ((((w2.setCell ⟨q, 0, none⟩ (.slice none 0 0)).setCell ⟨q, 1, none⟩ (.slice none 0 0)).setCell ⟨q, 2, none⟩ (.slice (some ⟨gp, 0, none⟩) n n)).setCell ⟨q, 3, none⟩ (.slice (some ⟨gf, 0, none⟩) n n)) q gp gf := by
  have h0 : w2.rowIs q 47 4 (fun _ => .slice none 0 0) := ⟨_, hz, rfl, fun i hi => by
    match i, hi with
    | 0, _ => rfl
    | 1, _ => rfl
    | 2, _ => rfl
    | 3, _ => rfl⟩
  have h4 := World.rowIs.set (World.rowIs.set (World.rowIs.set (World.rowIs.set h0 0 (.slice none 0 0)) 1 (.slice none 0 0)) 2 (.slice (some ⟨gp, 0, none⟩) n n)) 3 (.slice (some ⟨gf, 0, none⟩) n n)
  have K := ((((Kept.rfl (fun k => k = q) w2).set (a := ⟨q, 0, none⟩) (.inl (Eq.refl _)) (.slice none 0 0)).set (a := ⟨q, 1, none⟩) (.inl (Eq.refl _)) (.slice none 0 0)).set (a := ⟨q, 2, none⟩) (.inl (Eq.refl _)) (.slice (some ⟨gp, 0, none⟩) n n)).set (a := ⟨q, 3, none⟩) (.inl (Eq.refl _)) (.slice (some ⟨gf, 0, none⟩) n n)
  refine ⟨World.rowIs.congr h4 (fun i hi => ?_), hp.kept K (fun e => hn.1 e.symm), hf.kept K (fun e => hn.2.1 e.symm), hl, hn, hb.trans (K.below (by have := hb.size; omega) (fun k e => by omega))⟩
  match i, hi with
  | 0, _ => rfl
  | 1, _ => rfl
  | 2, _ => rfl
  | 3, _ => rfl
theorem ZK.new {w0 w2 : World} {n gp gf : Nat} (hp : RowI w2 gp n (fun _ => -1)) (hf : RowI w2 gf n (fun _ => -1)) (hl : w0.heap.size ≤ gp ∧ w0.heap.size ≤ gf) (hn : gp ≠ gf) (hb : Below w0.heap.size w0 w2) :
    ZK w0 n (w2.alloc (.cells #[.slice none 0 0, .slice none 0 0, .slice (some ⟨gp, 0, none⟩) n n, .slice (some ⟨gf, 0, none⟩) n n] 47)) w2.heap.size gp gf := by
  have h1 := hp.lt
  have h2 := hf.lt
  have hB := below1 w2 (.cells #[.slice none 0 0, .slice none 0 0, .slice (some ⟨gp, 0, none⟩) n n, .slice (some ⟨gf, 0, none⟩) n n] 47)
  refine ⟨World.rowIs_alloc w2 #[.slice none 0 0, .slice none 0 0, .slice (some ⟨gp, 0, none⟩) n n, .slice (some ⟨gf, 0, none⟩) n n] 47 _ (fun i hi => ?_), hp.on hB, hf.on hB, ⟨hb.size, hl.1, hl.2⟩, ⟨by omega, by omega, hn⟩, below_up hb hB⟩
  match i, hi with
  | 0, _ => rfl
  | 1, _ => rfl
  | 2, _ => rfl
  | 3, _ => rfl
/-- The two rows and the struct, as far as they are made. -/
structure Tw (w0 : World) (n : Nat) (s : Option Nat × Option Nat × Option Nat) (w : World) : Prop where
  below : Below w0.heap.size w0 w
  p : ∀ b, s.1 = some b → w0.heap.size ≤ b ∧ RowI w b n (fun _ => -1)
  f : ∀ b, s.2.1 = some b → w0.heap.size ≤ b ∧ RowI w b n (fun _ => -1)
  z : ∀ b, s.2.2 = some b → w0.heap.size ≤ b ∧ w.heap[b]? = some (.cells #[.slice none 0 0, .slice none 0 0, .slice none 0 0, .slice none 0 0] 47 (0, 0))
  pf : ∀ b c, s.1 = some b → s.2.1 = some c → b ≠ c
  zp : ∀ b c, s.2.2 = some b → s.1 = some c → b ≠ c
  zf : ∀ b c, s.2.2 = some b → s.2.1 = some c → b ≠ c
theorem Tw.on {w0 w w' : World} {n : Nat} {s : Option Nat × Option Nat × Option Nat} (h : Tw w0 n s w) (hb : Below w.heap.size w w') : Tw w0 n s w' :=
  ⟨below_up h.below hb, fun b e => ⟨(h.p b e).1, (h.p b e).2.on hb⟩, fun b e => ⟨(h.f b e).1, (h.f b e).2.on hb⟩, fun b e => ⟨(h.z b e).1, z_keep (h.z b e).2 hb⟩, h.pf, h.zp, h.zf⟩
theorem Tw.newp {w0 w w' : World} {n b : Nat} {s1 s2 s3 : Option Nat} (h : Tw w0 n (s1, s2, s3) w) (h1 : w.heap.size ≤ b) (h2 : RowI w' b n (fun _ => -1)) (hb : Below w.heap.size w w') : Tw w0 n (some b, s2, s3) w' := by
  have h' := h.on hb
  refine ⟨h'.below, fun c e => ?_, h'.f, h'.z, fun c d e e2 => ?_, fun c d e e2 => ?_, h'.zf⟩
  · injection e with e; subst e; exact ⟨Nat.le_trans h.below.size h1, h2⟩
  · injection e with e; subst e
    have := (h.f d e2).2.lt
    omega
  · injection e2 with e2; subst e2
    have := (Array.getElem?_eq_some_iff.1 (h.z c e).2).1
    omega
theorem Tw.newf {w0 w w' : World} {n b : Nat} {s1 s2 s3 : Option Nat} (h : Tw w0 n (s1, s2, s3) w) (h1 : w.heap.size ≤ b) (h2 : RowI w' b n (fun _ => -1)) (hb : Below w.heap.size w w') : Tw w0 n (s1, some b, s3) w' := by
  have h' := h.on hb
  refine ⟨h'.below, h'.p, fun c e => ?_, h'.z, fun c d e e2 => ?_, h'.zp, fun c d e e2 => ?_⟩
  · injection e with e; subst e; exact ⟨Nat.le_trans h.below.size h1, h2⟩
  · injection e2 with e2; subst e2
    have := (h.p c e).2.lt
    omega
  · injection e2 with e2; subst e2
    have := (Array.getElem?_eq_some_iff.1 (h.z c e).2).1
    omega
theorem Tw.newz {w0 w : World} {n : Nat} {s1 s2 s3 : Option Nat} (h : Tw w0 n (s1, s2, s3) w) : Tw w0 n (s1, s2, some w.heap.size) (w.alloc (.cells #[.slice none 0 0, .slice none 0 0, .slice none 0 0, .slice none 0 0] 47)) := by
  have h' := h.on (below1 w (.cells #[.slice none 0 0, .slice none 0 0, .slice none 0 0, .slice none 0 0] 47))
  refine ⟨h'.below, h'.p, h'.f, fun c e => ?_, h'.pf, fun c d e e2 => ?_, fun c d e e2 => ?_⟩
  · injection e with e; subst e; exact ⟨h.below.size, heap_alloc_new _ _⟩
  · injection e with e; subst e
    have := (h.p d e2).2.lt
    omega
  · injection e with e; subst e
    have := (h.f d e2).2.lt
    omega
/-- What walked leaves. -/
def WdR (bl : List Bl) (w : World) (e : Ending) (w' : World) : Prop :=
  ∃ (cv lv pv fv : Value) (m : Nat) (blk par tried : Nat → Nat) (left : List Nat), e = .returned (.agg #[cv, lv, pv, fv]) ∧ WkM w' bl.length m blk par cv lv pv fv left ∧ Below w.heap.size w w' ∧
    (bl.length = 0 → m = 0 ∧ left = []) ∧ (0 < bl.length → blk 0 = 0 ∧ left.length = m ∧ Met (fun b => toL bl.length (succN bl b)) m 0 blk par tried ∧ (succN bl 0).length ≤ tried 0)
/-- .. and that it is the machine's end. -/
def WdR2 (bl : List Bl) (w : World) (e : Ending) (w' : World) : Prop :=
  ∃ (cv lv pv fv : Value) (m : Nat) (blk par tried : Nat → Nat) (left : List Nat), e = .returned (.agg #[cv, lv, pv, fv]) ∧ WkM w' bl.length m blk par cv lv pv fv left ∧ Below w.heap.size w w' ∧
    (bl.length = 0 → m = 0 ∧ left = []) ∧ (0 < bl.length → blk 0 = 0 ∧ left.length = m ∧ Met (fun b => toL bl.length (succN bl b)) m 0 blk par tried ∧ (succN bl 0).length ≤ tried 0 ∧ RunsS (succN bl) bl.length start0 (metP m blk, [], left))
set_option maxRecDepth 20000 in
set_option maxHeartbeats 8000000 in
theorem walked25x {w : World} {f : Fn} (h : Fn.ok w f) : Calls Try.prog 25 #[f.val] w (WdR2 f.blocks w) := by
  have HOK := hid' h
  have hbl := h.bl
  obtain ⟨nm, ps, rs, sl, bv, bl⟩ := f
  obtain ⟨hb, _, _, hbs⟩ := h
  dsimp only at *
  unfold Fn.val
  dsimp only
  obtain ⟨ao, cap, rfl, hf⟩ := hb.form bl4
  have HF := hid' hf
  have HS := hid' hbs
  have hbl2 := hbl
  unfold big at hbl
  clear hb hf hbs
  go_enter Try.func25, Try.ntmps25
  obtain ⟨w0, ew0⟩ : ∃ w0, w0 = (w.alloc (.cells #[.string nm, .int .i64 ps, .int .i64 rs, .int .i64 sl, .slice ao bl.length cap] 24)).alloc (.cells #[.slice none 0 0, .slice none 0 0, .slice none 0 0, .slice none 0 0] 47) := ⟨_, rfl⟩
  have hb0 : Below w.heap.size w w0 := by rw [ew0]; exact below2 _ _ _
  have hs0 : w0.heap.size = w.heap.size + 2 := by rw [ew0]; simp
  have hC : Hid (∀ W : World, Below w0.heap.size w0 W → W.cell? ⟨w.heap.size, 4, none⟩ = some (.slice ao bl.length cap)) := fun W hW => by
    rw [ew0] at hW
    have h := hW.block w.heap.size (by simp; omega)
    rw [Below.heap_alloc _ _ _ (by simp), heap_alloc_new] at h
    exact cell_of_row W w.heap.size 4 _ 24 (0, 0) h
  have HRC : Hid (∀ W : World, Below w0.heap.size w0 W → W.cell? ⟨w.heap.size + 1, 0, none⟩ = some (.slice none 0 0) ∧ W.cell? ⟨w.heap.size + 1, 1, none⟩ = some (.slice none 0 0) ∧ W.cell? ⟨w.heap.size + 1, 2, none⟩ = some (.slice none 0 0) ∧ W.cell? ⟨w.heap.size + 1, 3, none⟩ = some (.slice none 0 0) ∧ ∀ k, W.frozen? ⟨w.heap.size + 1, k, none⟩ = false) := fun W hW => by
    rw [ew0] at hW
    have h := hW.block (w.heap.size + 1) (by simp)
    have h2 := heap_alloc_new (w.alloc (.cells #[.string nm, .int .i64 ps, .int .i64 rs, .int .i64 sl, .slice ao bl.length cap] 24)) (.cells #[.slice none 0 0, .slice none 0 0, .slice none 0 0, .slice none 0 0] 47)
    have e1 : (w.alloc (.cells #[.string nm, .int .i64 ps, .int .i64 rs, .int .i64 sl, .slice ao bl.length cap] 24)).heap.size = w.heap.size + 1 := by simp
    rw [e1] at h2
    rw [h2] at h
    have q := fun o => cell_of_row W (w.heap.size + 1) o _ 47 (0, 0) h
    exact ⟨q 0, q 1, q 2, q 3, fun k => by simp [World.frozen?, h]⟩
  have HB0 := hid' hb0
  go_wp2_with fail
  rw [← ew0]
  have HS0 := hid' hs0
  clear ew0 hs0
  refine wp_scope_3 (fun l mm a' w' => ∃ r, w0.heap.size ≤ r ∧ WJ (.agg #[.string nm, .int .i64 ps, .int .i64 rs, .int .i64 sl, .slice ao bl.length cap]) w.heap.size (w.heap.size + 1) r bl.length (succN bl) w0 l mm a' w') rfl rfl rfl ?_ ?_ ?_ ?_
  · skip
    go_wp2_with fail
    have hn8 : bl.length * 8 ≤ big := by unfold big; omega
    go_cut [3] (fun pv wx => ∃ r gp gf : Nat, pv = .pointer (some ⟨r, 0, none⟩) ∧ ZK w0 bl.length wx r gp gf)
    case first =>
      have x4 := fun q : After w0 => hC.out q.1 q.2
      have hne := after_some w0
      refine region_pick (Tw w0 bl.length) (none, none, none) 10 4 (fun k => decide (k ≠ 3 ∧ k ≠ 7 ∧ k ≠ 9)) [0, 1, 2, 4, 5, 6] mixed (by kernel_rfl) (by kernel_rfl) (by kernel_rfl) (by simp) rfl (by decide) (by kernel_rfl) ⟨bdw' (Below.refl _ _), (fun b e => by cases e), (fun b e => by cases e), (fun b e => by cases e), (fun b c e => by cases e), (fun b c e => by cases e), (fun b c e => by cases e)⟩ (fun s w' h => h.below) (fun s w2 w' h hb => h.on hb) (fun _ => ?_)
      simp only [List.filterMap_cons, List.filterMap_nil, List.getElem?_cons_zero, List.getElem?_cons_succ]
      repeat (
        refine wpFreeB_step (fun K hK => ?_)
        go_simp
        first
          | (refine hK _ ?_; clear hK K)
          | (apply Exists.intro
             refine ⟨fun _ => ?_, hK _ ?_⟩
             (with_reducible rfl)
             clear hK K))
      refine wpFreeB_nil ?_
      refine headF_step [3, 9] (by kernel_rfl) (by simp) (fun i hi => ?_)
      simp only [List.mem_cons, List.not_mem_nil, or_false] at hi
      rcases hi with rfl | rfl
      · refine ⟨by omega, .inl ⟨by decide, _, rfl, by simp [Region.wanted], fun w4 hw => .inr ⟨26, #[.int .i64 bl.length], ?_, (nones26 bl.length hn8).mono ?_⟩⟩⟩
        · simp [execOp, resolve, invoke, Act.eval, Act.put, Deferred.ofValue, go_sem, Try.func26]
        · rintro e5 w5 ⟨b1, rfl, h1, h2, h3⟩
          refine ⟨_, (some b1, none, none), rfl, hw.newp h1 h2 h3, ?_⟩
          clear h1 h2 h3 hw
          refine headF_step [7, 9] (by kernel_rfl) (by simp) (fun i hi => ?_)
          simp only [List.mem_cons, List.not_mem_nil, or_false] at hi
          rcases hi with rfl | rfl
          · refine ⟨by omega, .inl ⟨by decide, _, rfl, by simp [Region.wanted], fun w4 hw => .inr ⟨26, #[.int .i64 bl.length], ?_, (nones26 bl.length hn8).mono ?_⟩⟩⟩
            · simp [execOp, resolve, invoke, Act.eval, Act.put, Deferred.ofValue, go_sem, Try.func26]
            · rintro e5 w5 ⟨b2, rfl, h1, h2, h3⟩
              refine ⟨_, (some b1, some b2, none), rfl, hw.newf h1 h2 h3, ?_⟩
              clear h1 h2 h3 hw
              refine headF_lex (W := w0) (m := 1) (by kernel_rfl) (by kernel_rfl) (by kernel_rfl) (by simp) (fun s _ _ h => seqB_ready h.1) (fun s w' h => h.below) (fun s w2 w' h hb => h.on hb) _ [8] _ _ _ (pick_ops _ [8] (by simp)) (by decide) (inv_of (by kernel_rfl)) (by kernel_rfl) ?_
              simp only [List.filterMap_cons, List.filterMap_nil, List.getElem?_cons_zero, List.getElem?_cons_succ]
              repeat (
                refine wpFreeB_step (fun K hK => ?_)
                go_simp
                first
                  | (refine hK _ ?_; clear hK K)
                  | (apply Exists.intro
                     refine ⟨fun _ => ?_, hK _ ?_⟩
                     (with_reducible rfl)
                     clear hK K))
              refine wpFreeB_nil ?_
              refine headF_step [9] (by kernel_rfl) (by simp) (fun i hi => ?_)
              obtain rfl : i = 9 := by simpa using hi
              refine ⟨by omega, .inl ⟨by decide, _, rfl, by simp [Region.wanted], fun w4 hw => .inl ⟨.pointer (some ⟨w4.heap.size, 0, none⟩), (some b1, some b2, some w4.heap.size), _, ?_, hw.newz, ?_⟩⟩⟩
              · simp [go_sem]
              · clear hw
                generalize w4.heap.size = q
                refine ⟨by kernel_rfl, fun w9 hw9 => ?_⟩
                obtain ⟨l1, h1⟩ := hw9.p _ rfl
                obtain ⟨l2, h2⟩ := hw9.f _ rfl
                obtain ⟨l3, h3⟩ := hw9.z _ rfl
                obtain ⟨r0, r1, r2, r3, r4, r5, r6, r7⟩ := z4 h3
                have HZK := hid' (ZK.set h3 h1 h2 ⟨l3, l1, l2⟩ ⟨hw9.zp _ _ rfl rfl, hw9.zf _ _ rfl rfl, hw9.pf _ _ rfl rfl⟩ hw9.below)
                clear h1 h2 h3 hw9
                go_wp2_with fail
                go_meet
                exact ⟨_, _, _, rfl, HZK.out⟩
          · refine ⟨by omega, .inl ⟨by decide, _, rfl, by simp [Region.wanted], fun w4 hw => .inl ⟨.pointer (some ⟨w4.heap.size, 0, none⟩), (some b1, none, some w4.heap.size), _, ?_, hw.newz, ?_⟩⟩⟩
            · simp [go_sem]
            · clear hw
              generalize w4.heap.size = q
              refine headF_step [7] (by kernel_rfl) (by simp) (fun i hi => ?_)
              obtain rfl : i = 7 := by simpa using hi
              refine ⟨by omega, .inl ⟨by decide, _, rfl, by simp [Region.wanted], fun w4 hw => .inr ⟨26, #[.int .i64 bl.length], ?_, (nones26 bl.length hn8).mono ?_⟩⟩⟩
              · simp [execOp, resolve, invoke, Act.eval, Act.put, Deferred.ofValue, go_sem, Try.func26]
              · rintro e5 w5 ⟨b2, rfl, h1, h2, h3⟩
                refine ⟨_, (some b1, some b2, some q), rfl, hw.newf h1 h2 h3, ?_⟩
                clear h1 h2 h3 hw
                refine headF_lex (W := w0) (m := 0) (by kernel_rfl) (by kernel_rfl) (by kernel_rfl) (by simp) (fun s _ _ h => seqB_ready h.1) (fun s w' h => h.below) (fun s w2 w' h hb => h.on hb) _ [8] _ _ _ (pick_ops _ [8] (by simp)) (by decide) (inv_of (by kernel_rfl)) (by kernel_rfl) ?_
                simp only [List.filterMap_cons, List.filterMap_nil, List.getElem?_cons_zero, List.getElem?_cons_succ]
                repeat (
                  refine wpFreeB_step (fun K hK => ?_)
                  go_simp
                  first
                    | (refine hK _ ?_; clear hK K)
                    | (apply Exists.intro
                       refine ⟨fun _ => ?_, hK _ ?_⟩
                       (with_reducible rfl)
                       clear hK K))
                refine wpFreeB_nil ?_
                refine ⟨by kernel_rfl, fun w9 hw9 => ?_⟩
                obtain ⟨l1, h1⟩ := hw9.p _ rfl
                obtain ⟨l2, h2⟩ := hw9.f _ rfl
                obtain ⟨l3, h3⟩ := hw9.z _ rfl
                obtain ⟨r0, r1, r2, r3, r4, r5, r6, r7⟩ := z4 h3
                have HZK := hid' (ZK.set h3 h1 h2 ⟨l3, l1, l2⟩ ⟨hw9.zp _ _ rfl rfl, hw9.zf _ _ rfl rfl, hw9.pf _ _ rfl rfl⟩ hw9.below)
                clear h1 h2 h3 hw9
                go_wp2_with fail
                go_meet
                exact ⟨_, _, _, rfl, HZK.out⟩
      · refine ⟨by omega, .inl ⟨by decide, _, rfl, by simp [Region.wanted], fun w4 hw => .inl ⟨.pointer (some ⟨w4.heap.size, 0, none⟩), (none, none, some w4.heap.size), _, ?_, hw.newz, ?_⟩⟩⟩
        · simp [go_sem]
        · clear hw
          generalize w4.heap.size = q
          refine headF_step [3] (by kernel_rfl) (by simp) (fun i hi => ?_)
          obtain rfl : i = 3 := by simpa using hi
          refine ⟨by omega, .inl ⟨by decide, _, rfl, by simp [Region.wanted], fun w4 hw => .inr ⟨26, #[.int .i64 bl.length], ?_, (nones26 bl.length hn8).mono ?_⟩⟩⟩
          · simp [execOp, resolve, invoke, Act.eval, Act.put, Deferred.ofValue, go_sem, Try.func26]
          · rintro e5 w5 ⟨b1, rfl, h1, h2, h3⟩
            refine ⟨_, (some b1, none, some q), rfl, hw.newp h1 h2 h3, ?_⟩
            clear h1 h2 h3 hw
            refine headF_step [7] (by kernel_rfl) (by simp) (fun i hi => ?_)
            obtain rfl : i = 7 := by simpa using hi
            refine ⟨by omega, .inl ⟨by decide, _, rfl, by simp [Region.wanted], fun w4 hw => .inr ⟨26, #[.int .i64 bl.length], ?_, (nones26 bl.length hn8).mono ?_⟩⟩⟩
            · simp [execOp, resolve, invoke, Act.eval, Act.put, Deferred.ofValue, go_sem, Try.func26]
            · rintro e5 w5 ⟨b2, rfl, h1, h2, h3⟩
              refine ⟨_, (some b1, some b2, some q), rfl, hw.newf h1 h2 h3, ?_⟩
              clear h1 h2 h3 hw
              refine headF_lex (W := w0) (m := 0) (by kernel_rfl) (by kernel_rfl) (by kernel_rfl) (by simp) (fun s _ _ h => seqB_ready h.1) (fun s w' h => h.below) (fun s w2 w' h hb => h.on hb) _ [8] _ _ _ (pick_ops _ [8] (by simp)) (by decide) (inv_of (by kernel_rfl)) (by kernel_rfl) ?_
              simp only [List.filterMap_cons, List.filterMap_nil, List.getElem?_cons_zero, List.getElem?_cons_succ]
              repeat (
                refine wpFreeB_step (fun K hK => ?_)
                go_simp
                first
                  | (refine hK _ ?_; clear hK K)
                  | (apply Exists.intro
                     refine ⟨fun _ => ?_, hK _ ?_⟩
                     (with_reducible rfl)
                     clear hK K))
              refine wpFreeB_nil ?_
              refine ⟨by kernel_rfl, fun w9 hw9 => ?_⟩
              obtain ⟨l1, h1⟩ := hw9.p _ rfl
              obtain ⟨l2, h2⟩ := hw9.f _ rfl
              obtain ⟨l3, h3⟩ := hw9.z _ rfl
              obtain ⟨r0, r1, r2, r3, r4, r5, r6, r7⟩ := z4 h3
              have HZK := hid' (ZK.set h3 h1 h2 ⟨l3, l1, l2⟩ ⟨hw9.zp _ _ rfl rfl, hw9.zf _ _ rfl rfl, hw9.pf _ _ rfl rfl⟩ hw9.below)
              clear h1 h2 h3 hw9
              go_wp2_with fail
              go_meet
              exact ⟨_, _, _, rfl, HZK.out⟩
    case rest =>
      obtain ⟨r, gp, gf, rfl, hZ⟩ := hcut
      have hr := hZ.lo.1
      obtain ⟨w1, hm1, hR1, hb1, hs1⟩ := make_ints wc hn8
      have hl1 := hZ.box.lt
      have hl2 := hZ.rp.lt
      have hl3 := hZ.rf.lt
      have hKM : ∃ v : Kv, v.gt = wc.heap.size ∧ KM w0.heap.size w1 r v bl.length (fun _ => -1) (fun _ => -1) (fun _ => ((0 : Nat) : Int)) [] (ints []) := by
        refine ⟨⟨gp, gf, wc.heap.size, .slice none 0 0, .slice none 0 0⟩, rfl, ⟨World.rowIs.of_block (World.rowIs.congr hZ.box (fun i hi => ?_)) (hb1.block _ hl1), hZ.rp.on hb1, hZ.rf.on hb1, hR1, World.ownsRow_nil _ _ _ _, World.ownsRow_nil _ _ _ _, ⟨hZ.lo.1, hZ.lo.2.1, hZ.lo.2.2, hZ.below.size⟩, ⟨hZ.ne.1, hZ.ne.2.1, by dsimp only; omega, hZ.ne.2.2, by dsimp only; omega, by dsimp only; omega⟩, (fun h e => by cases e), (fun h e => by cases e)⟩⟩
        match i, hi with
        | 0, _ => rfl
        | 1, _ => rfl
        | 2, _ => rfl
        | 3, _ => rfl
      obtain ⟨v, egt, hK⟩ := hKM
      have HB := hid' (below_up hZ.below hb1)
      have HK0 := hid' hK
      have hfc0 := hC.out w1 HB.out
      have hfc1 := hC.out wc hZ.below
      clear hR1 hb1 hs1 hK hl1 hl2 hl3
      have HZB := hid' hZ.below
      clear hZ
      go_upto_region 3 with fail
      clear hm1 hfc1 HZB
      generalize wc.heap.size = gt at *
      subst egt
      go_cut [5, 6] (fun av zv wx => ∃ (a dp : Nat) (blk par tried tr : Nat → Nat) (plc frm : Nat → Int) (came : List Int) (left : List Nat), av = .int .i64 (blk a) ∧ zv = .int .i64 0 ∧ wx = w1 ∧ KM w0.heap.size w1 r v bl.length plc frm (fun b => (tr b : Int)) came (ints left) ∧ (0 < bl.length → Wk bl.length (succN bl) (a + 1) a a left dp blk par tried tr plc frm came) ∧ came = [] ∧ left = [])
      case first =>
        go_wp2_with fail
        go_meet
        exact ⟨0, 0, fun _ => 0, fun _ => 0, fun _ => 0, fun _ => 0, fun _ => -1, fun _ => -1, [], [], rfl, rfl, rfl, HK0.out, fun h => Wk.begin _ h, rfl, rfl⟩
      case rest =>
        obtain ⟨a, dp, blk, par, tried, tr, plc, frm, came, left, rfl, rfl, rfl, hK, hW, ecame, eleft⟩ := hcut
        have HK := hid' hK
        have HWW := hid' hW
        clear hK hW HK0
        by_cases hn0 : bl.length = 0
        · obtain ⟨t0, t1, t2, t3, tf⟩ := HRC.out _ HB.out
          subst ecame eleft
          obtain ⟨cao, ccap, ecv⟩ := (HK.out.oc.src ic1).len
          obtain ⟨lao, lcap, elv⟩ := (HK.out.ol.src ic1).len
          simp only [List.length_nil, ints, List.map_nil] at ecv elv
          have d0 := HK.out.c0
          have d1 := HK.out.c1
          rw [ecv] at d0
          rw [elv] at d1
          have d2 := HK.out.c2
          have d3 := HK.out.c3
          have tf0 := tf 0
          have tf1 := tf 1
          have tf2 := tf 2
          have tf3 := tf 3
          have hlen0 : ((bl.length : Int) == 0) = true := beq_iff_eq.2 (by omega)
          have HN0 := hid' hn0
          have HEC := hid' ecv
          have HEL := hid' elv
          clear hn0 HWW ecv elv
          go_wp2_with fail
          simp only [jumps]
          have K7 : Kept (fun k => k = w.heap.size + 1) wc ((((wc.setCell ⟨w.heap.size + 1, 0, none⟩ (.slice cao 0 ccap)).setCell ⟨w.heap.size + 1, 1, none⟩ (.slice lao 0 lcap)).setCell ⟨w.heap.size + 1, 2, none⟩ (.slice (some ⟨v.gp, 0, none⟩) bl.length bl.length)).setCell ⟨w.heap.size + 1, 3, none⟩ (.slice (some ⟨v.gf, 0, none⟩) bl.length bl.length)) :=
            ((((Kept.rfl (fun k => k = w.heap.size + 1) wc).set (.inl (Eq.refl _)) _).set (.inl (Eq.refl _)) _).set (.inl (Eq.refl _)) _).set (.inl (Eq.refl _)) _
          have hlo := HK.out.lo
          have hs2 := HS0.out
          have hnn := HN0.out
          refine bodyPost_ret (v := .agg #[.slice cao 0 ccap, .slice lao 0 lcap, .slice (some ⟨v.gp, 0, none⟩) bl.length bl.length, .slice (some ⟨v.gf, 0, none⟩) bl.length bl.length]) (by simp [results, Try.results25, go_sem, t0, t1, t2, t3]) rfl ⟨_, _, _, _, 0, fun _ => 0, fun _ => 0, fun _ => 0, [], rfl, ⟨Nat.zero_le _, .inl ⟨rfl, _, _, rfl⟩, .inl ⟨rfl, _, _, rfl⟩, ⟨v.gp, plc, rfl, HK.out.rp.kept K7 (by omega), fun j hj => by omega⟩, ⟨v.gf, frm, rfl, HK.out.rf.kept K7 (by omega), fun j h0 hj => by omega⟩, fun j hj => by omega⟩, ?_, fun _ => ⟨rfl, rfl⟩, fun h => by omega⟩
          exact (HB0.out.trans (HB.out.mono HB0.out.size)).trans (K7.below (by have := HB.out.size; omega) (fun k e => by omega))
        · have HW := hid' (HWW.out (by omega))
          have hlen0 : ((bl.length : Int) == 0) = false := beq_eq_false_iff_ne.2 (by omega)
          clear ecame eleft HWW
          go_upto_region 6 with (go_step3)
          have hle := HW.out.le
          have hbM := HW.out.lt a (by omega)
          have hcl : came.length = a := by rw [HW.out.came]; simp
          obtain ⟨cao, ccap, ecv⟩ := (HK.out.oc.src ic1).len
          have c0 := HK.out.c0
          rw [ecv, hcl] at c0
          have c2 := HK.out.c2
          have f0 := HK.out.fro 0
          have cp := HK.out.rp.cell hbM
          have fp := HK.out.rp.fro (blk a)
          obtain ⟨F4, B4⟩ := HK.out.put_plc (blk a) a
          have HK4 := hid' F4
          have HB4 := hid' (HB.out.trans B4)
          have HCL := hid' hcl
          have HECV := hid' ecv
          obtain ⟨ti3, hi3, z0', z1', z2'⟩ := info_parts info3
          have HI3 := hid' hi3
          clear F4 B4 hcl ecv
          go_upto_region 7 with fail
          generalize wc.setCell ⟨v.gp, blk a, none⟩ (.int .i64 a) = w4 at *
          have c0' := HK4.out.c0
          rw [HECV.out, HCL.out] at c0'
          have f0' := HK4.out.fro 0
          clear c0 c2 f0 cp fp HK HB
          go_wp2_with (at_builtin; refine of_mark ?_)
          unfold Mark
          refine wpList_append_own_at _ rfl _ _ 26 rfl w0.heap.size 3 ti3 (.int .i64 0) 1 8 Try.underlying26 HI3.out z0' z1' z2' rfl (by decide) (.slice cao a ccap) _ _ rfl (World.ownsRow.alloc (by have h := HK4.out.oc; rw [HECV.out, HCL.out] at h; exact h) _) ⟨w4.heap.size, 0, none⟩ 1 1 [.int .i64 (blk a)] rfl rfl (cell_one_new _ _ _) (by intro x hx; simp at hx; rw [hx]; rfl) (by rw [HCL.out]; unfold maxLen; omega) (by rw [HCL.out]; omega) (by have := HK4.out.big; simp; omega) ?_
          intro v' w5 hown' hgrow hnil hloc
          have hO5 : Own 3 1 icell w5 w0.heap.size v' (came ++ [(blk a : Int)]) := by
            unfold Own
            rw [flat_append, List.length_append]
            exact hown'
          have hgrow2 : (w4.alloc (.cells #[.int .i64 (blk a)] 3)).grownBy w5 v.cv.ownBlock := by rw [HECV.out, HCL.out]; exact hgrow
          have hloc2 : v'.ownBlock = v.cv.ownBlock ∨ v'.ownBlock = some (w4.alloc (.cells #[.int .i64 (blk a)] 3)).heap.size := by rw [HECV.out, HCL.out]; exact hloc
          obtain ⟨hF5, hb5⟩ := HK4.out.app_came hO5 hgrow2 hloc2
          have hgk : w5.heap[r]? = w4.heap[r]? := by
            have K1 : Kept (fun b => v.cv.ownBlock = some b) w4 w5 := ((Kept.rfl (fun b => v.cv.ownBlock = some b) w4).alloc _).ahead (Kept.of_grown (S := fun b => v.cv.ownBlock = some b) hgrow2 (fun k e => e)) (fun i _ e => e)
            exact K1.block _ HK4.out.box.lt (fun e => (HK4.out.cn r e).1 rfl)
          have c1' : w5.cell? ⟨r, 0, none⟩ = some (.slice cao a ccap) := (World.cell?_of_block hgk).trans c0'
          have f1' : w5.frozen? ⟨r, 0, none⟩ = false := (World.frozen?_of_block hgk).trans f0'
          obtain ⟨g5, k5, rfl⟩ : ∃ g5 k5, v' = .slice (some ⟨g5, 0, none⟩) (a + 1) k5 := by
            rcases hown'.2 with ⟨_, e0⟩ | ⟨g5, c5, cu5, e5, _⟩
            · simp at e0
            · exact ⟨g5, c5, by rw [e5]; simp [HCL.out]⟩
          have HB5 := hid' (HB4.out.trans hb5)
          have HW5 := hid' HW.out.placed
          obtain ⟨v2, ev⟩ : ∃ v2 : Kv, v2 = { v with cv := .slice (some ⟨g5, 0, none⟩) (a + 1) k5 } := ⟨_, rfl⟩
          rw [← ev] at hF5
          have egt : v.gt = v2.gt := by rw [ev]
          have HK5 := hid' hF5
          clear hown' hgrow hnil hloc hO5 hF5 hb5 hgk hgrow2 hloc2 HK4 HB4 HW ev c0' f0'
          go_upto_region 8 with (go_step3)
          (first | rw [egt] | skip)
          clear egt HCL HECV
          generalize w5.setCell ⟨r, 0, none⟩ (.slice (some ⟨g5, 0, none⟩) (a + 1) k5) = w6 at *
          generalize hplc : Dfs.upd plc (blk a) (a : Int) = plc2 at *
          generalize hcame : came ++ [(blk a : Int)] = came2 at *
          clear hplc hcame
          have HK := HK5
          have HW := HW5
          have HB := HB5
          clear HK5 HW5 HB5
          have hbn := HW.out.lt a HW.out.met.at_
          have hWL : Below w.heap.size w w6 := HB0.out.trans (HB.out.mono HB0.out.size)
          obtain ⟨bb, bo, rfl, hbb1, hbcp, hbx⟩ := HF.out (blk a) hbn
          obtain ⟨x0, x1, x2, x3⟩ := bl_cells (hbx w6 hWL)
          have HX : Hid (∀ W, Below w.heap.size w W → W.cell? ⟨bb, bo + blk a * 4 + 3, none⟩ = some (bl[blk a].tv)) := fun W hW => (bl_cells (hbx W hW)).2.2.2
          have hok := HS.out _ (List.getElem_mem hbn)
          have htl := hok.tl
          obtain ⟨tt2, tc2, ett, hft⟩ := (hok.t.on hWL).ints
          have HT0 := hok.t
          have eto : succN bl (blk a) = bl[blk a].to := by unfold succN; rw [List.getElem?_eq_getElem hbn]; rfl
          have HETO := hid' eto
          have hfc := hC.out w6 HB.out
          have c4 := HK.out.rt.cell hbn
          rw [HW.out.tm a HW.out.met.at_] at c4
          have htl2 := HW.out.tl a HW.out.met.at_
          rw [eto] at htl2
          have HTL := hid' htl2
          have HTT := hid' (hok.t)
          rw [ett] at x3 HX HTT
          unfold big at htl
          clear hbx hft hok eto ett
          have HR0 := hid' hr
          by_cases hte : tried a = bl[blk a].to.length
          · have hcmp : ((tried a : Int) == (bl[blk a].to.length : Int)) = true := beq_iff_eq.2 (by omega)
            have HTE := hid' hte
            clear hte
            go_wp2_with fail
            go_quiet (fail)
            have HK2 := hid' (HK.out.drewN nq)
            have HB2 := hid' (bdr (k := nq) HB.out)
            clear HK HB
            generalize w6.drewN nq = wq at *
            go_wp2_with fail
            go_step3
            refine ⟨by omega, 6 * rest (fun b => (succN bl b).length) tr bl.length + 2 * dp, r, HR0.out, v2, 0, (a + 1), (a + 1), a, dp, blk, par, tried, tr, plc2, frm, came2, left, ?_, HK2.out, HW.out, HB2.out, .inr (.inl ⟨rfl, rfl, by rw [HETO.out, HTE.out]; exact Nat.le_refl _, rfl⟩)⟩
            unfold WFr
            (repeat apply Exists.intro)
            rfl
          · have hcmp : ((tried a : Int) == (bl[blk a].to.length : Int)) = false := beq_eq_false_iff_ne.2 (by omega)
            have hlt : tried a < bl[blk a].to.length := by have := HTL.out; omega
            clear hte
            go_wp2_with fail
            go_quiet (fail)
            have HK2 := hid' (HK.out.drewN nq)
            have HB2 := hid' (bdr (k := nq) HB.out)
            clear HK HB x0 x1 x2 x3 c4 hfc
            generalize w6.drewN nq = wq at *
            have hWq : Below w.heap.size w wq := HB0.out.trans (HB2.out.mono HB0.out.size)
            have x3 := HX.out wq hWq
            have c4 := HK2.out.rt.cell hbn
            rw [HW.out.tm a HW.out.met.at_] at c4
            have hfc := hC.out wq HB2.out
            obtain ⟨tt3, tc3, ett3, hft3⟩ := (HTT.out.on hWq).ints
            injection ett3 with e1 _ e3
            subst e1 e3
            obtain ⟨tb, toff, rfl, _, htcp, hcx⟩ := hft3 (tried a) hlt
            have tcell := hcx wq (Below.refl _ _)
            have htg : (succN bl (blk a))[tried a]? = some bl[blk a].to[tried a] := by rw [HETO.out]; exact List.getElem?_eq_getElem hlt
            have HTG := hid' htg
            have hrl : tr (blk a) < (succN bl (blk a)).length := by rw [HETO.out, HW.out.tm a HW.out.met.at_]; exact hlt
            have HRL := hid' (rest_less (len := fun b => (succN bl b).length) (tri := tr) hrl bl.length hbn)
            clear hft3 hcx htg hrl
            generalize bl[blk a].to[tried a] = t at *
            generalize bl[blk a].to.length = tlen at *
            go_wp2_with fail
            go_quiet (fail)
            have HK3 := hid' (HK2.out.drewN nq)
            have HB3 := hid' (bdr (k := nq) HB2.out)
            clear HK2 HB2 x3 c4 hfc tcell
            generalize wq.drewN nq = wp at *
            have c4 := HK3.out.rt.cell hbn
            have f4 := HK3.out.rt.fro (blk a)
            obtain ⟨F4, B4⟩ := HK3.out.put_tri (blk a) ((tried a : Int) + 1)
            rw [HW.out.tm a HW.out.met.at_] at c4
            have ecast : Dfs.upd (fun b => (tr b : Int)) (blk a) ((tried a : Int) + 1) = fun b => ((Dfs.upd tr (blk a) (tr (blk a) + 1) b : Nat) : Int) := by
              funext b
              simp only [Dfs.upd]
              split
              · rw [HW.out.tm a HW.out.met.at_]; rfl
              · rfl
            rw [ecast] at F4
            have HK4 := hid' F4
            have HB4 := hid' (HB3.out.trans B4)
            have H38 := hid' (new38 F4 hbl2 t)
            clear F4 B4 ecast HK3 HB3
            by_cases hnew : (0 ≤ t ∧ t < bl.length) ∧ plc2 t.toNat = -1
            · rw [decide_eq_true hnew] at H38
              obtain ⟨⟨n0, n1⟩, n2⟩ := hnew
              obtain ⟨tn, rfl⟩ : ∃ tn : Nat, t = tn := ⟨t.toNat, by omega⟩
              rw [Int.toNat_natCast] at n2
              have htn : tn < bl.length := by omega
              have HW5 := hid' (HW.out.next_new HTG.out htn n2)
              clear n2
              go_wp2_with (go_at_call 38; refine H38.out.mono ?_; rintro e8 w8 ⟨rfl, rfl⟩; have g3 := HK4.out.c3; have gc := HK4.out.rf.cell htn; have gf := HK4.out.rf.fro tn)
              go_step3
              obtain ⟨F5, B5⟩ := HK4.out.put_frm tn (blk a)
              refine ⟨by omega, 6 * rest (fun b => (succN bl b).length) (Dfs.upd tr (blk a) (tr (blk a) + 1)) bl.length + 2 * (dp + 1) + 1, r, HR0.out, v2, tn, (a + 1) + 1, (a + 1), (a + 1), dp + 1, _, _, _, _, _, _, _, left, ?_, F5, HW5.out, HB4.out.trans B5, .inl ⟨rfl, rfl, rfl, rfl⟩⟩
              unfold WFr
              rw [Dfs.upd_same]
              (repeat apply Exists.intro)
              rfl
            · rw [decide_eq_false hnew] at H38
              have HW5 := hid' (HW.out.next_old HTG.out (fun h1 h2 => hnew ⟨h1, h2⟩))
              clear hnew
              go_wp2_with (go_at_call 38; refine H38.out.mono ?_; rintro e8 w8 ⟨rfl, rfl⟩)
              go_step3
              refine ⟨by omega, 6 * rest (fun b => (succN bl b).length) (Dfs.upd tr (blk a) (tr (blk a) + 1)) bl.length + 2 * dp + 1, r, HR0.out, v2, t, (a + 1), (a + 1), a, dp, blk, par, _, _, plc2, frm, came2, left, ?_, HK4.out, HW5.out, HB4.out, .inr (.inr ⟨rfl, rfl, rfl⟩)⟩
              unfold WFr
              (repeat apply Exists.intro)
              rfl
  · skip
    intro mm a' w' hJ
    obtain ⟨r, hr, v, z, m, M, a, dp, blk, par, tried, tr, plc, frm, came, left, hfr, hK, hW, hB, hcase⟩ := hJ
    obtain ⟨u7, hfr⟩ := hfr
    obtain ⟨u8, hfr⟩ := hfr
    obtain ⟨u9, hfr⟩ := hfr
    obtain ⟨u10, hfr⟩ := hfr
    obtain ⟨u11, hfr⟩ := hfr
    obtain ⟨u12, hfr⟩ := hfr
    obtain ⟨u13, hfr⟩ := hfr
    obtain ⟨u14, hfr⟩ := hfr
    obtain ⟨u15, hfr⟩ := hfr
    obtain ⟨u16, hfr⟩ := hfr
    obtain ⟨u17, hfr⟩ := hfr
    obtain ⟨u18, hfr⟩ := hfr
    obtain ⟨u19, hfr⟩ := hfr
    obtain ⟨u20, hfr⟩ := hfr
    obtain ⟨u21, hfr⟩ := hfr
    obtain ⟨u22, hfr⟩ := hfr
    obtain ⟨u23, hfr⟩ := hfr
    obtain ⟨u24, hfr⟩ := hfr
    obtain ⟨u25, hfr⟩ := hfr
    obtain ⟨u26, hfr⟩ := hfr
    obtain ⟨u27, hfr⟩ := hfr
    obtain ⟨u28, hfr⟩ := hfr
    obtain ⟨u29, hfr⟩ := hfr
    obtain ⟨u30, hfr⟩ := hfr
    obtain ⟨u31, hfr⟩ := hfr
    obtain ⟨u32, hfr⟩ := hfr
    obtain ⟨u33, hfr⟩ := hfr
    obtain ⟨u34, hfr⟩ := hfr
    obtain ⟨u35, hfr⟩ := hfr
    obtain ⟨u36, hfr⟩ := hfr
    obtain ⟨u37, hfr⟩ := hfr
    obtain ⟨u38, hfr⟩ := hfr
    obtain ⟨u39, hfr⟩ := hfr
    obtain ⟨u40, hfr⟩ := hfr
    obtain ⟨u41, hfr⟩ := hfr
    obtain ⟨u42, hfr⟩ := hfr
    obtain ⟨u43, hfr⟩ := hfr
    obtain ⟨u44, hfr⟩ := hfr
    obtain ⟨u45, hfr⟩ := hfr
    obtain ⟨u46, hfr⟩ := hfr
    obtain ⟨u47, hfr⟩ := hfr
    obtain ⟨u48, hfr⟩ := hfr
    obtain ⟨u49, hfr⟩ := hfr
    obtain ⟨u50, hfr⟩ := hfr
    obtain ⟨u51, hfr⟩ := hfr
    obtain ⟨u52, hfr⟩ := hfr
    obtain ⟨u53, hfr⟩ := hfr
    obtain ⟨u54, hfr⟩ := hfr
    obtain ⟨u55, hfr⟩ := hfr
    obtain ⟨u56, hfr⟩ := hfr
    obtain ⟨u57, hfr⟩ := hfr
    obtain ⟨u58, hfr⟩ := hfr
    obtain ⟨u59, hfr⟩ := hfr
    obtain ⟨u60, hfr⟩ := hfr
    obtain ⟨u61, hfr⟩ := hfr
    obtain ⟨u62, hfr⟩ := hfr
    obtain ⟨u63, hfr⟩ := hfr
    obtain ⟨u64, hfr⟩ := hfr
    obtain ⟨u65, hfr⟩ := hfr
    obtain ⟨u66, hfr⟩ := hfr
    obtain ⟨u67, hfr⟩ := hfr
    obtain ⟨u68, hfr⟩ := hfr
    obtain ⟨u69, hfr⟩ := hfr
    obtain ⟨u70, hfr⟩ := hfr
    obtain ⟨u71, hfr⟩ := hfr
    obtain ⟨u72, hfr⟩ := hfr
    obtain ⟨u73, hfr⟩ := hfr
    obtain ⟨u74, hfr⟩ := hfr
    obtain ⟨u75, hfr⟩ := hfr
    obtain ⟨u76, hfr⟩ := hfr
    obtain ⟨u77, hfr⟩ := hfr
    obtain ⟨u78, hfr⟩ := hfr
    obtain ⟨u79, hfr⟩ := hfr
    obtain ⟨u80, hfr⟩ := hfr
    obtain ⟨u81, hfr⟩ := hfr
    obtain ⟨u82, hfr⟩ := hfr
    obtain ⟨u83, hfr⟩ := hfr
    obtain ⟨u84, hfr⟩ := hfr
    obtain ⟨u85, hfr⟩ := hfr
    obtain ⟨u86, hfr⟩ := hfr
    obtain ⟨u87, hfr⟩ := hfr
    obtain ⟨u88, hfr⟩ := hfr
    obtain ⟨u89, hfr⟩ := hfr
    obtain ⟨u90, hfr⟩ := hfr
    subst hfr
    obtain ⟨rfl, rfl, rfl⟩ : m = M + 1 ∧ a = M ∧ mm = 6 * rest (fun b => (succN bl b).length) tr bl.length + 2 * dp + 1 := by
      rcases hcase with ⟨_, h⟩ | ⟨e, _⟩ | ⟨e, _⟩
      · exact h
      · cases e
      · cases e
    have HK := hid' hK
    have HW := hid' hW
    have HB := hid' hB
    clear hK hW hB hcase
    have hle := HW.out.le
    have hbM := HW.out.lt a (by omega)
    have hcl : came.length = a := by rw [HW.out.came]; simp
    obtain ⟨cao, ccap, ecv⟩ := (HK.out.oc.src ic1).len
    have c0 := HK.out.c0
    rw [ecv, hcl] at c0
    have c2 := HK.out.c2
    have f0 := HK.out.fro 0
    have cp := HK.out.rp.cell hbM
    have fp := HK.out.rp.fro (blk a)
    obtain ⟨F4, B4⟩ := HK.out.put_plc (blk a) a
    have HK4 := hid' F4
    have HB4 := hid' (HB.out.trans B4)
    have HCL := hid' hcl
    have HECV := hid' ecv
    obtain ⟨ti3, hi3, z0', z1', z2'⟩ := info_parts info3
    have HI3 := hid' hi3
    clear F4 B4 hcl ecv
    go_upto_region 7 with fail
    generalize w'.setCell ⟨v.gp, blk a, none⟩ (.int .i64 a) = w4 at *
    have c0' := HK4.out.c0
    rw [HECV.out, HCL.out] at c0'
    have f0' := HK4.out.fro 0
    clear c0 c2 f0 cp fp HK HB
    go_wp2_with (at_builtin; refine of_mark ?_)
    unfold Mark
    refine wpList_append_own_at _ rfl _ _ 26 rfl w0.heap.size 3 ti3 (.int .i64 0) 1 8 Try.underlying26 HI3.out z0' z1' z2' rfl (by decide) (.slice cao a ccap) _ _ rfl (World.ownsRow.alloc (by have h := HK4.out.oc; rw [HECV.out, HCL.out] at h; exact h) _) ⟨w4.heap.size, 0, none⟩ 1 1 [.int .i64 (blk a)] rfl rfl (cell_one_new _ _ _) (by intro x hx; simp at hx; rw [hx]; rfl) (by rw [HCL.out]; unfold maxLen; omega) (by rw [HCL.out]; omega) (by have := HK4.out.big; simp; omega) ?_
    intro v' w5 hown' hgrow hnil hloc
    have hO5 : Own 3 1 icell w5 w0.heap.size v' (came ++ [(blk a : Int)]) := by
      unfold Own
      rw [flat_append, List.length_append]
      exact hown'
    have hgrow2 : (w4.alloc (.cells #[.int .i64 (blk a)] 3)).grownBy w5 v.cv.ownBlock := by rw [HECV.out, HCL.out]; exact hgrow
    have hloc2 : v'.ownBlock = v.cv.ownBlock ∨ v'.ownBlock = some (w4.alloc (.cells #[.int .i64 (blk a)] 3)).heap.size := by rw [HECV.out, HCL.out]; exact hloc
    obtain ⟨hF5, hb5⟩ := HK4.out.app_came hO5 hgrow2 hloc2
    have hgk : w5.heap[r]? = w4.heap[r]? := by
      have K1 : Kept (fun b => v.cv.ownBlock = some b) w4 w5 := ((Kept.rfl (fun b => v.cv.ownBlock = some b) w4).alloc _).ahead (Kept.of_grown (S := fun b => v.cv.ownBlock = some b) hgrow2 (fun k e => e)) (fun i _ e => e)
      exact K1.block _ HK4.out.box.lt (fun e => (HK4.out.cn r e).1 rfl)
    have c1' : w5.cell? ⟨r, 0, none⟩ = some (.slice cao a ccap) := (World.cell?_of_block hgk).trans c0'
    have f1' : w5.frozen? ⟨r, 0, none⟩ = false := (World.frozen?_of_block hgk).trans f0'
    obtain ⟨g5, k5, rfl⟩ : ∃ g5 k5, v' = .slice (some ⟨g5, 0, none⟩) (a + 1) k5 := by
      rcases hown'.2 with ⟨_, e0⟩ | ⟨g5, c5, cu5, e5, _⟩
      · simp at e0
      · exact ⟨g5, c5, by rw [e5]; simp [HCL.out]⟩
    have HB5 := hid' (HB4.out.trans hb5)
    have HW5 := hid' HW.out.placed
    obtain ⟨v2, ev⟩ : ∃ v2 : Kv, v2 = { v with cv := .slice (some ⟨g5, 0, none⟩) (a + 1) k5 } := ⟨_, rfl⟩
    rw [← ev] at hF5
    have egt : v.gt = v2.gt := by rw [ev]
    have HK5 := hid' hF5
    clear hown' hgrow hnil hloc hO5 hF5 hb5 hgk hgrow2 hloc2 HK4 HB4 HW ev c0' f0'
    go_upto_region 8 with (go_step3)
    (first | rw [egt] | skip)
    clear egt HCL HECV
    generalize w5.setCell ⟨r, 0, none⟩ (.slice (some ⟨g5, 0, none⟩) (a + 1) k5) = w6 at *
    generalize hplc : Dfs.upd plc (blk a) (a : Int) = plc2 at *
    generalize hcame : came ++ [(blk a : Int)] = came2 at *
    clear hplc hcame
    have HK := HK5
    have HW := HW5
    have HB := HB5
    clear HK5 HW5 HB5
    have hbn := HW.out.lt a HW.out.met.at_
    have hWL : Below w.heap.size w w6 := HB0.out.trans (HB.out.mono HB0.out.size)
    obtain ⟨bb, bo, rfl, hbb1, hbcp, hbx⟩ := HF.out (blk a) hbn
    obtain ⟨x0, x1, x2, x3⟩ := bl_cells (hbx w6 hWL)
    have HX : Hid (∀ W, Below w.heap.size w W → W.cell? ⟨bb, bo + blk a * 4 + 3, none⟩ = some (bl[blk a].tv)) := fun W hW => (bl_cells (hbx W hW)).2.2.2
    have hok := HS.out _ (List.getElem_mem hbn)
    have htl := hok.tl
    obtain ⟨tt2, tc2, ett, hft⟩ := (hok.t.on hWL).ints
    have HT0 := hok.t
    have eto : succN bl (blk a) = bl[blk a].to := by unfold succN; rw [List.getElem?_eq_getElem hbn]; rfl
    have HETO := hid' eto
    have hfc := hC.out w6 HB.out
    have c4 := HK.out.rt.cell hbn
    rw [HW.out.tm a HW.out.met.at_] at c4
    have htl2 := HW.out.tl a HW.out.met.at_
    rw [eto] at htl2
    have HTL := hid' htl2
    have HTT := hid' (hok.t)
    rw [ett] at x3 HX HTT
    unfold big at htl
    clear hbx hft hok eto ett
    have HR0 := hid' hr
    by_cases hte : tried a = bl[blk a].to.length
    · have hcmp : ((tried a : Int) == (bl[blk a].to.length : Int)) = true := beq_iff_eq.2 (by omega)
      have HTE := hid' hte
      clear hte
      go_wp2_with fail
      go_quiet (fail)
      have HK2 := hid' (HK.out.drewN nq)
      have HB2 := hid' (bdr (k := nq) HB.out)
      clear HK HB
      generalize w6.drewN nq = wq at *
      go_wp2_with fail
      go_step3
      refine ⟨by omega, 6 * rest (fun b => (succN bl b).length) tr bl.length + 2 * dp, by omega, r, HR0.out, v2, z, (a + 1), (a + 1), a, dp, blk, par, tried, tr, plc2, frm, came2, left, ?_, HK2.out, HW.out, HB2.out, .inr (.inl ⟨rfl, rfl, by rw [HETO.out, HTE.out]; exact Nat.le_refl _, rfl⟩)⟩
      unfold WFr
      (repeat apply Exists.intro)
      rfl
    · have hcmp : ((tried a : Int) == (bl[blk a].to.length : Int)) = false := beq_eq_false_iff_ne.2 (by omega)
      have hlt : tried a < bl[blk a].to.length := by have := HTL.out; omega
      clear hte
      go_wp2_with fail
      go_quiet (fail)
      have HK2 := hid' (HK.out.drewN nq)
      have HB2 := hid' (bdr (k := nq) HB.out)
      clear HK HB x0 x1 x2 x3 c4 hfc
      generalize w6.drewN nq = wq at *
      have hWq : Below w.heap.size w wq := HB0.out.trans (HB2.out.mono HB0.out.size)
      have x3 := HX.out wq hWq
      have c4 := HK2.out.rt.cell hbn
      rw [HW.out.tm a HW.out.met.at_] at c4
      have hfc := hC.out wq HB2.out
      obtain ⟨tt3, tc3, ett3, hft3⟩ := (HTT.out.on hWq).ints
      injection ett3 with e1 _ e3
      subst e1 e3
      obtain ⟨tb, toff, rfl, _, htcp, hcx⟩ := hft3 (tried a) hlt
      have tcell := hcx wq (Below.refl _ _)
      have htg : (succN bl (blk a))[tried a]? = some bl[blk a].to[tried a] := by rw [HETO.out]; exact List.getElem?_eq_getElem hlt
      have HTG := hid' htg
      have hrl : tr (blk a) < (succN bl (blk a)).length := by rw [HETO.out, HW.out.tm a HW.out.met.at_]; exact hlt
      have HRL := hid' (rest_less (len := fun b => (succN bl b).length) (tri := tr) hrl bl.length hbn)
      clear hft3 hcx htg hrl
      generalize bl[blk a].to[tried a] = t at *
      generalize bl[blk a].to.length = tlen at *
      go_wp2_with fail
      go_quiet (fail)
      have HK3 := hid' (HK2.out.drewN nq)
      have HB3 := hid' (bdr (k := nq) HB2.out)
      clear HK2 HB2 x3 c4 hfc tcell
      generalize wq.drewN nq = wp at *
      have c4 := HK3.out.rt.cell hbn
      have f4 := HK3.out.rt.fro (blk a)
      obtain ⟨F4, B4⟩ := HK3.out.put_tri (blk a) ((tried a : Int) + 1)
      rw [HW.out.tm a HW.out.met.at_] at c4
      have ecast : Dfs.upd (fun b => (tr b : Int)) (blk a) ((tried a : Int) + 1) = fun b => ((Dfs.upd tr (blk a) (tr (blk a) + 1) b : Nat) : Int) := by
        funext b
        simp only [Dfs.upd]
        split
        · rw [HW.out.tm a HW.out.met.at_]; rfl
        · rfl
      rw [ecast] at F4
      have HK4 := hid' F4
      have HB4 := hid' (HB3.out.trans B4)
      have H38 := hid' (new38 F4 hbl2 t)
      clear F4 B4 ecast HK3 HB3
      by_cases hnew : (0 ≤ t ∧ t < bl.length) ∧ plc2 t.toNat = -1
      · rw [decide_eq_true hnew] at H38
        obtain ⟨⟨n0, n1⟩, n2⟩ := hnew
        obtain ⟨tn, rfl⟩ : ∃ tn : Nat, t = tn := ⟨t.toNat, by omega⟩
        rw [Int.toNat_natCast] at n2
        have htn : tn < bl.length := by omega
        have HW5 := hid' (HW.out.next_new HTG.out htn n2)
        clear n2
        go_wp2_with (go_at_call 38; refine H38.out.mono ?_; rintro e8 w8 ⟨rfl, rfl⟩; have g3 := HK4.out.c3; have gc := HK4.out.rf.cell htn; have gf := HK4.out.rf.fro tn)
        go_step3
        obtain ⟨F5, B5⟩ := HK4.out.put_frm tn (blk a)
        refine ⟨by omega, 6 * rest (fun b => (succN bl b).length) (Dfs.upd tr (blk a) (tr (blk a) + 1)) bl.length + 2 * (dp + 1) + 1, by have := HRL.out; omega, r, HR0.out, v2, tn, (a + 1) + 1, (a + 1), (a + 1), dp + 1, _, _, _, _, _, _, _, left, ?_, F5, HW5.out, HB4.out.trans B5, .inl ⟨rfl, rfl, rfl, rfl⟩⟩
        unfold WFr
        rw [Dfs.upd_same]
        (repeat apply Exists.intro)
        rfl
      · rw [decide_eq_false hnew] at H38
        have HW5 := hid' (HW.out.next_old HTG.out (fun h1 h2 => hnew ⟨h1, h2⟩))
        clear hnew
        go_wp2_with (go_at_call 38; refine H38.out.mono ?_; rintro e8 w8 ⟨rfl, rfl⟩)
        go_step3
        refine ⟨by omega, 6 * rest (fun b => (succN bl b).length) (Dfs.upd tr (blk a) (tr (blk a) + 1)) bl.length + 2 * dp + 1, by have := HRL.out; omega, r, HR0.out, v2, t, (a + 1), (a + 1), a, dp, blk, par, _, _, plc2, frm, came2, left, ?_, HK4.out, HW5.out, HB4.out, .inr (.inr ⟨rfl, rfl, rfl⟩)⟩
        unfold WFr
        (repeat apply Exists.intro)
        rfl
  · skip
    intro mm a' w' hJ
    obtain ⟨r, hr, v, z, m, M, a, dp, blk, par, tried, tr, plc, frm, came, left, hfr, hK, hW, hB, hcase⟩ := hJ
    obtain ⟨u7, hfr⟩ := hfr
    obtain ⟨u8, hfr⟩ := hfr
    obtain ⟨u9, hfr⟩ := hfr
    obtain ⟨u10, hfr⟩ := hfr
    obtain ⟨u11, hfr⟩ := hfr
    obtain ⟨u12, hfr⟩ := hfr
    obtain ⟨u13, hfr⟩ := hfr
    obtain ⟨u14, hfr⟩ := hfr
    obtain ⟨u15, hfr⟩ := hfr
    obtain ⟨u16, hfr⟩ := hfr
    obtain ⟨u17, hfr⟩ := hfr
    obtain ⟨u18, hfr⟩ := hfr
    obtain ⟨u19, hfr⟩ := hfr
    obtain ⟨u20, hfr⟩ := hfr
    obtain ⟨u21, hfr⟩ := hfr
    obtain ⟨u22, hfr⟩ := hfr
    obtain ⟨u23, hfr⟩ := hfr
    obtain ⟨u24, hfr⟩ := hfr
    obtain ⟨u25, hfr⟩ := hfr
    obtain ⟨u26, hfr⟩ := hfr
    obtain ⟨u27, hfr⟩ := hfr
    obtain ⟨u28, hfr⟩ := hfr
    obtain ⟨u29, hfr⟩ := hfr
    obtain ⟨u30, hfr⟩ := hfr
    obtain ⟨u31, hfr⟩ := hfr
    obtain ⟨u32, hfr⟩ := hfr
    obtain ⟨u33, hfr⟩ := hfr
    obtain ⟨u34, hfr⟩ := hfr
    obtain ⟨u35, hfr⟩ := hfr
    obtain ⟨u36, hfr⟩ := hfr
    obtain ⟨u37, hfr⟩ := hfr
    obtain ⟨u38, hfr⟩ := hfr
    obtain ⟨u39, hfr⟩ := hfr
    obtain ⟨u40, hfr⟩ := hfr
    obtain ⟨u41, hfr⟩ := hfr
    obtain ⟨u42, hfr⟩ := hfr
    obtain ⟨u43, hfr⟩ := hfr
    obtain ⟨u44, hfr⟩ := hfr
    obtain ⟨u45, hfr⟩ := hfr
    obtain ⟨u46, hfr⟩ := hfr
    obtain ⟨u47, hfr⟩ := hfr
    obtain ⟨u48, hfr⟩ := hfr
    obtain ⟨u49, hfr⟩ := hfr
    obtain ⟨u50, hfr⟩ := hfr
    obtain ⟨u51, hfr⟩ := hfr
    obtain ⟨u52, hfr⟩ := hfr
    obtain ⟨u53, hfr⟩ := hfr
    obtain ⟨u54, hfr⟩ := hfr
    obtain ⟨u55, hfr⟩ := hfr
    obtain ⟨u56, hfr⟩ := hfr
    obtain ⟨u57, hfr⟩ := hfr
    obtain ⟨u58, hfr⟩ := hfr
    obtain ⟨u59, hfr⟩ := hfr
    obtain ⟨u60, hfr⟩ := hfr
    obtain ⟨u61, hfr⟩ := hfr
    obtain ⟨u62, hfr⟩ := hfr
    obtain ⟨u63, hfr⟩ := hfr
    obtain ⟨u64, hfr⟩ := hfr
    obtain ⟨u65, hfr⟩ := hfr
    obtain ⟨u66, hfr⟩ := hfr
    obtain ⟨u67, hfr⟩ := hfr
    obtain ⟨u68, hfr⟩ := hfr
    obtain ⟨u69, hfr⟩ := hfr
    obtain ⟨u70, hfr⟩ := hfr
    obtain ⟨u71, hfr⟩ := hfr
    obtain ⟨u72, hfr⟩ := hfr
    obtain ⟨u73, hfr⟩ := hfr
    obtain ⟨u74, hfr⟩ := hfr
    obtain ⟨u75, hfr⟩ := hfr
    obtain ⟨u76, hfr⟩ := hfr
    obtain ⟨u77, hfr⟩ := hfr
    obtain ⟨u78, hfr⟩ := hfr
    obtain ⟨u79, hfr⟩ := hfr
    obtain ⟨u80, hfr⟩ := hfr
    obtain ⟨u81, hfr⟩ := hfr
    obtain ⟨u82, hfr⟩ := hfr
    obtain ⟨u83, hfr⟩ := hfr
    obtain ⟨u84, hfr⟩ := hfr
    obtain ⟨u85, hfr⟩ := hfr
    obtain ⟨u86, hfr⟩ := hfr
    obtain ⟨u87, hfr⟩ := hfr
    obtain ⟨u88, hfr⟩ := hfr
    obtain ⟨u89, hfr⟩ := hfr
    obtain ⟨u90, hfr⟩ := hfr
    subst hfr
    obtain ⟨rfl, htl, rfl⟩ : m = M ∧ (succN bl (blk a)).length ≤ tried a ∧ mm = 6 * rest (fun b => (succN bl b).length) tr bl.length + 2 * dp := by
      rcases hcase with ⟨e, _⟩ | ⟨_, h⟩ | ⟨e, _⟩
      · cases e
      · exact h
      · cases e
    have hle := hW.le
    have c1 := hK.c1
    have c3 := hK.c3
    have f1 := hK.fro 1
    have hbn := hW.lt a hW.met.at_
    have cf := hK.rf.cell hbn
    obtain ⟨ti3, hi3, z0', z1', z2'⟩ := info_parts info3
    have HI3 := hid' hi3
    have HK := hid' hK
    have HW := hid' hW
    have HB := hid' hB
    clear hK hW hB hcase
    go_wp2_with (at_builtin; refine of_mark ?_)
    unfold Mark
    have hlen : (ints left).length = left.length := by simp [ints]
    have hcnt := HW.out.cnt
    refine wpList_append_own_at _ rfl _ _ 26 rfl w0.heap.size 3 ti3 (.int .i64 0) 1 8 Try.underlying26 HI3.out z0' z1' z2' rfl (by decide) v.lv _ _ rfl (World.ownsRow.alloc HK.out.ol _) ⟨w'.heap.size, 0, none⟩ 1 1 [.int .i64 (blk a)] rfl rfl (cell_one_new _ _ _) (by intro x hx; simp at hx; rw [hx]; rfl) (by rw [hlen]; unfold maxLen; omega) (by rw [hlen]; omega) (by have := HK.out.big; simp; omega) ?_
    intro v' w5 hown' hgrow hnil hloc
    have hO5 : Own 3 1 icell w5 w0.heap.size v' (ints left ++ [(blk a : Int)]) := by
      unfold Own
      rw [flat_append, List.length_append]
      exact hown'
    obtain ⟨hF5, hb5⟩ := HK.out.app_left hO5 hgrow hloc
    have hgk : w5.heap[r]? = w'.heap[r]? := by
      have K1 : Kept (fun b => v.lv.ownBlock = some b) w' w5 := ((Kept.rfl (fun b => v.lv.ownBlock = some b) w').alloc _).ahead (Kept.of_grown (S := fun b => v.lv.ownBlock = some b) hgrow (fun k e => e)) (fun i _ e => e)
      exact K1.block _ HK.out.box.lt (fun e => (HK.out.ln r e).1 rfl)
    have c1' : w5.cell? ⟨r, 1, none⟩ = some v.lv := (World.cell?_of_block hgk).trans c1
    have f1' : w5.frozen? ⟨r, 1, none⟩ = false := (World.frozen?_of_block hgk).trans f1
    obtain ⟨g5, k5, rfl⟩ : ∃ g5 k5, v' = .slice (some ⟨g5, 0, none⟩) (left.length + 1) k5 := by
      rcases hown'.2 with ⟨_, e0⟩ | ⟨g5, c5, cu5, e5, _⟩
      · simp at e0
      · exact ⟨g5, c5, by rw [e5]; simp [ints]⟩
    have e5 : ints left ++ [(blk a : Int)] = ints (left ++ [blk a]) := by simp [ints]
    rw [e5] at hF5
    have HF5 := hid' hF5
    have HB5 : Hid (Below w0.heap.size w0 (w5.setCell ⟨r, 1, none⟩ (.slice (some ⟨g5, 0, none⟩) (left.length + 1) k5))) := HB.out.trans hb5
    clear hown' hgrow hnil hloc hO5 hF5 hb5 hgk e5
    go_upto_region 15 with fail
    generalize w5.setCell ⟨r, 1, none⟩ (.slice (some ⟨g5, 0, none⟩) (left.length + 1) k5) = w6 at *
    have c3 := HF5.out.c3
    have cf := HF5.out.rf.cell hbn
    by_cases ha : 0 < a
    · obtain ⟨dp', rfl, hW2⟩ := HW.out.leave ha htl
      have hfr := HW.out.fr a ha HW.out.met.at_
      rw [hfr] at cf
      have HW2 := hid' hW2
      clear hW2 hfr
      go_wp2_with fail
      go_step3
      refine ⟨by omega, 6 * rest (fun b => (succN bl b).length) tr bl.length + 2 * dp' + 1, by omega, r, hr, { v with lv := .slice (some ⟨g5, 0, none⟩) (left.length + 1) k5 }, z, m, m, par a, dp', blk, par, tried, tr, plc, frm, came, left ++ [blk a], ?_, HF5.out, ?_, HB5.out, .inr (.inr ⟨rfl, rfl, rfl⟩)⟩
      · unfold WFr
        (repeat apply Exists.intro)
        rfl
      · exact HW2.out
    · have ea : a = 0 := by omega
      subst ea
      rw [HW.out.f0] at cf
      obtain ⟨t0, t1, t2, t3, tf⟩ := HRC.out w6 HB5.out
      obtain ⟨cao, ccap, ecv⟩ := (HF5.out.oc.src ic1).len
      have ecv : v.cv = .slice cao came.length ccap := ecv
      have d0 := HF5.out.c0
      dsimp only at d0
      rw [ecv] at d0
      have tf0 := tf 0
      have tf1 := tf 1
      have tf2 := tf 2
      have tf3 := tf 3
      have d1 := HF5.out.c1
      have d2 := HF5.out.c2
      go_wp2_with fail
      simp only [jumps]
      have K7 : Kept (fun k => k = w.heap.size + 1) w6 ((((w6.setCell ⟨w.heap.size + 1, 0, none⟩ (.slice cao came.length ccap)).setCell ⟨w.heap.size + 1, 1, none⟩ (.slice (some ⟨g5, 0, none⟩) (left.length + 1) k5)).setCell ⟨w.heap.size + 1, 2, none⟩ (.slice (some ⟨v.gp, 0, none⟩) bl.length bl.length)).setCell ⟨w.heap.size + 1, 3, none⟩ (.slice (some ⟨v.gf, 0, none⟩) bl.length bl.length)) :=
        ((((Kept.rfl (fun k => k = w.heap.size + 1) w6).set (.inl (Eq.refl _)) _).set (.inl (Eq.refl _)) _).set (.inl (Eq.refl _)) _).set (.inl (Eq.refl _)) _
      have hlo := HF5.out.lo
      have hs2 := HS0.out
      have hcn := HF5.out.oc
      have hln := HF5.out.ol
      dsimp only at hlo hcn hln
      rw [ecv] at hcn
      refine bodyPost_ret (v := .agg #[.slice cao came.length ccap, .slice (some ⟨g5, 0, none⟩) (left.length + 1) k5, .slice (some ⟨v.gp, 0, none⟩) bl.length bl.length, .slice (some ⟨v.gf, 0, none⟩) bl.length bl.length]) (by simp [results, Try.results25, go_sem, t0, t1, t2, t3]) rfl ⟨_, _, _, _, m, blk, par, tried, left ++ [blk 0], rfl, ⟨HW.out.le, ?_, ?_, ⟨v.gp, plc, rfl, HF5.out.rp.kept K7 (by dsimp only; omega), HW.out.pl⟩, ⟨v.gf, frm, rfl, HF5.out.rf.kept K7 (by dsimp only; omega), HW.out.fr⟩, HW.out.lt⟩, ?_, fun e => ?_, fun _ => ⟨HW.out.b0, ?_, HW.out.met, ?_, HW.out.last htl⟩⟩
      · rw [← HW.out.came]
        exact (hcn.src ic1).kept K7 (fun b off e => by
          have := (World.ownsRow.lt hcn b (by rw [e]; simp [Value.ownBlock] )).1
          omega)
      · exact (hln.src ic1).kept K7 (fun b off e => by
          have := (World.ownsRow.lt hln b (by rw [e]; simp [Value.ownBlock])).1
          omega)
      · exact (HB0.out.trans (HB5.out.mono HB0.out.size)).trans (K7.below (by have := HB5.out.size; omega) (fun k e => by omega))
      · omega
      · have h1 := HW.out.dep
        have h2 := HW.out.cnt
        rw [List.length_append]
        cases dp with
        | zero => simpa using h2
        | succ k => exact absurd h1.1 (by omega)
      · have := htl
        rw [HW.out.b0] at this
        exact this

  · skip
    intro mm a' w' hJ
    obtain ⟨r, hr, v, z, m, M, a, dp, blk, par, tried, tr, plc, frm, came, left, hfr, hK, hW, hB, hcase⟩ := hJ
    obtain ⟨u7, hfr⟩ := hfr
    obtain ⟨u8, hfr⟩ := hfr
    obtain ⟨u9, hfr⟩ := hfr
    obtain ⟨u10, hfr⟩ := hfr
    obtain ⟨u11, hfr⟩ := hfr
    obtain ⟨u12, hfr⟩ := hfr
    obtain ⟨u13, hfr⟩ := hfr
    obtain ⟨u14, hfr⟩ := hfr
    obtain ⟨u15, hfr⟩ := hfr
    obtain ⟨u16, hfr⟩ := hfr
    obtain ⟨u17, hfr⟩ := hfr
    obtain ⟨u18, hfr⟩ := hfr
    obtain ⟨u19, hfr⟩ := hfr
    obtain ⟨u20, hfr⟩ := hfr
    obtain ⟨u21, hfr⟩ := hfr
    obtain ⟨u22, hfr⟩ := hfr
    obtain ⟨u23, hfr⟩ := hfr
    obtain ⟨u24, hfr⟩ := hfr
    obtain ⟨u25, hfr⟩ := hfr
    obtain ⟨u26, hfr⟩ := hfr
    obtain ⟨u27, hfr⟩ := hfr
    obtain ⟨u28, hfr⟩ := hfr
    obtain ⟨u29, hfr⟩ := hfr
    obtain ⟨u30, hfr⟩ := hfr
    obtain ⟨u31, hfr⟩ := hfr
    obtain ⟨u32, hfr⟩ := hfr
    obtain ⟨u33, hfr⟩ := hfr
    obtain ⟨u34, hfr⟩ := hfr
    obtain ⟨u35, hfr⟩ := hfr
    obtain ⟨u36, hfr⟩ := hfr
    obtain ⟨u37, hfr⟩ := hfr
    obtain ⟨u38, hfr⟩ := hfr
    obtain ⟨u39, hfr⟩ := hfr
    obtain ⟨u40, hfr⟩ := hfr
    obtain ⟨u41, hfr⟩ := hfr
    obtain ⟨u42, hfr⟩ := hfr
    obtain ⟨u43, hfr⟩ := hfr
    obtain ⟨u44, hfr⟩ := hfr
    obtain ⟨u45, hfr⟩ := hfr
    obtain ⟨u46, hfr⟩ := hfr
    obtain ⟨u47, hfr⟩ := hfr
    obtain ⟨u48, hfr⟩ := hfr
    obtain ⟨u49, hfr⟩ := hfr
    obtain ⟨u50, hfr⟩ := hfr
    obtain ⟨u51, hfr⟩ := hfr
    obtain ⟨u52, hfr⟩ := hfr
    obtain ⟨u53, hfr⟩ := hfr
    obtain ⟨u54, hfr⟩ := hfr
    obtain ⟨u55, hfr⟩ := hfr
    obtain ⟨u56, hfr⟩ := hfr
    obtain ⟨u57, hfr⟩ := hfr
    obtain ⟨u58, hfr⟩ := hfr
    obtain ⟨u59, hfr⟩ := hfr
    obtain ⟨u60, hfr⟩ := hfr
    obtain ⟨u61, hfr⟩ := hfr
    obtain ⟨u62, hfr⟩ := hfr
    obtain ⟨u63, hfr⟩ := hfr
    obtain ⟨u64, hfr⟩ := hfr
    obtain ⟨u65, hfr⟩ := hfr
    obtain ⟨u66, hfr⟩ := hfr
    obtain ⟨u67, hfr⟩ := hfr
    obtain ⟨u68, hfr⟩ := hfr
    obtain ⟨u69, hfr⟩ := hfr
    obtain ⟨u70, hfr⟩ := hfr
    obtain ⟨u71, hfr⟩ := hfr
    obtain ⟨u72, hfr⟩ := hfr
    obtain ⟨u73, hfr⟩ := hfr
    obtain ⟨u74, hfr⟩ := hfr
    obtain ⟨u75, hfr⟩ := hfr
    obtain ⟨u76, hfr⟩ := hfr
    obtain ⟨u77, hfr⟩ := hfr
    obtain ⟨u78, hfr⟩ := hfr
    obtain ⟨u79, hfr⟩ := hfr
    obtain ⟨u80, hfr⟩ := hfr
    obtain ⟨u81, hfr⟩ := hfr
    obtain ⟨u82, hfr⟩ := hfr
    obtain ⟨u83, hfr⟩ := hfr
    obtain ⟨u84, hfr⟩ := hfr
    obtain ⟨u85, hfr⟩ := hfr
    obtain ⟨u86, hfr⟩ := hfr
    obtain ⟨u87, hfr⟩ := hfr
    obtain ⟨u88, hfr⟩ := hfr
    obtain ⟨u89, hfr⟩ := hfr
    obtain ⟨u90, hfr⟩ := hfr
    subst hfr
    obtain ⟨rfl, rfl⟩ : m = M ∧ mm = 6 * rest (fun b => (succN bl b).length) tr bl.length + 2 * dp + 1 := by
      rcases hcase with ⟨e, _⟩ | ⟨e, _⟩ | ⟨_, h⟩
      · cases e
      · cases e
      · exact h
    have HK := hid' hK
    have HW := hid' hW
    have HB := hid' hB
    clear hK hW hB hcase
    have hbn := HW.out.lt a HW.out.met.at_
    have hWL : Below w.heap.size w w' := HB0.out.trans (HB.out.mono HB0.out.size)
    obtain ⟨bb, bo, rfl, hbb1, hbcp, hbx⟩ := HF.out (blk a) hbn
    obtain ⟨x0, x1, x2, x3⟩ := bl_cells (hbx w' hWL)
    have HX : Hid (∀ W, Below w.heap.size w W → W.cell? ⟨bb, bo + blk a * 4 + 3, none⟩ = some (bl[blk a].tv)) := fun W hW => (bl_cells (hbx W hW)).2.2.2
    have hok := HS.out _ (List.getElem_mem hbn)
    have htl := hok.tl
    obtain ⟨tt2, tc2, ett, hft⟩ := (hok.t.on hWL).ints
    have HT0 := hok.t
    have eto : succN bl (blk a) = bl[blk a].to := by unfold succN; rw [List.getElem?_eq_getElem hbn]; rfl
    have HETO := hid' eto
    have hfc := hC.out w' HB.out
    have c4 := HK.out.rt.cell hbn
    rw [HW.out.tm a HW.out.met.at_] at c4
    have htl2 := HW.out.tl a HW.out.met.at_
    rw [eto] at htl2
    have HTL := hid' htl2
    have HTT := hid' (hok.t)
    rw [ett] at x3 HX HTT
    unfold big at htl
    clear hbx hft hok eto ett
    have HR0 := hid' hr
    by_cases hte : tried a = bl[blk a].to.length
    · have hcmp : ((tried a : Int) == (bl[blk a].to.length : Int)) = true := beq_iff_eq.2 (by omega)
      have HTE := hid' hte
      clear hte
      go_wp2_with fail
      go_quiet (fail)
      have HK2 := hid' (HK.out.drewN nq)
      have HB2 := hid' (bdr (k := nq) HB.out)
      clear HK HB
      generalize w'.drewN nq = wq at *
      go_wp2_with fail
      go_step3
      refine ⟨by omega, 6 * rest (fun b => (succN bl b).length) tr bl.length + 2 * dp, by omega, r, HR0.out, v, z, m, m, a, dp, blk, par, tried, tr, plc, frm, came, left, ?_, HK2.out, HW.out, HB2.out, .inr (.inl ⟨rfl, rfl, by rw [HETO.out, HTE.out]; exact Nat.le_refl _, rfl⟩)⟩
      unfold WFr
      (repeat apply Exists.intro)
      rfl
    · have hcmp : ((tried a : Int) == (bl[blk a].to.length : Int)) = false := beq_eq_false_iff_ne.2 (by omega)
      have hlt : tried a < bl[blk a].to.length := by have := HTL.out; omega
      clear hte
      go_wp2_with fail
      go_quiet (fail)
      have HK2 := hid' (HK.out.drewN nq)
      have HB2 := hid' (bdr (k := nq) HB.out)
      clear HK HB x0 x1 x2 x3 c4 hfc
      generalize w'.drewN nq = wq at *
      have hWq : Below w.heap.size w wq := HB0.out.trans (HB2.out.mono HB0.out.size)
      have x3 := HX.out wq hWq
      have c4 := HK2.out.rt.cell hbn
      rw [HW.out.tm a HW.out.met.at_] at c4
      have hfc := hC.out wq HB2.out
      obtain ⟨tt3, tc3, ett3, hft3⟩ := (HTT.out.on hWq).ints
      injection ett3 with e1 _ e3
      subst e1 e3
      obtain ⟨tb, toff, rfl, _, htcp, hcx⟩ := hft3 (tried a) hlt
      have tcell := hcx wq (Below.refl _ _)
      have htg : (succN bl (blk a))[tried a]? = some bl[blk a].to[tried a] := by rw [HETO.out]; exact List.getElem?_eq_getElem hlt
      have HTG := hid' htg
      have hrl : tr (blk a) < (succN bl (blk a)).length := by rw [HETO.out, HW.out.tm a HW.out.met.at_]; exact hlt
      have HRL := hid' (rest_less (len := fun b => (succN bl b).length) (tri := tr) hrl bl.length hbn)
      clear hft3 hcx htg hrl
      generalize bl[blk a].to[tried a] = t at *
      generalize bl[blk a].to.length = tlen at *
      go_wp2_with fail
      go_quiet (fail)
      have HK3 := hid' (HK2.out.drewN nq)
      have HB3 := hid' (bdr (k := nq) HB2.out)
      clear HK2 HB2 x3 c4 hfc tcell
      generalize wq.drewN nq = wp at *
      have c4 := HK3.out.rt.cell hbn
      have f4 := HK3.out.rt.fro (blk a)
      obtain ⟨F4, B4⟩ := HK3.out.put_tri (blk a) ((tried a : Int) + 1)
      rw [HW.out.tm a HW.out.met.at_] at c4
      have ecast : Dfs.upd (fun b => (tr b : Int)) (blk a) ((tried a : Int) + 1) = fun b => ((Dfs.upd tr (blk a) (tr (blk a) + 1) b : Nat) : Int) := by
        funext b
        simp only [Dfs.upd]
        split
        · rw [HW.out.tm a HW.out.met.at_]; rfl
        · rfl
      rw [ecast] at F4
      have HK4 := hid' F4
      have HB4 := hid' (HB3.out.trans B4)
      have H38 := hid' (new38 F4 hbl2 t)
      clear F4 B4 ecast HK3 HB3
      by_cases hnew : (0 ≤ t ∧ t < bl.length) ∧ plc t.toNat = -1
      · rw [decide_eq_true hnew] at H38
        obtain ⟨⟨n0, n1⟩, n2⟩ := hnew
        obtain ⟨tn, rfl⟩ : ∃ tn : Nat, t = tn := ⟨t.toNat, by omega⟩
        rw [Int.toNat_natCast] at n2
        have htn : tn < bl.length := by omega
        have HW5 := hid' (HW.out.next_new HTG.out htn n2)
        clear n2
        go_wp2_with (go_at_call 38; refine H38.out.mono ?_; rintro e8 w8 ⟨rfl, rfl⟩; have g3 := HK4.out.c3; have gc := HK4.out.rf.cell htn; have gf := HK4.out.rf.fro tn)
        go_step3
        obtain ⟨F5, B5⟩ := HK4.out.put_frm tn (blk a)
        refine ⟨by omega, 6 * rest (fun b => (succN bl b).length) (Dfs.upd tr (blk a) (tr (blk a) + 1)) bl.length + 2 * (dp + 1) + 1, by have := HRL.out; omega, r, HR0.out, v, tn, m + 1, m, m, dp + 1, _, _, _, _, _, _, _, left, ?_, F5, HW5.out, HB4.out.trans B5, .inl ⟨rfl, rfl, rfl, rfl⟩⟩
        unfold WFr
        rw [Dfs.upd_same]
        (repeat apply Exists.intro)
        rfl
      · rw [decide_eq_false hnew] at H38
        have HW5 := hid' (HW.out.next_old HTG.out (fun h1 h2 => hnew ⟨h1, h2⟩))
        clear hnew
        go_wp2_with (go_at_call 38; refine H38.out.mono ?_; rintro e8 w8 ⟨rfl, rfl⟩)
        go_step3
        refine ⟨by omega, 6 * rest (fun b => (succN bl b).length) (Dfs.upd tr (blk a) (tr (blk a) + 1)) bl.length + 2 * dp + 1, by have := HRL.out; omega, r, HR0.out, v, t, m, m, a, dp, blk, par, _, _, plc, frm, came, left, ?_, HK4.out, HW5.out, HB4.out, .inr (.inr ⟨rfl, rfl, rfl⟩)⟩
        unfold WFr
        (repeat apply Exists.intro)
        rfl
theorem walked25 {w : World} {f : Fn} (h : Fn.ok w f) : Calls Try.prog 25 #[f.val] w (WdR f.blocks w) :=
  (walked25x h).mono fun _ _ ⟨cv, lv, pv, fv, m, blk, par, tried, left, h1, h2, h3, h4, h5⟩ => ⟨cv, lv, pv, fv, m, blk, par, tried, left, h1, h2, h3, h4, fun hn => by
    obtain ⟨p1, p2, p3, p4, _⟩ := h5 hn
    exact ⟨p1, p2, p3, p4⟩⟩
end Go.Proofs.Ytgkaeoieclegjaa
