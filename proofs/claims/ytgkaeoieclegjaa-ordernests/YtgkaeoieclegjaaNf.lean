/- newFinder. -/
import Derived.Test.YtgkaeoieclegjaaDn
import Derived.Test.YtgkaeoieclegjaaMk
namespace Go.Proofs.Ytgkaeoieclegjaa
open Go.RowKit Go.Maps
set_option linter.unusedVariables false
set_option linter.unusedSimpArgs false
def rowF (k : Nat) (_ : Nat) : Int := if k = 3 ∨ k = 9 then 0 else -1
def Fs.nil : Fs := ⟨fun _ => 0, fun _ => 0, fun _ => none, fun _ => none, fun _ => none, fun _ => none⟩
theorem FM.base {B B' r n : Nat} {W : World} {v : Fv} {ab : Nat → Option Nat} {s : Fs} {way : List Nat} (h : FM B W r v n ab s way) (hb : B' ≤ B) : FM B' W r v n ab s way := by
  have hl := h.lo
  exact ⟨h.box, h.ra, h.rs, h.rd, h.ru, h.rb, h.rq, h.rx, own_base h.own hb, h.fm, ⟨by omega, by omega, by omega, by omega, by omega, by omega, by omega, by omega⟩, h.ne, h.wn⟩
theorem fm_new {w0 w1 : World} {m : Nat} {s : Nat → Option Nat} {b1 b3 b5 b7 b9 b11 b13 : Nat} (h : MkC w0 m rowF s w1) (e1 : s 1 = some b1) (e3 : s 3 = some b3) (e5 : s 5 = some b5) (e7 : s 7 = some b7) (e9 : s 9 = some b9) (e11 : s 11 = some b11) (e13 : s 13 = some b13) :
    FM w0.heap.size (w1.alloc (.cells #[.slice (some ⟨b1, 0, none⟩) m m, .slice (some ⟨b3, 0, none⟩) m m, .slice (some ⟨b5, 0, none⟩) m m, .slice (some ⟨b7, 0, none⟩) m m, .slice (some ⟨b9, 0, none⟩) m m, .slice none 0 0, .slice (some ⟨b11, 0, none⟩) m m, .slice (some ⟨b13, 0, none⟩) m m] 66)) w1.heap.size ⟨b1, b3, b5, b7, b9, b11, b13, .slice none 0 0⟩ m (fun _ => none) Fs.nil [] ∧
    Below w0.heap.size w0 (w1.alloc (.cells #[.slice (some ⟨b1, 0, none⟩) m m, .slice (some ⟨b3, 0, none⟩) m m, .slice (some ⟨b5, 0, none⟩) m m, .slice (some ⟨b7, 0, none⟩) m m, .slice (some ⟨b9, 0, none⟩) m m, .slice none 0 0, .slice (some ⟨b11, 0, none⟩) m m, .slice (some ⟨b13, 0, none⟩) m m] 66)) := by
  have r1 := h.row 1 _ e1
  have r3 := h.row 3 _ e3
  have r5 := h.row 5 _ e5
  have r7 := h.row 7 _ e7
  have r9 := h.row 9 _ e9
  have r11 := h.row 11 _ e11
  have r13 := h.row 13 _ e13
  have hb := below_up h.below (below1 w1 (.cells #[.slice (some ⟨b1, 0, none⟩) m m, .slice (some ⟨b3, 0, none⟩) m m, .slice (some ⟨b5, 0, none⟩) m m, .slice (some ⟨b7, 0, none⟩) m m, .slice (some ⟨b9, 0, none⟩) m m, .slice none 0 0, .slice (some ⟨b11, 0, none⟩) m m, .slice (some ⟨b13, 0, none⟩) m m] 66))
  have ne : ∀ {j k b c : Nat}, s j = some b → s k = some c → j ≠ k → b ≠ c := fun ej ek hjk e => hjk (h.ne _ _ _ ej (e ▸ ek))
  have l1 := r1.2.lt
  have l3 := r3.2.lt
  have l5 := r5.2.lt
  have l7 := r7.2.lt
  have l9 := r9.2.lt
  have l11 := r11.2.lt
  have l13 := r13.2.lt
  have hs := h.below.size
  have hB := below1 w1 (.cells #[.slice (some ⟨b1, 0, none⟩) m m, .slice (some ⟨b3, 0, none⟩) m m, .slice (some ⟨b5, 0, none⟩) m m, .slice (some ⟨b7, 0, none⟩) m m, .slice (some ⟨b9, 0, none⟩) m m, .slice none 0 0, .slice (some ⟨b11, 0, none⟩) m m, .slice (some ⟨b13, 0, none⟩) m m] 66)
  have hbox := World.rowIs_alloc w1 #[.slice (some ⟨b1, 0, none⟩) m m, .slice (some ⟨b3, 0, none⟩) m m, .slice (some ⟨b5, 0, none⟩) m m, .slice (some ⟨b7, 0, none⟩) m m, .slice (some ⟨b9, 0, none⟩) m m, .slice none 0 0, .slice (some ⟨b11, 0, none⟩) m m, .slice (some ⟨b13, 0, none⟩) m m] 66 ((⟨b1, b3, b5, b7, b9, b11, b13, .slice none 0 0⟩ : Fv).cell m) (fun i hi => by
    match i, hi with
    | 0, _ => rfl
    | 1, _ => rfl
    | 2, _ => rfl
    | 3, _ => rfl
    | 4, _ => rfl
    | 5, _ => rfl
    | 6, _ => rfl
    | 7, _ => rfl)
  refine ⟨⟨hbox, r1.2.on hB, r3.2.on hB, r5.2.on hB, r7.2.on hB, r9.2.on hB, r11.2.on hB, r13.2.on hB, World.ownsRow_nil _ _ _ _, .inl ⟨rfl, rfl⟩, ⟨hs, r1.1, r3.1, r5.1, r7.1, r9.1, r11.1, r13.1⟩, ?_, fun h e => by cases e⟩, hb⟩
  refine ⟨?_, ?_, ?_, ?_, ?_, ?_, ?_, ?_, ?_, ?_, ?_, ?_, ?_, ?_, ?_, ?_, ?_, ?_, ?_, ?_, ?_, ?_, ?_, ?_, ?_, ?_, ?_, ?_⟩
  all_goals dsimp only
  all_goals first
    | exact Nat.ne_of_lt (by assumption)
    | exact ne (by assumption) (by assumption) (by decide)
set_option maxRecDepth 20000 in
set_option maxHeartbeats 8000000 in
theorem newFinder39 {w : World} {n m : Nat} {blk par : Nat → Nat} {cv lv pv fv : Value} {left : List Nat} (hW : WkM w n m blk par cv lv pv fv left) (hn : n * 64 ≤ big) (hpar : ∀ j, 0 < j → j < m → par j < m) :
    Calls Try.prog 39 #[.agg #[cv, lv, pv, fv]] w (NfR m par w) := by
  have HW := hid' hW
  have HPAR := hid' hpar
  have hmn := hW.le
  have hbl := hn
  unfold big at hbl
  have el : ((List.range m).map (fun j => (blk j : Int))).length = m := by simp
  have el2 : (ints left).length = left.length := by simp [ints]
  obtain ⟨co, cc, ecv⟩ := hW.came.len
  obtain ⟨lo, lc, elv⟩ := hW.leftS.len
  rw [el] at ecv
  rw [el2] at elv
  subst ecv elv
  obtain ⟨gp, fp, rfl, _, _⟩ := hW.place
  obtain ⟨gf, ff, rfl, _, _⟩ := hW.from_
  clear hW hpar el el2
  go_enter Try.func39, Try.ntmps39
  obtain ⟨w0, ew0⟩ : ∃ w0, w0 = w.alloc (.cells #[.slice co m cc, .slice lo left.length lc, .slice (some ⟨gp, 0, none⟩) n n, .slice (some ⟨gf, 0, none⟩) n n] 47) := ⟨_, rfl⟩
  have hb0 : Below w.heap.size w w0 := by rw [ew0]; exact below1 _ _
  have hC : Hid (∀ W : World, Below w0.heap.size w0 W → W.cell? ⟨w.heap.size, 0, none⟩ = some (.slice co m cc) ∧ W.cell? ⟨w.heap.size, 1, none⟩ = some (.slice lo left.length lc) ∧ W.cell? ⟨w.heap.size, 2, none⟩ = some (.slice (some ⟨gp, 0, none⟩) n n) ∧ W.cell? ⟨w.heap.size, 3, none⟩ = some (.slice (some ⟨gf, 0, none⟩) n n)) := fun W hW => by
    rw [ew0] at hW
    have h := hW.block w.heap.size (by simp)
    rw [heap_alloc_new] at h
    have q := fun o => cell_of_row W w.heap.size o _ 47 (0, 0) h
    exact ⟨q 0, q 1, q 2, q 3⟩
  have HB0 := hid' hb0
  go_upto_region 1 with fail
  rw [← ew0]
  obtain ⟨k0, k1, k2, k3⟩ := hC.out w0 (Below.refl _ _)
  clear ew0 hb0
  go_upto_region 2 with fail
  have hm8 : m * 8 ≤ big := by unfold big; omega
  go_cut [4] (fun pv wx => ∃ (r : Nat) (v : Fv), pv = .pointer (some ⟨r, 0, none⟩) ∧ FM w0.heap.size wx r v m (fun _ => none) Fs.nil [] ∧ Below w0.heap.size w0 wx)
  case first =>
    refine region_pick (MkC w0 m rowF) (fun _ => none) 14 7 (fun k => decide (k % 2 = 0)) [0, 2, 4, 6, 8, 10, 12] mixed (by kernel_rfl) (by kernel_rfl) (by kernel_rfl) (by simp) rfl (by decide) (by kernel_rfl) ⟨bdw' (Below.refl _ _), (fun k b e => by cases e), (fun k k' b e => by cases e)⟩ (fun s w' h => h.below) (fun s w2 w' h hb => h.on hb) (fun _ => ?_)
    simp only [List.filterMap_cons, List.filterMap_nil, List.getElem?_cons_zero, List.getElem?_cons_succ]
    have hne := after_some w0
    repeat (
      refine wpFreeB_step (fun K hK => ?_)
      go_simp
      first
        | (refine hK _ ?_; clear hK K)
        | (apply Exists.intro
           refine ⟨fun _ => ?_, hK _ ?_⟩
           (with_reducible rfl)
           clear hK K))
    refine wpFreeB_nil ?_
    generalize hact : (Act.mk _ _) = a0
    have HE10 : Hid (a0.eval (.tmp 10) = .int .i64 m) := by unfold Hid; rw [← hact]; rfl
    have HE12 : Hid (a0.eval (.tmp 12) = .int .i64 m) := by unfold Hid; rw [← hact]; rfl
    have HE14 : Hid (a0.eval (.tmp 14) = .int .i64 m) := by unfold Hid; rw [← hact]; rfl
    have HE16 : Hid (a0.eval (.tmp 16) = .int .i64 m) := by unfold Hid; rw [← hact]; rfl
    have HE18 : Hid (a0.eval (.tmp 18) = .int .i64 m) := by unfold Hid; rw [← hact]; rfl
    have HE20 : Hid (a0.eval (.tmp 20) = .int .i64 m) := by unfold Hid; rw [← hact]; rfl
    have HE22 : Hid (a0.eval (.tmp 22) = .int .i64 m) := by unfold Hid; rw [← hact]; rfl
    have HACT := hid' hact
    clear hact
    refine headF_make (fun k => k + 10) [1, 3, 5, 7, 9, 11, 13] (by kernel_rfl) (by kernel_rfl) (by simp) (by decide) (by intro j hj k hk e; omega) (by kernel_rfl) (by kernel_rfl) (by kernel_rfl) (fun k hk => ?_) (fun s hs => ?_)
    · simp only [List.mem_cons, List.not_mem_nil, or_false] at hk
      rcases hk with rfl | rfl | rfl | rfl | rfl | rfl | rfl
      · refine ⟨by omega, by decide, _, rfl, rfl, rfl, fun s w => .inr ⟨26, #[.int .i64 m], ?_, (nones26 m hm8).mono ?_⟩⟩
        · have he := eval_putS (d := fun k => k + 10) (N := m) (s := s) (j := 10) [1, 3, 5, 7, 9, 11, 13] a0 (by decide)
          rw [HE10.out] at he
          simp [Act.eval] at he
          simp [execOp, resolve, invoke, he, Deferred.ofValue, go_sem, Try.func26]
        · rintro e w1 ⟨q, rfl, h1, h2, h3⟩
          exact ⟨q, rfl, h1, h2, h3⟩
      · refine ⟨by omega, by decide, _, rfl, rfl, rfl, fun s w => .inl ?_⟩
        obtain ⟨w1, hm1, hr1, hb1, _⟩ := make_ints w hm8
        refine ⟨w.heap.size, w1, ?_, Nat.le_refl _, hr1, hb1⟩
        have he := eval_putS (d := fun k => k + 10) (N := m) (s := s) (j := 12) [1, 3, 5, 7, 9, 11, 13] a0 (by decide)
        rw [HE12.out] at he
        simp [Act.eval] at he
        simp [execOp, he, go_sem, hm1]
      · refine ⟨by omega, by decide, _, rfl, rfl, rfl, fun s w => .inr ⟨26, #[.int .i64 m], ?_, (nones26 m hm8).mono ?_⟩⟩
        · have he := eval_putS (d := fun k => k + 10) (N := m) (s := s) (j := 14) [1, 3, 5, 7, 9, 11, 13] a0 (by decide)
          rw [HE14.out] at he
          simp [Act.eval] at he
          simp [execOp, resolve, invoke, he, Deferred.ofValue, go_sem, Try.func26]
        · rintro e w1 ⟨q, rfl, h1, h2, h3⟩
          exact ⟨q, rfl, h1, h2, h3⟩
      · refine ⟨by omega, by decide, _, rfl, rfl, rfl, fun s w => .inr ⟨26, #[.int .i64 m], ?_, (nones26 m hm8).mono ?_⟩⟩
        · have he := eval_putS (d := fun k => k + 10) (N := m) (s := s) (j := 16) [1, 3, 5, 7, 9, 11, 13] a0 (by decide)
          rw [HE16.out] at he
          simp [Act.eval] at he
          simp [execOp, resolve, invoke, he, Deferred.ofValue, go_sem, Try.func26]
        · rintro e w1 ⟨q, rfl, h1, h2, h3⟩
          exact ⟨q, rfl, h1, h2, h3⟩
      · refine ⟨by omega, by decide, _, rfl, rfl, rfl, fun s w => .inl ?_⟩
        obtain ⟨w1, hm1, hr1, hb1, _⟩ := make_ints w hm8
        refine ⟨w.heap.size, w1, ?_, Nat.le_refl _, hr1, hb1⟩
        have he := eval_putS (d := fun k => k + 10) (N := m) (s := s) (j := 18) [1, 3, 5, 7, 9, 11, 13] a0 (by decide)
        rw [HE18.out] at he
        simp [Act.eval] at he
        simp [execOp, he, go_sem, hm1]
      · refine ⟨by omega, by decide, _, rfl, rfl, rfl, fun s w => .inr ⟨26, #[.int .i64 m], ?_, (nones26 m hm8).mono ?_⟩⟩
        · have he := eval_putS (d := fun k => k + 10) (N := m) (s := s) (j := 20) [1, 3, 5, 7, 9, 11, 13] a0 (by decide)
          rw [HE20.out] at he
          simp [Act.eval] at he
          simp [execOp, resolve, invoke, he, Deferred.ofValue, go_sem, Try.func26]
        · rintro e w1 ⟨q, rfl, h1, h2, h3⟩
          exact ⟨q, rfl, h1, h2, h3⟩
      · refine ⟨by omega, by decide, _, rfl, rfl, rfl, fun s w => .inr ⟨26, #[.int .i64 m], ?_, (nones26 m hm8).mono ?_⟩⟩
        · have he := eval_putS (d := fun k => k + 10) (N := m) (s := s) (j := 22) [1, 3, 5, 7, 9, 11, 13] a0 (by decide)
          rw [HE22.out] at he
          simp [Act.eval] at he
          simp [execOp, resolve, invoke, he, Deferred.ofValue, go_sem, Try.func26]
        · rintro e w1 ⟨q, rfl, h1, h2, h3⟩
          exact ⟨q, rfl, h1, h2, h3⟩
    · refine ⟨by kernel_rfl, fun w9 hw9 => ?_⟩
      obtain ⟨b1, e1⟩ := Option.ne_none_iff_exists'.1 (hs 1 (by simp))
      obtain ⟨b3, e3⟩ := Option.ne_none_iff_exists'.1 (hs 3 (by simp))
      obtain ⟨b5, e5⟩ := Option.ne_none_iff_exists'.1 (hs 5 (by simp))
      obtain ⟨b7, e7⟩ := Option.ne_none_iff_exists'.1 (hs 7 (by simp))
      obtain ⟨b9, e9⟩ := Option.ne_none_iff_exists'.1 (hs 9 (by simp))
      obtain ⟨b11, e11⟩ := Option.ne_none_iff_exists'.1 (hs 11 (by simp))
      obtain ⟨b13, e13⟩ := Option.ne_none_iff_exists'.1 (hs 13 (by simp))
      have hfm := hid' (fm_new hw9 e1 e3 e5 e7 e9 e11 e13)
      obtain rfl := HACT.out
      simp only [putS, e1, e3, e5, e7, e9, e11, e13, Act.put]
      clear hw9 HE10 HE12 HE14 HE16 HE18 HE20 HE22
      simp only [List.drop_succ_cons, List.drop_zero, List.setIfInBounds_toArray, List.set_cons_succ, List.set_cons_zero, Nat.reduceAdd]
      go_wp2_with fail
      go_meet
      exact ⟨_, _, rfl, hfm.out⟩
  case rest =>
    obtain ⟨r, v, rfl, hF, hB⟩ := hcut
    have HF := hid' hF
    have HB := hid' hB
    obtain ⟨k0, k1, k2, k3⟩ := hC.out wc hB
    clear hF hB
    go_wp2_with fail
    go_loopw [29] (fun kv wr => ∃ (k : Nat), k ≤ m ∧ kv = .int .i64 k ∧ FM w0.heap.size wr r v m (fun j => if j < k then abF par j else none) ⟨fun j => if j < k then j else 0, fun j => if j < k then j else 0, fun _ => none, fun _ => none, fun _ => none, fun _ => none⟩ [] ∧ Below w0.heap.size w0 wr) (fun kv _ => m - (intOf kv).toNat)
    case atStart => exact ⟨0, Nat.zero_le _, rfl, HF.out.congr (fun j _ => ⟨rfl, rfl, rfl, rfl, rfl, rfl, rfl⟩), HB.out⟩
    case round =>
      obtain ⟨k, hk, rfl, hF, hB⟩ := hrel
      have HF := hid' hF
      have HB := hid' hB
      obtain ⟨k0, k1, k2, k3⟩ := hC.out wr hB
      clear hF hB
      by_cases hkm : k < m
      · have hWr : Below w.heap.size w wr := HB0.out.trans (HB.out.mono HB0.out.size)
        obtain ⟨cao, ccap, ec, hcc⟩ := (HW.out.on hWr).came.ints
        injection ec with ec1 ec2 ec3
        subst ec1 ec3
        clear ec2
        obtain ⟨cb, coff, rfl, _, hcle, hcell⟩ := hcc k (by simpa using hkm)
        have q0 := hcell wr (Below.refl _ _)
        simp only [List.getElem_map, List.getElem_range] at q0
        have hbk := HW.out.lt k hkm
        clear hcc hcell
        have c1 := HF.out.c1
        have c4 := HF.out.c4
        have cs := HF.out.rs.cell hkm
        have cb1 := HF.out.rb.cell hkm
        have fs := HF.out.rs.fro k
        have fb := HF.out.rb.fro k
        obtain ⟨F1, B1⟩ := HF.out.put_sm k k
        have cb2 := F1.rb.cell hkm
        have fb2 := F1.rb.fro k
        obtain ⟨F2, B2⟩ := F1.put_best k k
        dsimp only at F2
        have HF2 := hid' F2.drew
        have HB2 := hid' (bdw' ((HB.out.trans B1).trans B2))
        clear F1 B1 F2 B2
        go_wp2_with fail
        go_region
        clear HF HB c1 c4 cs cb1 fs fb cb2 fb2
        generalize ((wr.setCell ⟨v.g1, k, none⟩ (.int .i64 k)).setCell ⟨v.g4, k, none⟩ (.int .i64 k)).drew = w2 at *
        by_cases hk0 : 0 < k
        · have hWr2 : Below w.heap.size w w2 := HB0.out.trans (HB2.out.mono HB0.out.size)
          obtain ⟨gp', fp', e1, hrp, hfp⟩ := (HW.out.on hWr2).place
          injection e1 with e1 _ _
          injection e1 with e1
          injection e1 with e1
          subst e1
          obtain ⟨gf', ff', e2, hrf, hff⟩ := (HW.out.on hWr2).from_
          injection e2 with e2 _ _
          injection e2 with e2
          injection e2 with e2
          subst e2
          have hpm := HPAR.out k hk0 hkm
          have hbp := HW.out.lt _ hpm
          have qf := hrf.cell hbk
          rw [hff k hk0 hkm] at qf
          have qp := hrp.cell hbp
          rw [hfp _ hpm] at qp
          obtain ⟨k0, k1, k2, k3⟩ := hC.out w2 HB2.out
          have c0 := HF2.out.c0
          have ca := HF2.out.ra.cell hkm
          have fa := HF2.out.ra.fro k
          obtain ⟨F3, B3⟩ := HF2.out.put_ab k (some (par k))
          rw [oi_some] at F3 B3
          have HF3 := hid' F3.drew
          have HB3 := hid' (bdw' (HB2.out.trans B3))
          clear F3 B3 hrp hfp hrf hff
          go_wp2_with fail
          go_region
          clear HF2 HB2 c0 ca fa k0 k1 k2 k3 qp qf
          generalize (w2.setCell ⟨v.g0, k, none⟩ (.int .i64 (par k))).drew = w3 at *
          go_wp2_with fail
          go_roundw
          case rel =>
            refine ⟨k + 1, by omega, by go_num, HF3.out.congr (fun j hj => ⟨?_, ?_, rfl, rfl, ?_, rfl, rfl⟩), HB3.out⟩
            · by_cases e : j = k
              · subst e
                rw [Dfs.upd_same, if_pos (by omega)]
                exact (if_neg (by omega)).symm
              · rw [Dfs.upd_ne _ _ e]
                by_cases e2 : j < k
                · rw [if_pos e2, if_pos (by omega)]
                · rw [if_neg e2, if_neg (by omega)]
            · simp only [Dfs.upd]
              repeat' split
              all_goals omega
            · simp only [Dfs.upd]
              repeat' split
              all_goals omega
          case measure => simp [intOf]; omega
        · have ek : k = 0 := by omega
          subst ek
          go_wp2_with fail
          go_roundw
          case rel =>
            refine ⟨1, by omega, by go_num, HF2.out.congr (fun j hj => ⟨?_, ?_, rfl, rfl, ?_, rfl, rfl⟩), HB2.out⟩
            · rw [if_neg (by omega)]
              by_cases e : j < 1
              · rw [if_pos e]
                exact (if_pos (by omega)).symm
              · rw [if_neg e]
            · simp only [Dfs.upd]
              repeat' split
              all_goals omega
            · simp only [Dfs.upd]
              repeat' split
              all_goals omega
          case measure => simp [intOf]; omega
      · have hb2 : Below w.heap.size w wr := HB0.out.trans (HB.out.mono HB0.out.size)
        have HB2 := hid' hb2
        clear hb2
        go_wp2_with fail
        go_ret
        refine ⟨r, v, rfl, (HF.out.congr (ab' := abF par) (s' := Fs.zero) (fun j hj => by
          have hjk : j < k := by omega
          exact ⟨if_pos hjk, if_pos hjk, rfl, rfl, if_pos hjk, rfl, rfl⟩)).base HB0.out.size, HB2.out⟩
end Go.Proofs.Ytgkaeoieclegjaa
