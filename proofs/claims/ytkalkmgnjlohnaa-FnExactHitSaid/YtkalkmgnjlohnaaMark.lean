/- The law's marking, by program (tools/gendeep.py). -/
import Derived.Test.YtkalkmgnjlohnaaMkData
import Derived.Test.YtkalkmgnjlohnaaRows
import Derived.WalkKit
import Derived.WalkSmall
import Derived.ProofKit
import Derived.OpenShut
import Derived.Lib.Hide
import Derived.Lib.SmallJoins
import Derived.StillTailTactics
import Derived.Deep.QuietTactic
import Derived.BigQuiet
import Derived.Outline
namespace Go.Proofs.Ytkalkmgnjlohnaa
set_option linter.unusedVariables false
set_option maxRecDepth 100000
open Go.ChangeShapes Go.WideShapes Go.ChangeAt Go.RowKit
theorem markIntS (l : List Int) (v : Value) (F : List Nat) (a : Int) (k M : Nat) (w : World) (ha : a = k) (h0 : 0 < k) (hM : M = k + cntL cInt l) (h1 : M ≤ 1000000000000) (hO : RowOwn 1 (Flat IntEl) w v l F) (hN : F.Nodup) :
    Calls Try.prog 69 #[v, .int .i64 a] w (MarkPost 1 (Flat IntEl) (mkL mkInt cInt l k) v F M w) := by
  subst ha
  rcases hO.form with ⟨rfl, rfl, a, cap, rfl⟩ | ⟨g, cap, Fs, rfl, hm, hl0, hfs, rfl, hI⟩
  · obtain rfl : M = k := by simpa [cntL] using hM
    clear hM
    go_enter Try.func69, Try.ntmps69
    go_wp2
    refine wp_loop_rounds 1 ?_
    rw [rounds_succ]
    go_wp2
    go_ret
    exact ⟨rfl, .inl ⟨rfl, rfl, _, _, rfl⟩, ButF.refl _ _⟩
  · have hI := hI (mkL mkInt cInt l k)
    obtain ⟨n1, n2, n3⟩ := nodup_parts hN
    have HM := Lib.hid hM
    have hm' := hm
    unfold maxLen at hm
    clear hM hO
    go_enter Try.func69, Try.ntmps69
    go_wp2
    go_loopw [1, 5] (fun m i wr => ∃ j q : Nat, i = .int .i64 j ∧ m = .int .i64 (q : Int) ∧ q = k + cntL cInt (l.take j) ∧ j ≤ l.length ∧ MInv 1 (Flat IntEl) w g Fs l (mkL mkInt cInt l k) j wr) (fun _ i _ => l.length - (intOf i).toNat)
    case atStart => exact ⟨0, k, rfl, rfl, by simp [cntL], Nat.zero_le _, hI⟩
    case round =>
      obtain ⟨j, m, rfl, rfl, hq, hj, hIj⟩ := hrel
      by_cases hlt : j < l.length
      · have hcnt := cntL_take cInt l j hlt
        have hcle := cntL_le cInt l (j + 1)
        have hget := mkL_get mkInt cInt l k j hlt
        have hx := hIj.todo j (Nat.le_refl _) hlt (by omega)
        rw [← hq] at hget
        have HG := Lib.hid hget
        have HC := Lib.hid (show k + cntL cInt (l.take (j + 1)) = m + cInt l[j] by omega)
        have HQ := HM.out
        have hb : m + cInt l[j] ≤ 1000000000000 := by omega
        have hm0 : 0 < m := by omega
        clear hcnt hcle hget hq HQ
        have hgl := hIj.lt
        have hfr := hIj.fr
        have hnF := n1 j (by omega)
        have hND := n3 j (by omega)
        obtain ⟨Fj, hFj⟩ : ∃ Fj, Fj = Fs[j]'(by omega) := ⟨_, rfl⟩
        rw [← hFj] at hx hnF hND
        have HF := Lib.hid hFj
        clear hFj
        generalize l[j] = x at *
        obtain ⟨rfl, ⟨e0_0, i0⟩⟩ := hx
        rw [Nat.mul_one] at e0_0
        have hOZ := (Out.refl g (j) 1 [] wr).set (j) (.int .i64 (m : Int)) ⟨by omega, by omega⟩
        have hcx : cInt x ≤ 1000000000000 := by omega
        simp only [cInt] at hb hcx
        have hD : Flat IntEl _ g (j) (mkInt x m) _ := ⟨rfl, int_el (World.cell?_setCell_same _ _ _ (e0_0)) rfl (i64_nat _ (by omega))⟩
        have hOZ1 := hOZ
        have hD1 := hD
        go_wp2
        go_roundw
        case rel => exact ⟨j + 1, m + cInt x, by go_num, by simp only [cInt]; go_num, HC.out.symm, by omega, (hIj.step IntFlat.loc (Flat.sized IntEl) hN (mkL_len _ _ _ _) hfs hlt HF.out (by rw [Nat.mul_one]; exact hOZ) (by rw [HG.out, Nat.mul_one]; exact hD))⟩
        case measure => simp [intOf]; omega
      · obtain rfl : j = l.length := by omega
        rw [List.take_length] at hq
        obtain rfl : m = M := hq.trans HM.out.symm
        go_wp2
        go_ret
        exact ⟨rfl, hIj.fin rfl (mkL_len _ _ _ _) hfs hl0 hm', hIj.but⟩
theorem markPNodeS (l : List PN) (v : Value) (F : List Nat) (a : Int) (k M : Nat) (w : World) (ha : a = k) (h0 : 0 < k) (hM : M = k + cntL cPN l) (h1 : M ≤ 1000000000000) (hO : RowOwn 4 PNOwn w v l F) (hN : F.Nodup) :
    Calls Try.prog 42 #[v, .int .i64 a] w (MarkPost 4 PNOwn (mkL mkPN cPN l k) v F M w) := by
  subst ha
  rcases hO.form with ⟨rfl, rfl, a, cap, rfl⟩ | ⟨g, cap, Fs, rfl, hm, hl0, hfs, rfl, hI⟩
  · obtain rfl : M = k := by simpa [cntL] using hM
    clear hM
    go_enter Try.func42, Try.ntmps42
    go_wp2
    refine wp_loop_rounds 1 ?_
    rw [rounds_succ]
    go_wp2
    go_ret
    exact ⟨rfl, .inl ⟨rfl, rfl, _, _, rfl⟩, ButF.refl _ _⟩
  · have hI := hI (mkL mkPN cPN l k)
    obtain ⟨n1, n2, n3⟩ := nodup_parts hN
    have HM := Lib.hid hM
    have hm' := hm
    unfold maxLen at hm
    clear hM hO
    go_enter Try.func42, Try.ntmps42
    go_wp2
    go_loopw [1, 5] (fun m i wr => ∃ j q : Nat, i = .int .i64 j ∧ m = .int .i64 (q : Int) ∧ q = k + cntL cPN (l.take j) ∧ j ≤ l.length ∧ MInv 4 PNOwn w g Fs l (mkL mkPN cPN l k) j wr) (fun _ i _ => l.length - (intOf i).toNat)
    case atStart => exact ⟨0, k, rfl, rfl, by simp [cntL], Nat.zero_le _, hI⟩
    case round =>
      obtain ⟨j, m, rfl, rfl, hq, hj, hIj⟩ := hrel
      by_cases hlt : j < l.length
      · have hcnt := cntL_take cPN l j hlt
        have hcle := cntL_le cPN l (j + 1)
        have hget := mkL_get mkPN cPN l k j hlt
        have hx := hIj.todo j (Nat.le_refl _) hlt (by omega)
        rw [← hq] at hget
        have HG := Lib.hid hget
        have HC := Lib.hid (show k + cntL cPN (l.take (j + 1)) = m + cPN l[j] by omega)
        have HQ := HM.out
        have hb : m + cPN l[j] ≤ 1000000000000 := by omega
        have hm0 : 0 < m := by omega
        clear hcnt hcle hget hq HQ
        have hgl := hIj.lt
        have hfr := hIj.fr
        have hnF := n1 j (by omega)
        have hND := n3 j (by omega)
        obtain ⟨Fj, hFj⟩ : ∃ Fj, Fj = Fs[j]'(by omega) := ⟨_, rfl⟩
        rw [← hFj] at hx hnF hND
        have HF := Lib.hid hFj
        clear hFj
        generalize l[j] = x at *
        obtain ⟨F3, rfl, ⟨e0_0, i0⟩, ⟨e0_1, i1⟩, ⟨e0_2, i2⟩, ⟨v3, e0_3, r3⟩⟩ := hx
        go_wp2_with fail
        refine (markTextI _ (m + 1 + 1) _ (by omega) (by omega) (by simp only [cPN] at hb; omega)).mono ?_
        rintro e w1 ⟨rfl, hb1⟩
        have hO1 := (((Out.refl g (j * 4) 4 Fj wr).set (j * 4) (.int .i64 (m : Int)) ⟨by omega, by omega⟩).set (j * 4 + 1) (.int .i64 ((m : Int) + 1)) ⟨by omega, by omega⟩).below hgl hb1
        have r1_3 := (((r3).set IntFlat.loc (Flat.sized IntEl) (j * 4) (.int .i64 (m : Int)) hnF).set IntFlat.loc (Flat.sized IntEl) (j * 4 + 1) (.int .i64 ((m : Int) + 1)) hnF).kept IntFlat.loc (Flat.sized IntEl) hb1
        have hg1 : g < w1.heap.size := Nat.lt_of_lt_of_le hgl hO1.size
        have hfr1 : ∀ i, w1.frozen? ⟨g, i, none⟩ = false := fun i => (hO1.fr i).trans (hIj.fr i)
        have e1_0 : w1.cell? ⟨g, j * 4, none⟩ = some (.int .i64 (m : Int)) := (hb1.cell (p := ⟨g, j * 4, none⟩) (by simpa [World.setCell] using hgl)).trans ((cell_off (by omega)).trans (World.cell?_setCell_same _ _ _ (e0_0)))
        have e1_1 : w1.cell? ⟨g, j * 4 + 1, none⟩ = some (.int .i64 ((m : Int) + 1)) := (hb1.cell (p := ⟨g, j * 4 + 1, none⟩) (by simpa [World.setCell] using hgl)).trans (World.cell?_setCell_same _ _ _ ((cell_off (by omega)).trans (e0_1)))
        have e1_2 : w1.cell? ⟨g, j * 4 + 2, none⟩ = some (.string x.s) := (hb1.cell (p := ⟨g, j * 4 + 2, none⟩) (by simpa [World.setCell] using hgl)).trans ((cell_off (by omega)).trans ((cell_off (by omega)).trans (e0_2)))
        have e1_3 : w1.cell? ⟨g, j * 4 + 3, none⟩ = some (v3) := (hb1.cell (p := ⟨g, j * 4 + 3, none⟩) (by simpa [World.setCell] using hgl)).trans ((cell_off (by omega)).trans ((cell_off (by omega)).trans (e0_3)))
        clear e0_0 e0_1 e0_2 e0_3 hfr hb1
        go_wp2_with fail
        obtain ⟨M2, hM2⟩ : ∃ M, M = m + 1 + 1 + 1 + cntL cInt x.kids := ⟨_, rfl⟩
        have HM2 := Lib.hid hM2
        refine (markIntS x.kids _ Fj _ (m + 1 + 1 + 1) M2 _ (by omega) (by omega) hM2 (by simp only [cPN] at hb; omega) ((r1_3).set IntFlat.loc (Flat.sized IntEl) (j * 4 + 2) (.string (markS (m + 1 + 1))) hnF) hND).mono ?_
        rintro e w2 ⟨rfl, rr3, hb2⟩
        clear hM2
        have hO2 := ((hO1).set (j * 4 + 2) (.string (markS (m + 1 + 1))) ⟨by omega, by omega⟩).but hgl hb2 (fun k e => e) hnF
        have r2_3 := rr3
        have hg2 : g < w2.heap.size := Nat.lt_of_lt_of_le hgl hO2.size
        have hfr2 : ∀ i, w2.frozen? ⟨g, i, none⟩ = false := fun i => (hO2.fr i).trans (hIj.fr i)
        have e2_0 : w2.cell? ⟨g, j * 4, none⟩ = some (.int .i64 (m : Int)) := (World.cell?_of_block (a := ⟨g, j * 4, none⟩) (hb2.block g (by simpa [World.setCell] using hg1) hnF)).trans ((cell_off (by omega)).trans (e1_0))
        have e2_1 : w2.cell? ⟨g, j * 4 + 1, none⟩ = some (.int .i64 ((m : Int) + 1)) := (World.cell?_of_block (a := ⟨g, j * 4 + 1, none⟩) (hb2.block g (by simpa [World.setCell] using hg1) hnF)).trans ((cell_off (by omega)).trans (e1_1))
        have e2_2 : w2.cell? ⟨g, j * 4 + 2, none⟩ = some (.string (markS (m + 1 + 1))) := (World.cell?_of_block (a := ⟨g, j * 4 + 2, none⟩) (hb2.block g (by simpa [World.setCell] using hg1) hnF)).trans (World.cell?_setCell_same _ _ _ (e1_2))
        have e2_3 : w2.cell? ⟨g, j * 4 + 3, none⟩ = some (v3) := (World.cell?_of_block (a := ⟨g, j * 4 + 3, none⟩) (hb2.block g (by simpa [World.setCell] using hg1) hnF)).trans ((cell_off (by omega)).trans (e1_3))
        clear e1_0 e1_1 e1_2 e1_3 hfr1 hb2
        have hOZ := hO2
        have hcx : cPN x ≤ 1000000000000 := by omega
        simp only [cPN] at hb hcx
        have RR3 := r2_3
        have hM2 := HM2.out
        subst hM2
        have hD : PNOwn _ g (j * 4) (mkPN x m) _ := ⟨_, rfl, int_el (e2_0) (by first | rfl | omega | (simp only [mkPN]; omega) | (simp only [mkPN]; push_cast; omega)) (i64_nat (m) (by omega)), int_el (e2_1) (by first | rfl | omega | (simp only [mkPN]; omega) | (simp only [mkPN]; push_cast; omega)) (i64_nat (m + 1) (by omega)), str_el (e2_2) (by first | rfl | (congr 1; omega)) (markS_size (m + 1 + 1) (by omega)), ⟨_, e2_3, RR3⟩⟩
        go_wp2
        go_roundw
        case rel => exact ⟨j + 1, m + cPN x, by go_num, by simp only [cPN]; go_num, HC.out.symm, by omega, (hIj.step PNOwn.loc PNOwn.sized hN (mkL_len _ _ _ _) hfs hlt HF.out hOZ (by rw [HG.out]; exact hD))⟩
        case measure => simp [intOf]; omega
      · obtain rfl : j = l.length := by omega
        rw [List.take_length] at hq
        obtain rfl : m = M := hq.trans HM.out.symm
        go_wp2
        go_ret
        exact ⟨rfl, hIj.fin rfl (mkL_len _ _ _ _) hfs hl0 hm', hIj.but⟩
theorem markDNodeS (l : List DN) (v : Value) (F : List Nat) (a : Int) (k M : Nat) (w : World) (ha : a = k) (h0 : 0 < k) (hM : M = k + cntL cDN l) (h1 : M ≤ 1000000000000) (hO : RowOwn 4 DNOwn w v l F) (hN : F.Nodup) :
    Calls Try.prog 43 #[v, .int .i64 a] w (MarkPost 4 DNOwn (mkL mkDN cDN l k) v F M w) := by
  subst ha
  rcases hO.form with ⟨rfl, rfl, a, cap, rfl⟩ | ⟨g, cap, Fs, rfl, hm, hl0, hfs, rfl, hI⟩
  · obtain rfl : M = k := by simpa [cntL] using hM
    clear hM
    go_enter Try.func43, Try.ntmps43
    go_wp2
    refine wp_loop_rounds 1 ?_
    rw [rounds_succ]
    go_wp2
    go_ret
    exact ⟨rfl, .inl ⟨rfl, rfl, _, _, rfl⟩, ButF.refl _ _⟩
  · have hI := hI (mkL mkDN cDN l k)
    obtain ⟨n1, n2, n3⟩ := nodup_parts hN
    have HM := Lib.hid hM
    have hm' := hm
    unfold maxLen at hm
    clear hM hO
    go_enter Try.func43, Try.ntmps43
    go_wp2
    go_loopw [1, 5] (fun m i wr => ∃ j q : Nat, i = .int .i64 j ∧ m = .int .i64 (q : Int) ∧ q = k + cntL cDN (l.take j) ∧ j ≤ l.length ∧ MInv 4 DNOwn w g Fs l (mkL mkDN cDN l k) j wr) (fun _ i _ => l.length - (intOf i).toNat)
    case atStart => exact ⟨0, k, rfl, rfl, by simp [cntL], Nat.zero_le _, hI⟩
    case round =>
      obtain ⟨j, m, rfl, rfl, hq, hj, hIj⟩ := hrel
      by_cases hlt : j < l.length
      · have hcnt := cntL_take cDN l j hlt
        have hcle := cntL_le cDN l (j + 1)
        have hget := mkL_get mkDN cDN l k j hlt
        have hx := hIj.todo j (Nat.le_refl _) hlt (by omega)
        rw [← hq] at hget
        have HG := Lib.hid hget
        have HC := Lib.hid (show k + cntL cDN (l.take (j + 1)) = m + cDN l[j] by omega)
        have HQ := HM.out
        have hb : m + cDN l[j] ≤ 1000000000000 := by omega
        have hm0 : 0 < m := by omega
        clear hcnt hcle hget hq HQ
        have hgl := hIj.lt
        have hfr := hIj.fr
        have hnF := n1 j (by omega)
        have hND := n3 j (by omega)
        obtain ⟨Fj, hFj⟩ : ∃ Fj, Fj = Fs[j]'(by omega) := ⟨_, rfl⟩
        rw [← hFj] at hx hnF hND
        have HF := Lib.hid hFj
        clear hFj
        generalize l[j] = x at *
        obtain ⟨F3, rfl, ⟨e0_0, i0⟩, ⟨e0_1, i1⟩, ⟨e0_2, i2⟩, ⟨v3, e0_3, r3⟩⟩ := hx
        go_wp2_with fail
        refine (markTextI _ (m + 1 + 1) _ (by omega) (by omega) (by simp only [cDN] at hb; omega)).mono ?_
        rintro e w1 ⟨rfl, hb1⟩
        have hO1 := (((Out.refl g (j * 4) 4 Fj wr).set (j * 4) (.int .i64 (m : Int)) ⟨by omega, by omega⟩).set (j * 4 + 1) (.int .i64 ((m : Int) + 1)) ⟨by omega, by omega⟩).below hgl hb1
        have r1_3 := (((r3).set IntFlat.loc (Flat.sized IntEl) (j * 4) (.int .i64 (m : Int)) hnF).set IntFlat.loc (Flat.sized IntEl) (j * 4 + 1) (.int .i64 ((m : Int) + 1)) hnF).kept IntFlat.loc (Flat.sized IntEl) hb1
        have hg1 : g < w1.heap.size := Nat.lt_of_lt_of_le hgl hO1.size
        have hfr1 : ∀ i, w1.frozen? ⟨g, i, none⟩ = false := fun i => (hO1.fr i).trans (hIj.fr i)
        have e1_0 : w1.cell? ⟨g, j * 4, none⟩ = some (.int .i64 (m : Int)) := (hb1.cell (p := ⟨g, j * 4, none⟩) (by simpa [World.setCell] using hgl)).trans ((cell_off (by omega)).trans (World.cell?_setCell_same _ _ _ (e0_0)))
        have e1_1 : w1.cell? ⟨g, j * 4 + 1, none⟩ = some (.int .i64 ((m : Int) + 1)) := (hb1.cell (p := ⟨g, j * 4 + 1, none⟩) (by simpa [World.setCell] using hgl)).trans (World.cell?_setCell_same _ _ _ ((cell_off (by omega)).trans (e0_1)))
        have e1_2 : w1.cell? ⟨g, j * 4 + 2, none⟩ = some (.string x.s) := (hb1.cell (p := ⟨g, j * 4 + 2, none⟩) (by simpa [World.setCell] using hgl)).trans ((cell_off (by omega)).trans ((cell_off (by omega)).trans (e0_2)))
        have e1_3 : w1.cell? ⟨g, j * 4 + 3, none⟩ = some (v3) := (hb1.cell (p := ⟨g, j * 4 + 3, none⟩) (by simpa [World.setCell] using hgl)).trans ((cell_off (by omega)).trans ((cell_off (by omega)).trans (e0_3)))
        clear e0_0 e0_1 e0_2 e0_3 hfr hb1
        go_wp2_with fail
        obtain ⟨M2, hM2⟩ : ∃ M, M = m + 1 + 1 + 1 + cntL cInt x.kids := ⟨_, rfl⟩
        have HM2 := Lib.hid hM2
        refine (markIntS x.kids _ Fj _ (m + 1 + 1 + 1) M2 _ (by omega) (by omega) hM2 (by simp only [cDN] at hb; omega) ((r1_3).set IntFlat.loc (Flat.sized IntEl) (j * 4 + 2) (.string (markS (m + 1 + 1))) hnF) hND).mono ?_
        rintro e w2 ⟨rfl, rr3, hb2⟩
        clear hM2
        have hO2 := ((hO1).set (j * 4 + 2) (.string (markS (m + 1 + 1))) ⟨by omega, by omega⟩).but hgl hb2 (fun k e => e) hnF
        have r2_3 := rr3
        have hg2 : g < w2.heap.size := Nat.lt_of_lt_of_le hgl hO2.size
        have hfr2 : ∀ i, w2.frozen? ⟨g, i, none⟩ = false := fun i => (hO2.fr i).trans (hIj.fr i)
        have e2_0 : w2.cell? ⟨g, j * 4, none⟩ = some (.int .i64 (m : Int)) := (World.cell?_of_block (a := ⟨g, j * 4, none⟩) (hb2.block g (by simpa [World.setCell] using hg1) hnF)).trans ((cell_off (by omega)).trans (e1_0))
        have e2_1 : w2.cell? ⟨g, j * 4 + 1, none⟩ = some (.int .i64 ((m : Int) + 1)) := (World.cell?_of_block (a := ⟨g, j * 4 + 1, none⟩) (hb2.block g (by simpa [World.setCell] using hg1) hnF)).trans ((cell_off (by omega)).trans (e1_1))
        have e2_2 : w2.cell? ⟨g, j * 4 + 2, none⟩ = some (.string (markS (m + 1 + 1))) := (World.cell?_of_block (a := ⟨g, j * 4 + 2, none⟩) (hb2.block g (by simpa [World.setCell] using hg1) hnF)).trans (World.cell?_setCell_same _ _ _ (e1_2))
        have e2_3 : w2.cell? ⟨g, j * 4 + 3, none⟩ = some (v3) := (World.cell?_of_block (a := ⟨g, j * 4 + 3, none⟩) (hb2.block g (by simpa [World.setCell] using hg1) hnF)).trans ((cell_off (by omega)).trans (e1_3))
        clear e1_0 e1_1 e1_2 e1_3 hfr1 hb2
        have hOZ := hO2
        have hcx : cDN x ≤ 1000000000000 := by omega
        simp only [cDN] at hb hcx
        have RR3 := r2_3
        have hM2 := HM2.out
        subst hM2
        have hD : DNOwn _ g (j * 4) (mkDN x m) _ := ⟨_, rfl, int_el (e2_0) (by first | rfl | omega | (simp only [mkDN]; omega) | (simp only [mkDN]; push_cast; omega)) (i64_nat (m) (by omega)), int_el (e2_1) (by first | rfl | omega | (simp only [mkDN]; omega) | (simp only [mkDN]; push_cast; omega)) (i64_nat (m + 1) (by omega)), str_el (e2_2) (by first | rfl | (congr 1; omega)) (markS_size (m + 1 + 1) (by omega)), ⟨_, e2_3, RR3⟩⟩
        go_wp2
        go_roundw
        case rel => exact ⟨j + 1, m + cDN x, by go_num, by simp only [cDN]; go_num, HC.out.symm, by omega, (hIj.step DNOwn.loc DNOwn.sized hN (mkL_len _ _ _ _) hfs hlt HF.out hOZ (by rw [HG.out]; exact hD))⟩
        case measure => simp [intOf]; omega
      · obtain rfl : j = l.length := by omega
        rw [List.take_length] at hq
        obtain rfl : m = M := hq.trans HM.out.symm
        go_wp2
        go_ret
        exact ⟨rfl, hIj.fin rfl (mkL_len _ _ _ _) hfs hl0 hm', hIj.but⟩
theorem markDataS (l : List (List DN)) (v : Value) (F : List Nat) (a : Int) (k M : Nat) (w : World) (ha : a = k) (h0 : 0 < k) (hM : M = k + cntL cData l) (h1 : M ≤ 1000000000000) (hO : RowOwn 1 DataOwn w v l F) (hN : F.Nodup) :
    Calls Try.prog 19 #[v, .int .i64 a] w (MarkPost 1 DataOwn (mkL mkData cData l k) v F M w) := by
  subst ha
  rcases hO.form with ⟨rfl, rfl, a, cap, rfl⟩ | ⟨g, cap, Fs, rfl, hm, hl0, hfs, rfl, hI⟩
  · obtain rfl : M = k := by simpa [cntL] using hM
    clear hM
    go_enter Try.func19, Try.ntmps19
    go_wp2
    refine wp_loop_rounds 1 ?_
    rw [rounds_succ]
    go_wp2
    go_ret
    exact ⟨rfl, .inl ⟨rfl, rfl, _, _, rfl⟩, ButF.refl _ _⟩
  · have hI := hI (mkL mkData cData l k)
    obtain ⟨n1, n2, n3⟩ := nodup_parts hN
    have HM := Lib.hid hM
    have hm' := hm
    unfold maxLen at hm
    clear hM hO
    go_enter Try.func19, Try.ntmps19
    go_wp2
    go_loopw [1, 5] (fun m i wr => ∃ j q : Nat, i = .int .i64 j ∧ m = .int .i64 (q : Int) ∧ q = k + cntL cData (l.take j) ∧ j ≤ l.length ∧ MInv 1 DataOwn w g Fs l (mkL mkData cData l k) j wr) (fun _ i _ => l.length - (intOf i).toNat)
    case atStart => exact ⟨0, k, rfl, rfl, by simp [cntL], Nat.zero_le _, hI⟩
    case round =>
      obtain ⟨j, m, rfl, rfl, hq, hj, hIj⟩ := hrel
      by_cases hlt : j < l.length
      · have hcnt := cntL_take cData l j hlt
        have hcle := cntL_le cData l (j + 1)
        have hget := mkL_get mkData cData l k j hlt
        have hx := hIj.todo j (Nat.le_refl _) hlt (by omega)
        rw [← hq] at hget
        have HG := Lib.hid hget
        have HC := Lib.hid (show k + cntL cData (l.take (j + 1)) = m + cData l[j] by omega)
        have HQ := HM.out
        have hb : m + cData l[j] ≤ 1000000000000 := by omega
        have hm0 : 0 < m := by omega
        clear hcnt hcle hget hq HQ
        have hgl := hIj.lt
        have hfr := hIj.fr
        have hnF := n1 j (by omega)
        have hND := n3 j (by omega)
        obtain ⟨Fj, hFj⟩ : ∃ Fj, Fj = Fs[j]'(by omega) := ⟨_, rfl⟩
        rw [← hFj] at hx hnF hND
        have HF := Lib.hid hFj
        clear hFj
        generalize l[j] = x at *
        obtain ⟨v0, e0_0, r0⟩ := hx
        rw [Nat.mul_one] at e0_0
        go_wp2_with fail
        obtain ⟨M1, hM1⟩ : ∃ M, M = m + cntL cDN x := ⟨_, rfl⟩
        have HM1 := Lib.hid hM1
        refine (markDNodeS x _ Fj _ (m) M1 _ (by omega) (by omega) hM1 (by simp only [cData] at hb; omega) (r0) hND).mono ?_
        rintro e w1 ⟨rfl, rr0, hb1⟩
        clear hM1
        have hO1 := (Out.refl g (j) 1 Fj wr).but hgl hb1 (fun k e => e) hnF
        have r1_0 := rr0
        have hg1 : g < w1.heap.size := Nat.lt_of_lt_of_le hgl hO1.size
        have hfr1 : ∀ i, w1.frozen? ⟨g, i, none⟩ = false := fun i => (hO1.fr i).trans (hIj.fr i)
        have e1_0 : w1.cell? ⟨g, j, none⟩ = some (v0) := (World.cell?_of_block (a := ⟨g, j, none⟩) (hb1.block g (by simpa [World.setCell] using hgl) hnF)).trans (e0_0)
        clear e0_0 hfr hb1
        have hOZ := hO1
        have hcx : cData x ≤ 1000000000000 := by omega
        simp only [cData] at hb hcx
        have RR0 := r1_0
        have hM1 := HM1.out
        subst hM1
        have hD : DataOwn _ g (j) (mkData x m) _ := ⟨_, e1_0, RR0⟩
        have hOZ1 := hOZ
        have hD1 := hD
        go_wp2
        go_roundw
        case rel => exact ⟨j + 1, m + cData x, by go_num, by simp only [cData]; go_num, HC.out.symm, by omega, (hIj.step DataOwn.loc DataOwn.sized hN (mkL_len _ _ _ _) hfs hlt HF.out (by rw [Nat.mul_one]; exact hOZ) (by rw [HG.out, Nat.mul_one]; exact hD))⟩
        case measure => simp [intOf]; omega
      · obtain rfl : j = l.length := by omega
        rw [List.take_length] at hq
        obtain rfl : m = M := hq.trans HM.out.symm
        go_wp2
        go_ret
        exact ⟨rfl, hIj.fin rfl (mkL_len _ _ _ _) hfs hl0 hm', hIj.but⟩
theorem markPat (x : List PN) (v0 : Value) (F0 : List Nat) (k : Nat) (w : World) (h0 : 0 < k) (M0 : Nat) (hM0 : M0 = k + cntL cPN x) (h1 : M0 ≤ 1000000000000) (r0 : RowOwn 4 PNOwn w v0 x F0) (n0 : F0.Nodup) :
    Calls Try.prog 17 #[.agg #[v0], .int .i64 (k : Int)] w (fun e w' => e = .returned (.int .i64 (M0 : Int)) ∧ RowOwn 4 PNOwn w' v0 (mkL mkPN cPN x k) F0 ∧ ButF (F0) w w') := by
  obtain ⟨a0, ca0, e0, -, -⟩ := (r0.reads PNOwn.reads).form
  subst e0
  have HM0 := Lib.hid hM0
  clear hM0
  go_enter Try.func17, Try.ntmps17
  go_wp2_with fail
  refine (markPNodeS x _ F0 _ k M0 _ rfl (by have z0 := HM0.out; omega) HM0.out (by have z0 := HM0.out; omega) (r0.kept PNOwn.loc PNOwn.sized ((Below.refl _ _).alloc (Nat.le_refl _) _)) n0).mono ?_
  rintro e w1 ⟨rfl, rr0, hb1⟩
  go_wp2
  go_ret
  exact ⟨rfl, rr0, (ButF.of_below ((Below.refl _ _).alloc (Nat.le_refl _) _)).trans (hb1.mono (fun g hg => hg))⟩
theorem markData (x : List DN) (v0 : Value) (F0 : List Nat) (k : Nat) (w : World) (h0 : 0 < k) (M0 : Nat) (hM0 : M0 = k + cntL cDN x) (h1 : M0 ≤ 1000000000000) (r0 : RowOwn 4 DNOwn w v0 x F0) (n0 : F0.Nodup) :
    Calls Try.prog 18 #[.agg #[v0], .int .i64 (k : Int)] w (fun e w' => e = .returned (.int .i64 (M0 : Int)) ∧ RowOwn 4 DNOwn w' v0 (mkL mkDN cDN x k) F0 ∧ ButF (F0) w w') := by
  obtain ⟨a0, ca0, e0, -, -⟩ := (r0.reads DNOwn.reads).form
  subst e0
  have HM0 := Lib.hid hM0
  clear hM0
  go_enter Try.func18, Try.ntmps18
  go_wp2_with fail
  refine (markDNodeS x _ F0 _ k M0 _ rfl (by have z0 := HM0.out; omega) HM0.out (by have z0 := HM0.out; omega) (r0.kept DNOwn.loc DNOwn.sized ((Below.refl _ _).alloc (Nat.le_refl _) _)) n0).mono ?_
  rintro e w1 ⟨rfl, rr0, hb1⟩
  go_wp2
  go_ret
  exact ⟨rfl, rr0, (ButF.of_below ((Below.refl _ _).alloc (Nat.le_refl _) _)).trans (hb1.mono (fun g hg => hg))⟩
end Go.Proofs.Ytkalkmgnjlohnaa
