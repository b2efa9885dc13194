/- The law's marking, by program (tools/gendeep.py). -/
import Derived.Test.YtdhpmblhejcehaaMkData
import Derived.Test.YtdhpmblhejcehaaRows
import Derived.WalkKit
import Derived.WalkSmall
import Derived.ProofKit
import Derived.OpenShut
import Derived.Lib.Hide
import Derived.Lib.SmallJoins
import Derived.StillTailTactics
import Derived.Deep.QuietTactic
import Derived.BigQuiet
import Derived.Outline
namespace Go.Proofs.Ytdhpmblhejcehaa
set_option linter.unusedVariables false
set_option maxRecDepth 100000
open Go.ChangeShapes Go.WideShapes Go.ChangeAt Go.RowKit
theorem markIntS (l : List Int) (v : Value) (F : List Nat) (a : Int) (k M : Nat) (w : World) (ha : a = k) (h0 : 0 < k) (hM : M = k + cntL cInt l) (h1 : M ≤ 1000000000000) (hO : RowOwn 1 (Flat IntEl) w v l F) (hN : F.Nodup) :
    Calls Try.prog 24 #[v, .int .i64 a] w (MarkPost 1 (Flat IntEl) (mkL mkInt cInt l k) v F M w) := by
  subst ha
  rcases hO.form with ⟨rfl, rfl, a, cap, rfl⟩ | ⟨g, cap, Fs, rfl, hm, hl0, hfs, rfl, hI⟩
  · obtain rfl : M = k := by simpa [cntL] using hM
    clear hM
    go_enter Try.func24, Try.ntmps24
    go_wp2
    refine wp_loop_rounds 1 ?_
    rw [rounds_succ]
    go_wp2
    go_ret
    exact ⟨rfl, .inl ⟨rfl, rfl, _, _, rfl⟩, ButF.refl _ _⟩
  · have hI := hI (mkL mkInt cInt l k)
    obtain ⟨n1, n2, n3⟩ := nodup_parts hN
    have HM := Lib.hid hM
    have hm' := hm
    unfold maxLen at hm
    clear hM hO
    go_enter Try.func24, Try.ntmps24
    go_wp2
    go_loopw [1, 5] (fun m i wr => ∃ j q : Nat, i = .int .i64 j ∧ m = .int .i64 (q : Int) ∧ q = k + cntL cInt (l.take j) ∧ j ≤ l.length ∧ MInv 1 (Flat IntEl) w g Fs l (mkL mkInt cInt l k) j wr) (fun _ i _ => l.length - (intOf i).toNat)
    case atStart => exact ⟨0, k, rfl, rfl, by simp [cntL], Nat.zero_le _, hI⟩
    case round =>
      obtain ⟨j, m, rfl, rfl, hq, hj, hIj⟩ := hrel
      by_cases hlt : j < l.length
      · have hcnt := cntL_take cInt l j hlt
        have hcle := cntL_le cInt l (j + 1)
        have hget := mkL_get mkInt cInt l k j hlt
        have hx := hIj.todo j (Nat.le_refl _) hlt (by omega)
        rw [← hq] at hget
        have HG := Lib.hid hget
        have HC := Lib.hid (show k + cntL cInt (l.take (j + 1)) = m + cInt l[j] by omega)
        have HQ := HM.out
        have hb : m + cInt l[j] ≤ 1000000000000 := by omega
        have hm0 : 0 < m := by omega
        clear hcnt hcle hget hq HQ
        have hgl := hIj.lt
        have hfr := hIj.fr
        have hnF := n1 j (by omega)
        have hND := n3 j (by omega)
        obtain ⟨Fj, hFj⟩ : ∃ Fj, Fj = Fs[j]'(by omega) := ⟨_, rfl⟩
        rw [← hFj] at hx hnF hND
        have HF := Lib.hid hFj
        clear hFj
        generalize l[j] = x at *
        obtain ⟨rfl, ⟨e0_0, i0⟩⟩ := hx
        rw [Nat.mul_one] at e0_0
        have hOZ := (Out.refl g (j) 1 [] wr).set (j) (.int .i64 (m : Int)) ⟨by omega, by omega⟩
        have hcx : cInt x ≤ 1000000000000 := by omega
        simp only [cInt] at hb hcx
        have hD : Flat IntEl _ g (j) (mkInt x m) _ := ⟨rfl, int_el (World.cell?_setCell_same _ _ _ (e0_0)) rfl (i64_nat _ (by omega))⟩
        have hOZ1 := hOZ
        have hD1 := hD
        go_wp2
        go_roundw
        case rel => exact ⟨j + 1, m + cInt x, by go_num, by simp only [cInt]; go_num, HC.out.symm, by omega, (hIj.step IntFlat.loc (Flat.sized IntEl) hN (mkL_len _ _ _ _) hfs hlt HF.out (by rw [Nat.mul_one]; exact hOZ) (by rw [HG.out, Nat.mul_one]; exact hD))⟩
        case measure => simp [intOf]; omega
      · obtain rfl : j = l.length := by omega
        rw [List.take_length] at hq
        obtain rfl : m = M := hq.trans HM.out.symm
        go_wp2
        go_ret
        exact ⟨rfl, hIj.fin rfl (mkL_len _ _ _ _) hfs hl0 hm', hIj.but⟩
theorem markValS (l : List Vl) (v : Value) (F : List Nat) (a : Int) (k M : Nat) (w : World) (ha : a = k) (h0 : 0 < k) (hM : M = k + cntL cVl l) (h1 : M ≤ 1000000000000) (hO : RowOwn 3 VlOwn w v l F) (hN : F.Nodup) :
    Calls Try.prog 23 #[v, .int .i64 a] w (MarkPost 3 VlOwn (mkL mkVl cVl l k) v F M w) := by
  subst ha
  rcases hO.form with ⟨rfl, rfl, a, cap, rfl⟩ | ⟨g, cap, Fs, rfl, hm, hl0, hfs, rfl, hI⟩
  · obtain rfl : M = k := by simpa [cntL] using hM
    clear hM
    go_enter Try.func23, Try.ntmps23
    go_wp2
    refine wp_loop_rounds 1 ?_
    rw [rounds_succ]
    go_wp2
    go_ret
    exact ⟨rfl, .inl ⟨rfl, rfl, _, _, rfl⟩, ButF.refl _ _⟩
  · have hI := hI (mkL mkVl cVl l k)
    obtain ⟨n1, n2, n3⟩ := nodup_parts hN
    have HM := Lib.hid hM
    have hm' := hm
    unfold maxLen at hm
    clear hM hO
    go_enter Try.func23, Try.ntmps23
    go_wp2
    go_loopw [1, 5] (fun m i wr => ∃ j q : Nat, i = .int .i64 j ∧ m = .int .i64 (q : Int) ∧ q = k + cntL cVl (l.take j) ∧ j ≤ l.length ∧ MInv 3 VlOwn w g Fs l (mkL mkVl cVl l k) j wr) (fun _ i _ => l.length - (intOf i).toNat)
    case atStart => exact ⟨0, k, rfl, rfl, by simp [cntL], Nat.zero_le _, hI⟩
    case round =>
      obtain ⟨j, m, rfl, rfl, hq, hj, hIj⟩ := hrel
      by_cases hlt : j < l.length
      · have hcnt := cntL_take cVl l j hlt
        have hcle := cntL_le cVl l (j + 1)
        have hget := mkL_get mkVl cVl l k j hlt
        have hx := hIj.todo j (Nat.le_refl _) hlt (by omega)
        rw [← hq] at hget
        have HG := Lib.hid hget
        have HC := Lib.hid (show k + cntL cVl (l.take (j + 1)) = m + cVl l[j] by omega)
        have HQ := HM.out
        have hb : m + cVl l[j] ≤ 1000000000000 := by omega
        have hm0 : 0 < m := by omega
        clear hcnt hcle hget hq HQ
        have hgl := hIj.lt
        have hfr := hIj.fr
        have hnF := n1 j (by omega)
        have hND := n3 j (by omega)
        obtain ⟨Fj, hFj⟩ : ∃ Fj, Fj = Fs[j]'(by omega) := ⟨_, rfl⟩
        rw [← hFj] at hx hnF hND
        have HF := Lib.hid hFj
        clear hFj
        generalize l[j] = x at *
        obtain ⟨rfl, ⟨e0_0, i0⟩, ⟨e0_1, i1⟩, ⟨e0_2, i2⟩⟩ := hx
        go_wp2_with fail
        refine (markTextI _ (m + 1 + 1) _ (by omega) (by omega) (by simp only [cVl] at hb; omega)).mono ?_
        rintro e w1 ⟨rfl, hb1⟩
        have hO1 := (((Out.refl g (j * 3) 3 [] wr).set (j * 3) (.int .i64 (m : Int)) ⟨by omega, by omega⟩).set (j * 3 + 1) (.int .i64 ((m : Int) + 1)) ⟨by omega, by omega⟩).below hgl hb1
        have hg1 : g < w1.heap.size := Nat.lt_of_lt_of_le hgl hO1.size
        have hfr1 : ∀ i, w1.frozen? ⟨g, i, none⟩ = false := fun i => (hO1.fr i).trans (hIj.fr i)
        have e1_0 : w1.cell? ⟨g, j * 3, none⟩ = some (.int .i64 (m : Int)) := (hb1.cell (p := ⟨g, j * 3, none⟩) (by simpa [World.setCell] using hgl)).trans ((cell_off (by omega)).trans (World.cell?_setCell_same _ _ _ (e0_0)))
        have e1_1 : w1.cell? ⟨g, j * 3 + 1, none⟩ = some (.int .i64 ((m : Int) + 1)) := (hb1.cell (p := ⟨g, j * 3 + 1, none⟩) (by simpa [World.setCell] using hgl)).trans (World.cell?_setCell_same _ _ _ ((cell_off (by omega)).trans (e0_1)))
        have e1_2 : w1.cell? ⟨g, j * 3 + 2, none⟩ = some (.string x.s) := (hb1.cell (p := ⟨g, j * 3 + 2, none⟩) (by simpa [World.setCell] using hgl)).trans ((cell_off (by omega)).trans ((cell_off (by omega)).trans (e0_2)))
        clear e0_0 e0_1 e0_2 hfr hb1
        have hOZ := (hO1).set (j * 3 + 2) (.string (markS (m + 1 + 1))) ⟨by omega, by omega⟩
        have hcx : cVl x ≤ 1000000000000 := by omega
        simp only [cVl] at hb hcx
        have hD : VlOwn _ g (j * 3) (mkVl x m) _ := ⟨rfl, int_el ((cell_off (by omega)).trans (e1_0)) (by first | rfl | omega | (simp only [mkVl]; omega) | (simp only [mkVl]; push_cast; omega)) (i64_nat (m) (by omega)), int_el ((cell_off (by omega)).trans (e1_1)) (by first | rfl | omega | (simp only [mkVl]; omega) | (simp only [mkVl]; push_cast; omega)) (i64_nat (m + 1) (by omega)), str_el (World.cell?_setCell_same _ _ _ (e1_2)) (by first | rfl | (congr 1; omega)) (markS_size (m + 1 + 1) (by omega))⟩
        go_wp2
        go_roundw
        case rel => exact ⟨j + 1, m + cVl x, by go_num, by simp only [cVl]; go_num, HC.out.symm, by omega, (hIj.step VlOwn.loc VlOwn.sized hN (mkL_len _ _ _ _) hfs hlt HF.out hOZ (by rw [HG.out]; exact hD))⟩
        case measure => simp [intOf]; omega
      · obtain rfl : j = l.length := by omega
        rw [List.take_length] at hq
        obtain rfl : m = M := hq.trans HM.out.symm
        go_wp2
        go_ret
        exact ⟨rfl, hIj.fin rfl (mkL_len _ _ _ _) hfs hl0 hm', hIj.but⟩
theorem markCellS (l : List Ce) (v : Value) (F : List Nat) (a : Int) (k M : Nat) (w : World) (ha : a = k) (h0 : 0 < k) (hM : M = k + cntL cCe l) (h1 : M ≤ 1000000000000) (hO : RowOwn 9 CeOwn w v l F) (hN : F.Nodup) :
    Calls Try.prog 22 #[v, .int .i64 a] w (MarkPost 9 CeOwn (mkL mkCe cCe l k) v F M w) := by
  subst ha
  rcases hO.form with ⟨rfl, rfl, a, cap, rfl⟩ | ⟨g, cap, Fs, rfl, hm, hl0, hfs, rfl, hI⟩
  · obtain rfl : M = k := by simpa [cntL] using hM
    clear hM
    go_enter Try.func22, Try.ntmps22
    go_wp2
    refine wp_loop_rounds 1 ?_
    rw [rounds_succ]
    go_wp2
    go_ret
    exact ⟨rfl, .inl ⟨rfl, rfl, _, _, rfl⟩, ButF.refl _ _⟩
  · have hI := hI (mkL mkCe cCe l k)
    obtain ⟨n1, n2, n3⟩ := nodup_parts hN
    have HM := Lib.hid hM
    have hm' := hm
    unfold maxLen at hm
    clear hM hO
    go_enter Try.func22, Try.ntmps22
    go_wp2
    go_loopw [1, 5] (fun m i wr => ∃ j q : Nat, i = .int .i64 j ∧ m = .int .i64 (q : Int) ∧ q = k + cntL cCe (l.take j) ∧ j ≤ l.length ∧ MInv 9 CeOwn w g Fs l (mkL mkCe cCe l k) j wr) (fun _ i _ => l.length - (intOf i).toNat)
    case atStart => exact ⟨0, k, rfl, rfl, by simp [cntL], Nat.zero_le _, hI⟩
    case round =>
      obtain ⟨j, m, rfl, rfl, hq, hj, hIj⟩ := hrel
      by_cases hlt : j < l.length
      · have hcnt := cntL_take cCe l j hlt
        have hcle := cntL_le cCe l (j + 1)
        have hget := mkL_get mkCe cCe l k j hlt
        have hx := hIj.todo j (Nat.le_refl _) hlt (by omega)
        rw [← hq] at hget
        have HG := Lib.hid hget
        have HC := Lib.hid (show k + cntL cCe (l.take (j + 1)) = m + cCe l[j] by omega)
        have HQ := HM.out
        have hb : m + cCe l[j] ≤ 1000000000000 := by omega
        have hm0 : 0 < m := by omega
        clear hcnt hcle hget hq HQ
        have hgl := hIj.lt
        have hfr := hIj.fr
        have hnF := n1 j (by omega)
        have hND := n3 j (by omega)
        obtain ⟨Fj, hFj⟩ : ∃ Fj, Fj = Fs[j]'(by omega) := ⟨_, rfl⟩
        rw [← hFj] at hx hnF hND
        have HF := Lib.hid hFj
        clear hFj
        generalize l[j] = x at *
        obtain ⟨rfl, ⟨e0_0, i0⟩, ⟨e0_1, i1⟩, ⟨e0_2, i2⟩, ⟨⟨e0_3, i3⟩, ⟨e0_4, i4⟩, ⟨e0_5, i5⟩⟩, ⟨⟨e0_6, i6⟩, ⟨e0_7, i7⟩, ⟨e0_8, i8⟩⟩⟩ := hx
        go_wp2_with fail
        refine (markTextI _ (m + 1 + 1) _ (by omega) (by omega) (by simp only [cCe, cVl, cVl] at hb; omega)).mono ?_
        rintro e w1 ⟨rfl, hb1⟩
        have hO1 := (((Out.refl g (j * 9) 9 [] wr).set (j * 9) (.int .i64 (m : Int)) ⟨by omega, by omega⟩).set (j * 9 + 1) (.int .i64 ((m : Int) + 1)) ⟨by omega, by omega⟩).below hgl hb1
        have hg1 : g < w1.heap.size := Nat.lt_of_lt_of_le hgl hO1.size
        have hfr1 : ∀ i, w1.frozen? ⟨g, i, none⟩ = false := fun i => (hO1.fr i).trans (hIj.fr i)
        have e1_0 : w1.cell? ⟨g, j * 9, none⟩ = some (.int .i64 (m : Int)) := (hb1.cell (p := ⟨g, j * 9, none⟩) (by simpa [World.setCell] using hgl)).trans ((cell_off (by omega)).trans (World.cell?_setCell_same _ _ _ (e0_0)))
        have e1_1 : w1.cell? ⟨g, j * 9 + 1, none⟩ = some (.int .i64 ((m : Int) + 1)) := (hb1.cell (p := ⟨g, j * 9 + 1, none⟩) (by simpa [World.setCell] using hgl)).trans (World.cell?_setCell_same _ _ _ ((cell_off (by omega)).trans (e0_1)))
        have e1_2 : w1.cell? ⟨g, j * 9 + 2, none⟩ = some (.string x.s) := (hb1.cell (p := ⟨g, j * 9 + 2, none⟩) (by simpa [World.setCell] using hgl)).trans ((cell_off (by omega)).trans ((cell_off (by omega)).trans (e0_2)))
        have e1_3 : w1.cell? ⟨g, j * 9 + 3, none⟩ = some (.int .i64 x.a.kind) := (hb1.cell (p := ⟨g, j * 9 + 3, none⟩) (by simpa [World.setCell] using hgl)).trans ((cell_off (by omega)).trans ((cell_off (by omega)).trans (e0_3)))
        have e1_4 : w1.cell? ⟨g, j * 9 + 4, none⟩ = some (.int .i64 x.a.n) := (hb1.cell (p := ⟨g, j * 9 + 4, none⟩) (by simpa [World.setCell] using hgl)).trans ((cell_off (by omega)).trans ((cell_off (by omega)).trans (e0_4)))
        have e1_5 : w1.cell? ⟨g, j * 9 + 5, none⟩ = some (.string x.a.s) := (hb1.cell (p := ⟨g, j * 9 + 5, none⟩) (by simpa [World.setCell] using hgl)).trans ((cell_off (by omega)).trans ((cell_off (by omega)).trans (e0_5)))
        have e1_6 : w1.cell? ⟨g, j * 9 + 6, none⟩ = some (.int .i64 x.b.kind) := (hb1.cell (p := ⟨g, j * 9 + 6, none⟩) (by simpa [World.setCell] using hgl)).trans ((cell_off (by omega)).trans ((cell_off (by omega)).trans (e0_6)))
        have e1_7 : w1.cell? ⟨g, j * 9 + 7, none⟩ = some (.int .i64 x.b.n) := (hb1.cell (p := ⟨g, j * 9 + 7, none⟩) (by simpa [World.setCell] using hgl)).trans ((cell_off (by omega)).trans ((cell_off (by omega)).trans (e0_7)))
        have e1_8 : w1.cell? ⟨g, j * 9 + 8, none⟩ = some (.string x.b.s) := (hb1.cell (p := ⟨g, j * 9 + 8, none⟩) (by simpa [World.setCell] using hgl)).trans ((cell_off (by omega)).trans ((cell_off (by omega)).trans (e0_8)))
        clear e0_0 e0_1 e0_2 e0_3 e0_4 e0_5 e0_6 e0_7 e0_8 hfr hb1
        go_wp2_with fail
        refine (markTextI _ (m + 1 + 1 + 1 + 1 + 1) _ (by omega) (by omega) (by simp only [cCe, cVl, cVl] at hb; omega)).mono ?_
        rintro e w2 ⟨rfl, hb2⟩
        have hO2 := ((((hO1).set (j * 9 + 2) (.string (markS (m + 1 + 1))) ⟨by omega, by omega⟩).set (j * 9 + 3) (.int .i64 ((m : Int) + 1 + 1 + 1)) ⟨by omega, by omega⟩).set (j * 9 + 4) (.int .i64 ((m : Int) + 1 + 1 + 1 + 1)) ⟨by omega, by omega⟩).below hgl hb2
        have hg2 : g < w2.heap.size := Nat.lt_of_lt_of_le hgl hO2.size
        have hfr2 : ∀ i, w2.frozen? ⟨g, i, none⟩ = false := fun i => (hO2.fr i).trans (hIj.fr i)
        have e2_0 : w2.cell? ⟨g, j * 9, none⟩ = some (.int .i64 (m : Int)) := (hb2.cell (p := ⟨g, j * 9, none⟩) (by simpa [World.setCell] using hg1)).trans ((cell_off (by omega)).trans ((cell_off (by omega)).trans ((cell_off (by omega)).trans (e1_0))))
        have e2_1 : w2.cell? ⟨g, j * 9 + 1, none⟩ = some (.int .i64 ((m : Int) + 1)) := (hb2.cell (p := ⟨g, j * 9 + 1, none⟩) (by simpa [World.setCell] using hg1)).trans ((cell_off (by omega)).trans ((cell_off (by omega)).trans ((cell_off (by omega)).trans (e1_1))))
        have e2_2 : w2.cell? ⟨g, j * 9 + 2, none⟩ = some (.string (markS (m + 1 + 1))) := (hb2.cell (p := ⟨g, j * 9 + 2, none⟩) (by simpa [World.setCell] using hg1)).trans ((cell_off (by omega)).trans ((cell_off (by omega)).trans (World.cell?_setCell_same _ _ _ (e1_2))))
        have e2_3 : w2.cell? ⟨g, j * 9 + 3, none⟩ = some (.int .i64 ((m : Int) + 1 + 1 + 1)) := (hb2.cell (p := ⟨g, j * 9 + 3, none⟩) (by simpa [World.setCell] using hg1)).trans ((cell_off (by omega)).trans (World.cell?_setCell_same _ _ _ ((cell_off (by omega)).trans (e1_3))))
        have e2_4 : w2.cell? ⟨g, j * 9 + 4, none⟩ = some (.int .i64 ((m : Int) + 1 + 1 + 1 + 1)) := (hb2.cell (p := ⟨g, j * 9 + 4, none⟩) (by simpa [World.setCell] using hg1)).trans (World.cell?_setCell_same _ _ _ ((cell_off (by omega)).trans ((cell_off (by omega)).trans (e1_4))))
        have e2_5 : w2.cell? ⟨g, j * 9 + 5, none⟩ = some (.string x.a.s) := (hb2.cell (p := ⟨g, j * 9 + 5, none⟩) (by simpa [World.setCell] using hg1)).trans ((cell_off (by omega)).trans ((cell_off (by omega)).trans ((cell_off (by omega)).trans (e1_5))))
        have e2_6 : w2.cell? ⟨g, j * 9 + 6, none⟩ = some (.int .i64 x.b.kind) := (hb2.cell (p := ⟨g, j * 9 + 6, none⟩) (by simpa [World.setCell] using hg1)).trans ((cell_off (by omega)).trans ((cell_off (by omega)).trans ((cell_off (by omega)).trans (e1_6))))
        have e2_7 : w2.cell? ⟨g, j * 9 + 7, none⟩ = some (.int .i64 x.b.n) := (hb2.cell (p := ⟨g, j * 9 + 7, none⟩) (by simpa [World.setCell] using hg1)).trans ((cell_off (by omega)).trans ((cell_off (by omega)).trans ((cell_off (by omega)).trans (e1_7))))
        have e2_8 : w2.cell? ⟨g, j * 9 + 8, none⟩ = some (.string x.b.s) := (hb2.cell (p := ⟨g, j * 9 + 8, none⟩) (by simpa [World.setCell] using hg1)).trans ((cell_off (by omega)).trans ((cell_off (by omega)).trans ((cell_off (by omega)).trans (e1_8))))
        clear e1_0 e1_1 e1_2 e1_3 e1_4 e1_5 e1_6 e1_7 e1_8 hfr1 hb2
        go_wp2_with fail
        refine (markTextI _ (m + 1 + 1 + 1 + 1 + 1 + 1 + 1 + 1) _ (by omega) (by omega) (by simp only [cCe, cVl, cVl] at hb; omega)).mono ?_
        rintro e w3 ⟨rfl, hb3⟩
        have hO3 := ((((hO2).set (j * 9 + 5) (.string (markS (m + 1 + 1 + 1 + 1 + 1))) ⟨by omega, by omega⟩).set (j * 9 + 6) (.int .i64 ((m : Int) + 1 + 1 + 1 + 1 + 1 + 1)) ⟨by omega, by omega⟩).set (j * 9 + 7) (.int .i64 ((m : Int) + 1 + 1 + 1 + 1 + 1 + 1 + 1)) ⟨by omega, by omega⟩).below hgl hb3
        have hg3 : g < w3.heap.size := Nat.lt_of_lt_of_le hgl hO3.size
        have hfr3 : ∀ i, w3.frozen? ⟨g, i, none⟩ = false := fun i => (hO3.fr i).trans (hIj.fr i)
        have e3_0 : w3.cell? ⟨g, j * 9, none⟩ = some (.int .i64 (m : Int)) := (hb3.cell (p := ⟨g, j * 9, none⟩) (by simpa [World.setCell] using hg2)).trans ((cell_off (by omega)).trans ((cell_off (by omega)).trans ((cell_off (by omega)).trans (e2_0))))
        have e3_1 : w3.cell? ⟨g, j * 9 + 1, none⟩ = some (.int .i64 ((m : Int) + 1)) := (hb3.cell (p := ⟨g, j * 9 + 1, none⟩) (by simpa [World.setCell] using hg2)).trans ((cell_off (by omega)).trans ((cell_off (by omega)).trans ((cell_off (by omega)).trans (e2_1))))
        have e3_2 : w3.cell? ⟨g, j * 9 + 2, none⟩ = some (.string (markS (m + 1 + 1))) := (hb3.cell (p := ⟨g, j * 9 + 2, none⟩) (by simpa [World.setCell] using hg2)).trans ((cell_off (by omega)).trans ((cell_off (by omega)).trans ((cell_off (by omega)).trans (e2_2))))
        have e3_3 : w3.cell? ⟨g, j * 9 + 3, none⟩ = some (.int .i64 ((m : Int) + 1 + 1 + 1)) := (hb3.cell (p := ⟨g, j * 9 + 3, none⟩) (by simpa [World.setCell] using hg2)).trans ((cell_off (by omega)).trans ((cell_off (by omega)).trans ((cell_off (by omega)).trans (e2_3))))
        have e3_4 : w3.cell? ⟨g, j * 9 + 4, none⟩ = some (.int .i64 ((m : Int) + 1 + 1 + 1 + 1)) := (hb3.cell (p := ⟨g, j * 9 + 4, none⟩) (by simpa [World.setCell] using hg2)).trans ((cell_off (by omega)).trans ((cell_off (by omega)).trans ((cell_off (by omega)).trans (e2_4))))
        have e3_5 : w3.cell? ⟨g, j * 9 + 5, none⟩ = some (.string (markS (m + 1 + 1 + 1 + 1 + 1))) := (hb3.cell (p := ⟨g, j * 9 + 5, none⟩) (by simpa [World.setCell] using hg2)).trans ((cell_off (by omega)).trans ((cell_off (by omega)).trans (World.cell?_setCell_same _ _ _ (e2_5))))
        have e3_6 : w3.cell? ⟨g, j * 9 + 6, none⟩ = some (.int .i64 ((m : Int) + 1 + 1 + 1 + 1 + 1 + 1)) := (hb3.cell (p := ⟨g, j * 9 + 6, none⟩) (by simpa [World.setCell] using hg2)).trans ((cell_off (by omega)).trans (World.cell?_setCell_same _ _ _ ((cell_off (by omega)).trans (e2_6))))
        have e3_7 : w3.cell? ⟨g, j * 9 + 7, none⟩ = some (.int .i64 ((m : Int) + 1 + 1 + 1 + 1 + 1 + 1 + 1)) := (hb3.cell (p := ⟨g, j * 9 + 7, none⟩) (by simpa [World.setCell] using hg2)).trans (World.cell?_setCell_same _ _ _ ((cell_off (by omega)).trans ((cell_off (by omega)).trans (e2_7))))
        have e3_8 : w3.cell? ⟨g, j * 9 + 8, none⟩ = some (.string x.b.s) := (hb3.cell (p := ⟨g, j * 9 + 8, none⟩) (by simpa [World.setCell] using hg2)).trans ((cell_off (by omega)).trans ((cell_off (by omega)).trans ((cell_off (by omega)).trans (e2_8))))
        clear e2_0 e2_1 e2_2 e2_3 e2_4 e2_5 e2_6 e2_7 e2_8 hfr2 hb3
        have hOZ := (hO3).set (j * 9 + 8) (.string (markS (m + 1 + 1 + 1 + 1 + 1 + 1 + 1 + 1))) ⟨by omega, by omega⟩
        have hcx : cCe x ≤ 1000000000000 := by omega
        simp only [cCe, cVl, cVl] at hb hcx
        have hD : CeOwn _ g (j * 9) (mkCe x m) _ := ⟨rfl, int_el ((cell_off (by omega)).trans (e3_0)) (by first | rfl | omega | (simp only [mkCe, mkVl, mkVl]; omega) | (simp only [mkCe, mkVl, mkVl]; push_cast; omega)) (i64_nat (m) (by omega)), int_el ((cell_off (by omega)).trans (e3_1)) (by first | rfl | omega | (simp only [mkCe, mkVl, mkVl]; omega) | (simp only [mkCe, mkVl, mkVl]; push_cast; omega)) (i64_nat (m + 1) (by omega)), str_el ((cell_off (by omega)).trans (e3_2)) (by first | rfl | (congr 1; omega)) (markS_size (m + 1 + 1) (by omega)), ⟨int_el ((cell_off (by omega)).trans (e3_3)) (by first | rfl | omega | (simp only [mkCe, mkVl, mkVl]; omega) | (simp only [mkCe, mkVl, mkVl]; push_cast; omega)) (i64_nat (m + 1 + 1 + 1) (by omega)), int_el ((cell_off (by omega)).trans (e3_4)) (by first | rfl | omega | (simp only [mkCe, mkVl, mkVl]; omega) | (simp only [mkCe, mkVl, mkVl]; push_cast; omega)) (i64_nat (m + 1 + 1 + 1 + 1) (by omega)), str_el ((cell_off (by omega)).trans (e3_5)) (by first | rfl | (congr 1; omega)) (markS_size (m + 1 + 1 + 1 + 1 + 1) (by omega))⟩, ⟨int_el ((cell_off (by omega)).trans (e3_6)) (by first | rfl | omega | (simp only [mkCe, mkVl, mkVl]; omega) | (simp only [mkCe, mkVl, mkVl]; push_cast; omega)) (i64_nat (m + 1 + 1 + 1 + 1 + 1 + 1) (by omega)), int_el ((cell_off (by omega)).trans (e3_7)) (by first | rfl | omega | (simp only [mkCe, mkVl, mkVl]; omega) | (simp only [mkCe, mkVl, mkVl]; push_cast; omega)) (i64_nat (m + 1 + 1 + 1 + 1 + 1 + 1 + 1) (by omega)), str_el (World.cell?_setCell_same _ _ _ (e3_8)) (by first | rfl | (congr 1; omega)) (markS_size (m + 1 + 1 + 1 + 1 + 1 + 1 + 1 + 1) (by omega))⟩⟩
        go_wp2
        go_roundw
        case rel => exact ⟨j + 1, m + cCe x, by go_num, by simp only [cCe, cVl, cVl]; go_num, HC.out.symm, by omega, (hIj.step CeOwn.loc CeOwn.sized hN (mkL_len _ _ _ _) hfs hlt HF.out hOZ (by rw [HG.out]; exact hD))⟩
        case measure => simp [intOf]; omega
      · obtain rfl : j = l.length := by omega
        rw [List.take_length] at hq
        obtain rfl : m = M := hq.trans HM.out.symm
        go_wp2
        go_ret
        exact ⟨rfl, hIj.fin rfl (mkL_len _ _ _ _) hfs hl0 hm', hIj.but⟩
end Go.Proofs.Ytdhpmblhejcehaa
