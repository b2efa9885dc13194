/- The law's marking, by program (tools/gendeep.py). -/
import Derived.Test.YtciohamonmmciaaMkData
import Derived.Test.YtciohamonmmciaaRows
import Derived.WalkKit
import Derived.WalkSmall
import Derived.ProofKit
import Derived.OpenShut
import Derived.Lib.Hide
import Derived.Lib.SmallJoins
import Derived.StillTailTactics
import Derived.Deep.QuietTactic
import Derived.BigQuiet
import Derived.Outline
namespace Go.Proofs.Ytciohamonmmciaa
set_option linter.unusedVariables false
set_option maxRecDepth 100000
open Go.ChangeShapes Go.WideShapes Go.ChangeAt Go.RowKit
theorem markTyItemS (l : List TyI) (v : Value) (F : List Nat) (a : Int) (k M : Nat) (w : World) (ha : a = k) (h0 : 0 < k) (hM : M = k + cntL cTyI l) (h1 : M ≤ 1000000000000) (hO : RowOwn 3 TyIOwn w v l F) (hN : F.Nodup) :
    Calls Try.prog 27 #[v, .int .i64 a] w (MarkPost 3 TyIOwn (mkL mkTyI cTyI l k) v F M w) := by
  subst ha
  rcases hO.form with ⟨rfl, rfl, a, cap, rfl⟩ | ⟨g, cap, Fs, rfl, hm, hl0, hfs, rfl, hI⟩
  · obtain rfl : M = k := by simpa [cntL] using hM
    clear hM
    go_enter Try.func27, Try.ntmps27
    go_wp2
    refine wp_loop_rounds 1 ?_
    rw [rounds_succ]
    go_wp2
    go_ret
    exact ⟨rfl, .inl ⟨rfl, rfl, _, _, rfl⟩, ButF.refl _ _⟩
  · have hI := hI (mkL mkTyI cTyI l k)
    obtain ⟨n1, n2, n3⟩ := nodup_parts hN
    have HM := Lib.hid hM
    have hm' := hm
    unfold maxLen at hm
    clear hM hO
    go_enter Try.func27, Try.ntmps27
    go_wp2
    go_loopw [1, 5] (fun m i wr => ∃ j q : Nat, i = .int .i64 j ∧ m = .int .i64 (q : Int) ∧ q = k + cntL cTyI (l.take j) ∧ j ≤ l.length ∧ MInv 3 TyIOwn w g Fs l (mkL mkTyI cTyI l k) j wr) (fun _ i _ => l.length - (intOf i).toNat)
    case atStart => exact ⟨0, k, rfl, rfl, by simp [cntL], Nat.zero_le _, hI⟩
    case round =>
      obtain ⟨j, m, rfl, rfl, hq, hj, hIj⟩ := hrel
      by_cases hlt : j < l.length
      · have hcnt := cntL_take cTyI l j hlt
        have hcle := cntL_le cTyI l (j + 1)
        have hget := mkL_get mkTyI cTyI l k j hlt
        have hx := hIj.todo j (Nat.le_refl _) hlt (by omega)
        rw [← hq] at hget
        have HG := Lib.hid hget
        have HC := Lib.hid (show k + cntL cTyI (l.take (j + 1)) = m + cTyI l[j] by omega)
        have HQ := HM.out
        have hb : m + cTyI l[j] ≤ 1000000000000 := by omega
        have hm0 : 0 < m := by omega
        clear hcnt hcle hget hq HQ
        have hgl := hIj.lt
        have hfr := hIj.fr
        have hnF := n1 j (by omega)
        have hND := n3 j (by omega)
        obtain ⟨Fj, hFj⟩ : ∃ Fj, Fj = Fs[j]'(by omega) := ⟨_, rfl⟩
        rw [← hFj] at hx hnF hND
        have HF := Lib.hid hFj
        clear hFj
        generalize l[j] = x at *
        obtain ⟨rfl, ⟨e0_0, i0⟩, ⟨e0_1, i1⟩, ⟨e0_2, i2⟩⟩ := hx
        go_wp2_with fail
        refine (markTextI _ (m + 1) _ (by omega) (by omega) (by simp only [cTyI] at hb; omega)).mono ?_
        rintro e w1 ⟨rfl, hb1⟩
        have hO1 := ((Out.refl g (j * 3) 3 [] wr).set (j * 3) (.int .i64 (m : Int)) ⟨by omega, by omega⟩).below hgl hb1
        have hg1 : g < w1.heap.size := Nat.lt_of_lt_of_le hgl hO1.size
        have hfr1 : ∀ i, w1.frozen? ⟨g, i, none⟩ = false := fun i => (hO1.fr i).trans (hIj.fr i)
        have e1_0 : w1.cell? ⟨g, j * 3, none⟩ = some (.int .i64 (m : Int)) := (hb1.cell (p := ⟨g, j * 3, none⟩) (by simpa [World.setCell] using hgl)).trans (World.cell?_setCell_same _ _ _ (e0_0))
        have e1_1 : w1.cell? ⟨g, j * 3 + 1, none⟩ = some (.string x.name) := (hb1.cell (p := ⟨g, j * 3 + 1, none⟩) (by simpa [World.setCell] using hgl)).trans ((cell_off (by omega)).trans (e0_1))
        have e1_2 : w1.cell? ⟨g, j * 3 + 2, none⟩ = some (.int .i64 x.arity) := (hb1.cell (p := ⟨g, j * 3 + 2, none⟩) (by simpa [World.setCell] using hgl)).trans ((cell_off (by omega)).trans (e0_2))
        clear e0_0 e0_1 e0_2 hfr hb1
        have hOZ := ((hO1).set (j * 3 + 1) (.string (markS (m + 1))) ⟨by omega, by omega⟩).set (j * 3 + 2) (.int .i64 ((m : Int) + 1 + 1)) ⟨by omega, by omega⟩
        have hcx : cTyI x ≤ 1000000000000 := by omega
        simp only [cTyI] at hb hcx
        have hD : TyIOwn _ g (j * 3) (mkTyI x m) _ := ⟨rfl, int_el ((cell_off (by omega)).trans ((cell_off (by omega)).trans (e1_0))) (by first | rfl | omega | (simp only [mkTyI]; omega) | (simp only [mkTyI]; push_cast; omega)) (i64_nat (m) (by omega)), str_el ((cell_off (by omega)).trans (World.cell?_setCell_same _ _ _ (e1_1))) (by first | rfl | (congr 1; omega)) (markS_size (m + 1) (by omega)), int_el (World.cell?_setCell_same _ _ _ ((cell_off (by omega)).trans (e1_2))) (by first | rfl | omega | (simp only [mkTyI]; omega) | (simp only [mkTyI]; push_cast; omega)) (i64_nat (m + 1 + 1) (by omega))⟩
        go_wp2
        go_roundw
        case rel => exact ⟨j + 1, m + cTyI x, by go_num, by simp only [cTyI]; go_num, HC.out.symm, by omega, (hIj.step TyIOwn.loc TyIOwn.sized hN (mkL_len _ _ _ _) hfs hlt HF.out hOZ (by rw [HG.out]; exact hD))⟩
        case measure => simp [intOf]; omega
      · obtain rfl : j = l.length := by omega
        rw [List.take_length] at hq
        obtain rfl : m = M := hq.trans HM.out.symm
        go_wp2
        go_ret
        exact ⟨rfl, hIj.fin rfl (mkL_len _ _ _ _) hfs hl0 hm', hIj.but⟩
theorem markSubS (l : List Sb) (v : Value) (F : List Nat) (a : Int) (k M : Nat) (w : World) (ha : a = k) (h0 : 0 < k) (hM : M = k + cntL cSb l) (h1 : M ≤ 1000000000000) (hO : RowOwn 2 SbOwn w v l F) (hN : F.Nodup) :
    Calls Try.prog 17 #[v, .int .i64 a] w (MarkPost 2 SbOwn (mkL mkSb cSb l k) v F M w) := by
  subst ha
  rcases hO.form with ⟨rfl, rfl, a, cap, rfl⟩ | ⟨g, cap, Fs, rfl, hm, hl0, hfs, rfl, hI⟩
  · obtain rfl : M = k := by simpa [cntL] using hM
    clear hM
    go_enter Try.func17, Try.ntmps17
    go_wp2
    refine wp_loop_rounds 1 ?_
    rw [rounds_succ]
    go_wp2
    go_ret
    exact ⟨rfl, .inl ⟨rfl, rfl, _, _, rfl⟩, ButF.refl _ _⟩
  · have hI := hI (mkL mkSb cSb l k)
    obtain ⟨n1, n2, n3⟩ := nodup_parts hN
    have HM := Lib.hid hM
    have hm' := hm
    unfold maxLen at hm
    clear hM hO
    go_enter Try.func17, Try.ntmps17
    go_wp2
    go_loopw [1, 5] (fun m i wr => ∃ j q : Nat, i = .int .i64 j ∧ m = .int .i64 (q : Int) ∧ q = k + cntL cSb (l.take j) ∧ j ≤ l.length ∧ MInv 2 SbOwn w g Fs l (mkL mkSb cSb l k) j wr) (fun _ i _ => l.length - (intOf i).toNat)
    case atStart => exact ⟨0, k, rfl, rfl, by simp [cntL], Nat.zero_le _, hI⟩
    case round =>
      obtain ⟨j, m, rfl, rfl, hq, hj, hIj⟩ := hrel
      by_cases hlt : j < l.length
      · have hcnt := cntL_take cSb l j hlt
        have hcle := cntL_le cSb l (j + 1)
        have hget := mkL_get mkSb cSb l k j hlt
        have hx := hIj.todo j (Nat.le_refl _) hlt (by omega)
        rw [← hq] at hget
        have HG := Lib.hid hget
        have HC := Lib.hid (show k + cntL cSb (l.take (j + 1)) = m + cSb l[j] by omega)
        have HQ := HM.out
        have hb : m + cSb l[j] ≤ 1000000000000 := by omega
        have hm0 : 0 < m := by omega
        clear hcnt hcle hget hq HQ
        have hgl := hIj.lt
        have hfr := hIj.fr
        have hnF := n1 j (by omega)
        have hND := n3 j (by omega)
        obtain ⟨Fj, hFj⟩ : ∃ Fj, Fj = Fs[j]'(by omega) := ⟨_, rfl⟩
        rw [← hFj] at hx hnF hND
        have HF := Lib.hid hFj
        clear hFj
        generalize l[j] = x at *
        obtain ⟨F1, rfl, ⟨e0_0, i0⟩, ⟨v1, e0_1, r1⟩⟩ := hx
        go_wp2_with fail
        obtain ⟨M1, hM1⟩ : ∃ M, M = m + 1 + cntL cTyI x.ty := ⟨_, rfl⟩
        have HM1 := Lib.hid hM1
        refine (markTyItemS x.ty _ Fj _ (m + 1) M1 _ (by omega) (by omega) hM1 (by simp only [cSb, cTy] at hb; omega) ((r1).set TyIOwn.loc TyIOwn.sized (j * 2) (.int .i64 (m : Int)) hnF) hND).mono ?_
        rintro e w1 ⟨rfl, rr1, hb1⟩
        clear hM1
        have hO1 := ((Out.refl g (j * 2) 2 Fj wr).set (j * 2) (.int .i64 (m : Int)) ⟨by omega, by omega⟩).but hgl hb1 (fun k e => e) hnF
        have r1_1 := rr1
        have hg1 : g < w1.heap.size := Nat.lt_of_lt_of_le hgl hO1.size
        have hfr1 : ∀ i, w1.frozen? ⟨g, i, none⟩ = false := fun i => (hO1.fr i).trans (hIj.fr i)
        have e1_0 : w1.cell? ⟨g, j * 2, none⟩ = some (.int .i64 (m : Int)) := (World.cell?_of_block (a := ⟨g, j * 2, none⟩) (hb1.block g (by simpa [World.setCell] using hgl) hnF)).trans (World.cell?_setCell_same _ _ _ (e0_0))
        have e1_1 : w1.cell? ⟨g, j * 2 + 1, none⟩ = some (v1) := (World.cell?_of_block (a := ⟨g, j * 2 + 1, none⟩) (hb1.block g (by simpa [World.setCell] using hgl) hnF)).trans ((cell_off (by omega)).trans (e0_1))
        clear e0_0 e0_1 hfr hb1
        have hOZ := hO1
        have hcx : cSb x ≤ 1000000000000 := by omega
        simp only [cSb, cTy] at hb hcx
        have RR1 := r1_1
        have hM1 := HM1.out
        subst hM1
        have hD : SbOwn _ g (j * 2) (mkSb x m) _ := ⟨_, rfl, int_el (e1_0) (by first | rfl | omega | (simp only [mkSb, mkTy]; omega) | (simp only [mkSb, mkTy]; push_cast; omega)) (i64_nat (m) (by omega)), ⟨_, e1_1, RR1⟩⟩
        go_wp2
        go_roundw
        case rel => exact ⟨j + 1, m + cSb x, by go_num, by simp only [cSb, cTy]; go_num, HC.out.symm, by omega, (hIj.step SbOwn.loc SbOwn.sized hN (mkL_len _ _ _ _) hfs hlt HF.out hOZ (by rw [HG.out]; exact hD))⟩
        case measure => simp [intOf]; omega
      · obtain rfl : j = l.length := by omega
        rw [List.take_length] at hq
        obtain rfl : m = M := hq.trans HM.out.symm
        go_wp2
        go_ret
        exact ⟨rfl, hIj.fin rfl (mkL_len _ _ _ _) hfs hl0 hm', hIj.but⟩
theorem markTy (x : List TyI) (v0 : Value) (F0 : List Nat) (k : Nat) (w : World) (h0 : 0 < k) (M0 : Nat) (hM0 : M0 = k + cntL cTyI x) (h1 : M0 ≤ 1000000000000) (r0 : RowOwn 3 TyIOwn w v0 x F0) (n0 : F0.Nodup) :
    Calls Try.prog 10 #[.agg #[v0], .int .i64 (k : Int)] w (fun e w' => e = .returned (.int .i64 (M0 : Int)) ∧ RowOwn 3 TyIOwn w' v0 (mkL mkTyI cTyI x k) F0 ∧ ButF (F0) w w') := by
  obtain ⟨a0, ca0, e0, -, -⟩ := (r0.reads TyIOwn.reads).form
  subst e0
  have HM0 := Lib.hid hM0
  clear hM0
  go_enter Try.func10, Try.ntmps10
  go_wp2_with fail
  refine (markTyItemS x _ F0 _ k M0 _ rfl (by have z0 := HM0.out; omega) HM0.out (by have z0 := HM0.out; omega) (r0.kept TyIOwn.loc TyIOwn.sized ((Below.refl _ _).alloc (Nat.le_refl _) _)) n0).mono ?_
  rintro e w1 ⟨rfl, rr0, hb1⟩
  go_wp2
  go_ret
  exact ⟨rfl, rr0, (ButF.of_below ((Below.refl _ _).alloc (Nat.le_refl _) _)).trans (hb1.mono (fun g hg => hg))⟩
end Go.Proofs.Ytciohamonmmciaa
