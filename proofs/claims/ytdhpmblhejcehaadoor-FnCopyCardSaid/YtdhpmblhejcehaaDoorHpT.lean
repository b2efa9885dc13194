/- The model's check of heaps: a cell, the whole. -/
import Derived.Test.YtdhpmblhejcehaaDoorHpS
namespace Go.Proofs.YtdhpmblhejcehaaDoor
set_option linter.unusedVariables false
set_option maxRecDepth 100000
open Go.ChangeShapes Go.WideShapes Go.ChangeAt Go.RowKit

set_option maxHeartbeats 4000000 in
theorem sCell (pa : Option Addr) (m c : Nat) (x : Ce) (w : World) (hs : x.s.size ≤ maxLen) (hsa : x.a.s.size ≤ maxLen) (hsb : x.b.s.size ≤ maxLen) :
    Calls Tryd.prog 22 #[.slice pa m c, .agg #[.int .i64 x.kind, .int .i64 x.n, .string x.s, .int .i64 x.a.kind, .int .i64 x.a.n, .string x.a.s, .int .i64 x.b.kind, .int .i64 x.b.n, .string x.b.s]] w fun e w' => e = .returned (.bool (cellB m x)) ∧ Below w.heap.size w w' := by
  obtain ⟨k, n, s, a, b⟩ := x
  simp only at hs hsa hsb
  have HA := fun W => Lib.hid (sVal pa m c a W hsa)
  have HBv := fun W => Lib.hid (sVal pa m c b W hsb)
  have HB := Lib.hid (show cellB m ⟨k, n, s, a, b⟩ = (decide (1 ≤ k) && (decide (k ≤ 6) && (valB m a && (cellBB m k b && ((decide (k = 3 ∨ k = 4) || decide (n = 0)) && (decide (k = 1) || decide (s.toList = []))))))) from rfl)
  by_cases h1 : k < 1
  · have HF := Lib.hid (show cellB m ⟨k, n, s, a, b⟩ = false from by rw [HB.out]; simp; omega)
    have d1 : decide (k < 1) = true := by simpa using h1
    have d2 : (k == 2) = false := by simp; omega
    have d6 : (k == 6) = false := by simp; omega
    clear HB HA HBv
    go_enter Tryd.func22, Tryd.ntmps22
    go_wp2
    go_ret
    exact ⟨ret_bool HF.out.symm, Joins.below_alloc2 w _ _⟩
  by_cases h6 : 6 < k
  · have HF := Lib.hid (show cellB m ⟨k, n, s, a, b⟩ = false from by rw [HB.out]; simp; omega)
    have d1 : decide (k < 1) = false := by simpa using h1
    have d7 : decide (6 < k) = true := by simpa using h6
    have d2 : (k == 2) = false := by simp; omega
    have d6 : (k == 6) = false := by simp; omega
    clear HB HA HBv
    go_enter Tryd.func22, Tryd.ntmps22
    go_wp2
    go_ret
    exact ⟨ret_bool HF.out.symm, Joins.below_alloc2 w _ _⟩
  have hk : (k = 2 ∨ k = 6) ∨ (k = 1 ∨ k = 3 ∨ k = 4 ∨ k = 5) := by omega
  clear h1 h6
  rcases hk with hk | hk
  · have HB2 := Lib.hid (show cellB m ⟨k, n, s, a, b⟩ = (valB m a && (valB m b && (decide (n = 0) && decide (s.toList = [])))) from by rw [HB.out]; rcases hk with rfl | rfl <;> simp [cellBB])
    clear HB
    generalize valB m a = A at *
    generalize valB m b = B at *
    rcases hk with rfl | rfl
    all_goals
      go_enter Tryd.func22, Tryd.ntmps22
      go_wp2_with fail
      refine (HA _).out.mono ?_
      rintro e w1 ⟨rfl, hb1⟩
      have bb1 := below_tr (Joins.below_alloc2 w _ _) hb1
      have f0 := hb1.cell (p := ⟨w.heap.size, 0, none⟩) (by simp; omega)
      simp at f0
      have f1 := hb1.cell (p := ⟨w.heap.size, 1, none⟩) (by simp; omega)
      simp at f1
      have f2 := hb1.cell (p := ⟨w.heap.size, 2, none⟩) (by simp; omega)
      simp at f2
      have f6 := hb1.cell (p := ⟨w.heap.size, 6, none⟩) (by simp; omega)
      simp at f6
      have f7 := hb1.cell (p := ⟨w.heap.size, 7, none⟩) (by simp; omega)
      simp at f7
      have f8 := hb1.cell (p := ⟨w.heap.size, 8, none⟩) (by simp; omega)
      simp at f8
      have fn0 := hb1.cell (p := ⟨w.heap.size + 1, 0, none⟩) (by simp)
      simp at fn0
      have fn1 := hb1.cell (p := ⟨w.heap.size + 1, 1, none⟩) (by simp)
      simp at fn1
      have fn2 := hb1.cell (p := ⟨w.heap.size + 1, 2, none⟩) (by simp)
      simp at fn2
      have zz := hb1.size
      simp at zz
      cases A
      · go_wp2
        go_ret
        exact ⟨ret_bool (by rw [HB2.out]; rfl), bb1⟩
      · go_wp2_with fail
        refine (HBv _).out.mono ?_
        rintro e w2 ⟨rfl, hb2⟩
        have bb2 := below_tr bb1 hb2
        have g0 := (hb2.cell (p := ⟨w.heap.size, 0, none⟩) (by show w.heap.size < _; omega)).trans f0
        have g1 := (hb2.cell (p := ⟨w.heap.size, 1, none⟩) (by show w.heap.size < _; omega)).trans f1
        have g2 := (hb2.cell (p := ⟨w.heap.size, 2, none⟩) (by show w.heap.size < _; omega)).trans f2
        cases B
        · go_wp2
          go_ret
          exact ⟨ret_bool (by rw [HB2.out]; rfl), bb2⟩
        · go_wp2
          all_goals
            go_ret
            exact ⟨ret_bool (by rw [HB2.out, Bool.eq_iff_iff]; simp_all), bb2⟩
  · have HB2 := Lib.hid (show cellB m ⟨k, n, s, a, b⟩ = (valB m a && (noneB b && ((decide (k = 3 ∨ k = 4) || decide (n = 0)) && (decide (k = 1) || decide (s.toList = []))))) from by rw [HB.out]; rcases hk with rfl | rfl | rfl | rfl <;> simp [cellBB])
    clear HB HBv
    obtain ⟨bk, bn, bs⟩ := b
    simp only at hsb
    generalize valB m a = A at *
    rcases hk with rfl | rfl | rfl | rfl
    all_goals
      go_enter Tryd.func22, Tryd.ntmps22
      go_wp2_with fail
      refine (HA _).out.mono ?_
      rintro e w1 ⟨rfl, hb1⟩
      have bb1 := below_tr (Joins.below_alloc2 w _ _) hb1
      have f0 := hb1.cell (p := ⟨w.heap.size, 0, none⟩) (by simp; omega)
      simp at f0
      have f1 := hb1.cell (p := ⟨w.heap.size, 1, none⟩) (by simp; omega)
      simp at f1
      have f2 := hb1.cell (p := ⟨w.heap.size, 2, none⟩) (by simp; omega)
      simp at f2
      have f6 := hb1.cell (p := ⟨w.heap.size, 6, none⟩) (by simp; omega)
      simp at f6
      have f7 := hb1.cell (p := ⟨w.heap.size, 7, none⟩) (by simp; omega)
      simp at f7
      have f8 := hb1.cell (p := ⟨w.heap.size, 8, none⟩) (by simp; omega)
      simp at f8
      have fn0 := hb1.cell (p := ⟨w.heap.size + 1, 0, none⟩) (by simp)
      simp at fn0
      have fn1 := hb1.cell (p := ⟨w.heap.size + 1, 1, none⟩) (by simp)
      simp at fn1
      have fn2 := hb1.cell (p := ⟨w.heap.size + 1, 2, none⟩) (by simp)
      simp at fn2
      have zz := hb1.size
      simp at zz
      cases A
      · go_wp2
        go_ret
        exact ⟨ret_bool (by rw [HB2.out]; rfl), bb1⟩
      · go_wp2
        all_goals
          go_ret
          exact ⟨ret_bool (by rw [HB2.out, Bool.eq_iff_iff]; simp_all [noneB]), bb1⟩
end Go.Proofs.YtdhpmblhejcehaaDoor
