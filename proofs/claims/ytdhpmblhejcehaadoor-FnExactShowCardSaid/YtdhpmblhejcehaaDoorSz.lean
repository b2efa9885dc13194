/- How much came in, by program (tools/gendeep.py). -/
import Derived.Test.YtdhpmblhejcehaaDoorData
import Derived.Test.YtdhpmblhejcehaaDoorRows
import Derived.WalkKit
import Derived.WalkSmall
import Derived.ProofKit
import Derived.OpenShut
import Derived.Lib.Hide
import Derived.Lib.SmallJoins
import Derived.StillTailTactics
import Derived.Deep.QuietTactic
import Derived.BigQuiet
import Derived.Outline
namespace Go.Proofs.YtdhpmblhejcehaaDoor
set_option linter.unusedVariables false
set_option maxRecDepth 100000
open Go.ChangeShapes Go.WideShapes Go.ChangeAt Go.RowKit
/-- What is left over, or -1. -/
def SzPost (b : Nat) (left : Nat) (w : World) (e : Ending) (w' : World) : Prop :=
  Below w.heap.size w w' ∧ ((e = .returned (.int .i64 (-1)) ∧ left < b) ∨ ∃ r : Nat, e = .returned (.int .i64 (r : Int)) ∧ r + b = left)
theorem SzPost.split {b left : Nat} {w w' : World} {e : Ending} (h : SzPost b left w e w') : Below w.heap.size w w' ∧ ((e = .returned (.int .i64 (-1)) ∧ left < b) ∨ ∃ r : Nat, e = .returned (.int .i64 (r : Int)) ∧ r + b = left) := h
theorem szVal (x : Vl) (left : Nat) (w : World) (hL : left ≤ 1048576) (hs2 : x.s.size ≤ maxLen) :
    Calls Tryd.prog 13 #[.agg #[.int .i64 x.kind, .int .i64 x.n, .string x.s], .int .i64 (left : Int)] w (SzPost (bVl x) left w) := by
  unfold maxLen at hs2
  have hbx : bVl x = x.s.size := rfl
  have HB := Lib.hid hbx
  clear hbx
  by_cases g0 : left < x.s.size
  · have h1 : (left : Int) - (x.s.size : Int) < 0 := by omega
    go_enter Tryd.func13, Tryd.ntmps13
    go_wp2
    go_ret
    exact ⟨Joins.below_alloc1 w _, .inl ⟨rfl, by rw [HB.out]; omega⟩⟩
  have h1 : ¬ (left : Int) - (x.s.size : Int) < 0 := by omega
  have h1b : x.s.size ≤ left := by omega
  go_enter Tryd.func13, Tryd.ntmps13
  go_wp2
  go_ret
  exact ⟨Joins.below_alloc1 w _, .inr ⟨left - x.s.size, ret_i (by omega), by rw [HB.out]; omega⟩⟩
theorem szCell (x : Ce) (left : Nat) (w : World) (hL : left ≤ 1048576) (hs2 : x.s.size ≤ maxLen) (hs5 : x.a.s.size ≤ maxLen) (hs8 : x.b.s.size ≤ maxLen) :
    Calls Tryd.prog 33 #[.agg #[.int .i64 x.kind, .int .i64 x.n, .string x.s, .int .i64 x.a.kind, .int .i64 x.a.n, .string x.a.s, .int .i64 x.b.kind, .int .i64 x.b.n, .string x.b.s], .int .i64 (left : Int)] w (SzPost (bCe x) left w) := by
  unfold maxLen at hs2
  unfold maxLen at hs5
  unfold maxLen at hs8
  have hbx : bCe x = x.s.size + bVl x.a + bVl x.b := rfl
  have HB := Lib.hid hbx
  clear hbx
  by_cases g0 : left < x.s.size
  · have h1 : (left : Int) - (x.s.size : Int) < 0 := by omega
    go_enter Tryd.func33, Tryd.ntmps33
    go_wp2
    go_ret
    exact ⟨Joins.below_alloc1 w _, .inl ⟨rfl, by rw [HB.out]; omega⟩⟩
  have h1 : ¬ (left : Int) - (x.s.size : Int) < 0 := by omega
  have h1b : x.s.size ≤ left := by omega
  go_enter Tryd.func33, Tryd.ntmps33
  go_wp2_with fail
  rw [show (left : Int) - (x.s.size : Int) = ((left - x.s.size : Nat) : Int) from by omega]
  refine (szVal x.a (left - x.s.size) _ (by omega) hs5).mono ?_
  rintro e w1 ⟨hb1, ⟨rfl, hx1⟩ | ⟨q1, rfl, hx1⟩⟩
  · go_wp2
    go_ret
    exact ⟨below_tr (Joins.below_alloc1 w _) hb1, .inl ⟨rfl, by rw [HB.out]; omega⟩⟩
  obtain ⟨hc1, hf1⟩ := bcell hb1
  go_wp2_with fail
  refine (szVal x.b q1 _ (by omega) hs8).mono ?_
  rintro e w2 ⟨hb2, ⟨rfl, hx2⟩ | ⟨q2, rfl, hx2⟩⟩
  · go_wp2
    go_ret
    exact ⟨below_tr (below_tr (Joins.below_alloc1 w _) hb1) hb2, .inl ⟨rfl, by rw [HB.out]; omega⟩⟩
  go_wp2
  go_ret
  exact ⟨below_tr (below_tr (Joins.below_alloc1 w _) hb1) hb2, .inr ⟨q2, rfl, by rw [HB.out]; omega⟩⟩
theorem szCellS (l : List Ce) (v : Value) (left : Nat) (w : World) (hL : left ≤ 1048576) (hR : RowRd 9 CeEl w v l) :
    Calls Tryd.prog 12 #[v, .int .i64 (left : Int)] w (SzPost (bulkL bCe l) left w) := by
  obtain ⟨a, cap, rfl, hm, hR⟩ := hR.form
  unfold maxLen at hm
  by_cases h0 : left < l.length
  · have hB := bulkL_len bCe l
    have hB := Lib.hid (show left < bulkL bCe l by omega)
    have h1 : (left : Int) - (l.length : Int) < 0 := by omega
    go_enter Tryd.func12, Tryd.ntmps12
    go_wp2
    go_ret
    exact ⟨Below.refl _ _, .inl ⟨rfl, hB.out⟩⟩
  · have h1 : ¬ (left : Int) - (l.length : Int) < 0 := by omega
    have h0' : l.length ≤ left := by omega
    have hlm := bulkL_len bCe l
    go_enter Tryd.func12, Tryd.ntmps12
    go_wp2
    go_loopw [1, 5] (fun m i wr => ∃ j q : Nat, i = .int .i64 j ∧ m = .int .i64 (q : Int) ∧ q + (bulkL bCe (l.take j) - j + l.length) = left ∧ j ≤ bulkL bCe (l.take j) ∧ j ≤ l.length ∧ Below w.heap.size w wr) (fun _ i _ => l.length - (intOf i).toNat)
    case atStart => exact ⟨0, left - l.length, rfl, by rw [show ((left - l.length : Nat) : Int) = (left : Int) - (l.length : Int) from by omega], by simp [bulkL]; omega, Nat.zero_le _, Nat.zero_le _, Below.refl _ _⟩
    case round =>
      obtain ⟨j, m, rfl, rfl, hq, hjq, hj, hbel⟩ := hrel
      by_cases hlt : j < l.length
      · have hcnt := bulkL_take bCe l j hlt
        have hall := bulkL_take_le bCe l (j + 1)
        obtain ⟨b, o, rfl, hbw, hc⟩ := hR (by omega)
        have ex := CeEl.st w wr b _ _ (Kept.of_below hbel) hbw (hc j (by omega))
        clear hc hR
        have HC := Lib.hid hcnt
        have HQ := Lib.hid hq
        have HA := Lib.hid hall
        have hmL : m ≤ 1048576 := by omega
        clear hcnt hq hlm hall
        generalize l[j] = x at *
        obtain ⟨⟨e0, i0⟩, ⟨e1, i1⟩, ⟨e2, i2⟩, ⟨⟨e3, i3⟩, ⟨e4, i4⟩, ⟨e5, i5⟩⟩, ⟨⟨e6, i6⟩, ⟨e7, i7⟩, ⟨e8, i8⟩⟩⟩ := ex
        go_wp2_with fail
        refine (szCell x m _ hmL i2 i5 i8).mono ?_
        rintro e w1 ⟨hb1, ⟨rfl, hx⟩ | ⟨q, rfl, hx⟩⟩
        · go_wp2
          go_ret
          exact ⟨below_tr hbel hb1, .inl ⟨rfl, by have := HC.out; have := HQ.out; have := HA.out; have := bulkL_take_len bCe l (j + 1) (by omega); omega⟩⟩
        · go_wp2
          go_roundw
          case rel => exact ⟨j + 1, q, by go_num, rfl, by have := HC.out; have := HQ.out; omega, by have := HC.out; omega, by omega, below_tr hbel hb1⟩
          case measure => simp [intOf]; omega
      · obtain rfl : j = l.length := by omega
        rw [List.take_length] at hq hjq
        go_wp2
        go_ret
        exact ⟨hbel, .inr ⟨m, rfl, by omega⟩⟩
end Go.Proofs.YtdhpmblhejcehaaDoor
