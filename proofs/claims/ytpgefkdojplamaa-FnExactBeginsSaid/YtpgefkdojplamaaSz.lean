/- How much came in, by program (tools/gendeep.py). -/
import Derived.Test.YtpgefkdojplamaaData
import Derived.Test.YtpgefkdojplamaaRows
import Derived.WalkKit
import Derived.WalkSmall
import Derived.ProofKit
import Derived.OpenShut
import Derived.Lib.Hide
import Derived.Lib.SmallJoins
import Derived.StillTailTactics
import Derived.Deep.QuietTactic
import Derived.BigQuiet
import Derived.Outline
namespace Go.Proofs.Ytpgefkdojplamaa
set_option linter.unusedVariables false
set_option maxRecDepth 100000
open Go.ChangeShapes Go.WideShapes Go.ChangeAt Go.RowKit
/-- What is left over, or -1. -/
def SzPost (b : Nat) (left : Nat) (w : World) (e : Ending) (w' : World) : Prop :=
  Below w.heap.size w w' ∧ ((e = .returned (.int .i64 (-1)) ∧ left < b) ∨ ∃ r : Nat, e = .returned (.int .i64 (r : Int)) ∧ r + b = left)
theorem SzPost.split {b left : Nat} {w w' : World} {e : Ending} (h : SzPost b left w e w') : Below w.heap.size w w' ∧ ((e = .returned (.int .i64 (-1)) ∧ left < b) ∨ ∃ r : Nat, e = .returned (.int .i64 (r : Int)) ∧ r + b = left) := h
theorem szStringS (l : List ByteArray) (v : Value) (left : Nat) (w : World) (hL : left ≤ 1048576) (hR : RowRd 1 StrEl w v l) :
    Calls Try.prog 12 #[v, .int .i64 (left : Int)] w (SzPost (bulkL bStr l) left w) := by
  obtain ⟨a, cap, rfl, hm, hR⟩ := hR.form
  unfold maxLen at hm
  by_cases h0 : left < l.length
  · have hB := bulkL_len bStr l
    have hB := Lib.hid (show left < bulkL bStr l by omega)
    have h1 : (left : Int) - (l.length : Int) < 0 := by omega
    go_enter Try.func12, Try.ntmps12
    go_wp2
    go_ret
    exact ⟨Below.refl _ _, .inl ⟨rfl, hB.out⟩⟩
  · have h1 : ¬ (left : Int) - (l.length : Int) < 0 := by omega
    have h0' : l.length ≤ left := by omega
    have hlm := bulkL_len bStr l
    go_enter Try.func12, Try.ntmps12
    go_wp2
    go_loopw [1, 5] (fun m i wr => ∃ j q : Nat, i = .int .i64 j ∧ m = .int .i64 (q : Int) ∧ q + (bulkL bStr (l.take j) - j + l.length) = left ∧ j ≤ bulkL bStr (l.take j) ∧ j ≤ l.length ∧ Below w.heap.size w wr) (fun _ i _ => l.length - (intOf i).toNat)
    case atStart => exact ⟨0, left - l.length, rfl, by rw [show ((left - l.length : Nat) : Int) = (left : Int) - (l.length : Int) from by omega], by simp [bulkL]; omega, Nat.zero_le _, Nat.zero_le _, Below.refl _ _⟩
    case round =>
      obtain ⟨j, m, rfl, rfl, hq, hjq, hj, hbel⟩ := hrel
      by_cases hlt : j < l.length
      · have hcnt := bulkL_take bStr l j hlt
        have hall := bulkL_take_le bStr l (j + 1)
        obtain ⟨b, o, rfl, hbw, hc⟩ := hR (by omega)
        have ex := StrEl.st w wr b _ _ (Kept.of_below hbel) hbw (hc j (by omega))
        clear hc hR
        have HC := Lib.hid hcnt
        have HQ := Lib.hid hq
        have HA := Lib.hid hall
        have hmL : m ≤ 1048576 := by omega
        clear hcnt hq hlm hall
        generalize l[j] = x at *
        obtain ⟨e0, i0⟩ := ex
        unfold maxLen at i0
        rw [Nat.mul_one] at e0
        have HS := Lib.hid (show bStr x = x.size from rfl)
        by_cases hx : m < x.size
        · have h2 : (m : Int) - (x.size : Int) < 0 := by omega
          go_wp2
          go_ret
          exact ⟨hbel, .inl ⟨rfl, by have := HS.out; have := HC.out; have := HQ.out; have := HA.out; have := bulkL_take_len bStr l (j + 1) (by omega); omega⟩⟩
        · have h2 : ¬ (m : Int) - (x.size : Int) < 0 := by omega
          go_wp2
          go_roundw
          case rel => exact ⟨j + 1, m - x.size, by go_num, by rw [show ((m - x.size : Nat) : Int) = (m : Int) - (x.size : Int) from by omega], by have := HS.out; have := HC.out; have := HQ.out; omega, by have := HC.out; omega, by omega, hbel⟩
          case measure => simp [intOf]; omega
      · obtain rfl : j = l.length := by omega
        rw [List.take_length] at hq hjq
        go_wp2
        go_ret
        exact ⟨hbel, .inr ⟨m, rfl, by omega⟩⟩
theorem szOutcome (x : Oc) (v2 : Value) (left : Nat) (w : World) (hL : left ≤ 1048576) (r2 : RowRd 1 StrEl w v2 x.trace) :
    Calls Try.prog 5 #[.agg #[.int .i64 x.kind, .int .i64 x.n, v2, .int .i64 x.steps], .int .i64 (left : Int)] w (SzPost (bOc x) left w) := by
  obtain ⟨a2, ca2, e2, -, -⟩ := r2.form
  subst e2
  have hbx : bOc x = bulkL bStr x.trace := rfl
  have HB := Lib.hid hbx
  clear hbx
  go_enter Try.func5, Try.ntmps5
  go_wp2_with fail
  refine (szStringS x.trace _ left _ (by omega) (r2.kept StrEl.st (Kept.alloc _ _))).mono ?_
  rintro e w1 ⟨hb1, ⟨rfl, hx1⟩ | ⟨q1, rfl, hx1⟩⟩
  · go_wp2
    go_ret
    exact ⟨below_tr (Joins.below_alloc1 w _) hb1, .inl ⟨rfl, by rw [HB.out]; omega⟩⟩
  go_wp2
  go_ret
  exact ⟨below_tr (Joins.below_alloc1 w _) hb1, .inr ⟨q1, rfl, by rw [HB.out]; omega⟩⟩
end Go.Proofs.Ytpgefkdojplamaa
