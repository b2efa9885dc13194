/- How much came in, by program (tools/gendeep.py). -/
import Derived.Test.YtcllifmaokldbaaDoorData
import Derived.Test.YtcllifmaokldbaaDoorRows
import Derived.WalkKit
import Derived.WalkSmall
import Derived.ProofKit
import Derived.OpenShut
import Derived.Lib.Hide
import Derived.Lib.SmallJoins
import Derived.StillTailTactics
import Derived.Deep.QuietTactic
import Derived.BigQuiet
import Derived.Outline
namespace Go.Proofs.YtcllifmaokldbaaDoor
set_option linter.unusedVariables false
set_option maxRecDepth 100000
open Go.ChangeShapes Go.WideShapes Go.ChangeAt Go.RowKit
/-- What is left over, or -1. -/
def SzPost (b : Nat) (left : Nat) (w : World) (e : Ending) (w' : World) : Prop :=
  Below w.heap.size w w' ∧ ((e = .returned (.int .i64 (-1)) ∧ left < b) ∨ ∃ r : Nat, e = .returned (.int .i64 (r : Int)) ∧ r + b = left)
theorem SzPost.split {b left : Nat} {w w' : World} {e : Ending} (h : SzPost b left w e w') : Below w.heap.size w w' ∧ ((e = .returned (.int .i64 (-1)) ∧ left < b) ∨ ∃ r : Nat, e = .returned (.int .i64 (r : Int)) ∧ r + b = left) := h
theorem szIntS (l : List Int) (v : Value) (left : Nat) (w : World) (hL : left ≤ 1048576) (hR : RowRd 1 IntEl w v l) :
    Calls Tryd.prog 40 #[v, .int .i64 (left : Int)] w (SzPost (bulkL bInt l) left w) := by
  obtain ⟨a, cap, rfl, hm, hR⟩ := hR.form
  unfold maxLen at hm
  by_cases h0 : left < l.length
  · have hB := bulkL_len bInt l
    have hB := Lib.hid (show left < bulkL bInt l by omega)
    have h1 : (left : Int) - (l.length : Int) < 0 := by omega
    go_enter Tryd.func40, Tryd.ntmps40
    go_wp2
    go_ret
    exact ⟨Below.refl _ _, .inl ⟨rfl, hB.out⟩⟩
  · have h1 : ¬ (left : Int) - (l.length : Int) < 0 := by omega
    have hB := bulkL_int l
    have HB := Lib.hid hB
    clear hB
    have h0' : l.length ≤ left := by omega
    go_enter Tryd.func40, Tryd.ntmps40
    go_wp2
    go_ret
    exact ⟨Below.refl _ _, .inr ⟨left - l.length, ret_i (by omega), by rw [HB.out]; omega⟩⟩
theorem szPNode (x : PN) (v3 : Value) (left : Nat) (w : World) (hL : left ≤ 1048576) (hs2 : x.s.size ≤ maxLen) (r3 : RowRd 1 IntEl w v3 x.kids) :
    Calls Tryd.prog 20 #[.agg #[.int .i64 x.kind, .int .i64 x.n, .string x.s, v3], .int .i64 (left : Int)] w (SzPost (bPN x) left w) := by
  unfold maxLen at hs2
  obtain ⟨a3, ca3, e3, -, -⟩ := r3.form
  subst e3
  have hbx : bPN x = x.s.size + bulkL bInt x.kids := rfl
  have HB := Lib.hid hbx
  clear hbx
  by_cases g0 : left < x.s.size
  · have h1 : (left : Int) - (x.s.size : Int) < 0 := by omega
    go_enter Tryd.func20, Tryd.ntmps20
    go_wp2
    go_ret
    exact ⟨Joins.below_alloc1 w _, .inl ⟨rfl, by rw [HB.out]; omega⟩⟩
  have h1 : ¬ (left : Int) - (x.s.size : Int) < 0 := by omega
  have h1b : x.s.size ≤ left := by omega
  go_enter Tryd.func20, Tryd.ntmps20
  go_wp2_with fail
  rw [show (left : Int) - (x.s.size : Int) = ((left - x.s.size : Nat) : Int) from by omega]
  refine (szIntS x.kids _ (left - x.s.size) _ (by omega) (r3.kept IntEl.st (Kept.alloc _ _))).mono ?_
  rintro e w1 ⟨hb1, ⟨rfl, hx1⟩ | ⟨q1, rfl, hx1⟩⟩
  · go_wp2
    go_ret
    exact ⟨below_tr (Joins.below_alloc1 w _) hb1, .inl ⟨rfl, by rw [HB.out]; omega⟩⟩
  go_wp2
  go_ret
  exact ⟨below_tr (Joins.below_alloc1 w _) hb1, .inr ⟨q1, rfl, by rw [HB.out]; omega⟩⟩
theorem szPNodeS (l : List PN) (v : Value) (left : Nat) (w : World) (hL : left ≤ 1048576) (hR : RowRd 4 PNEl w v l) :
    Calls Tryd.prog 9 #[v, .int .i64 (left : Int)] w (SzPost (bulkL bPN l) left w) := by
  obtain ⟨a, cap, rfl, hm, hR⟩ := hR.form
  unfold maxLen at hm
  by_cases h0 : left < l.length
  · have hB := bulkL_len bPN l
    have hB := Lib.hid (show left < bulkL bPN l by omega)
    have h1 : (left : Int) - (l.length : Int) < 0 := by omega
    go_enter Tryd.func9, Tryd.ntmps9
    go_wp2
    go_ret
    exact ⟨Below.refl _ _, .inl ⟨rfl, hB.out⟩⟩
  · have h1 : ¬ (left : Int) - (l.length : Int) < 0 := by omega
    have h0' : l.length ≤ left := by omega
    have hlm := bulkL_len bPN l
    go_enter Tryd.func9, Tryd.ntmps9
    go_wp2
    go_loopw [1, 5] (fun m i wr => ∃ j q : Nat, i = .int .i64 j ∧ m = .int .i64 (q : Int) ∧ q + (bulkL bPN (l.take j) - j + l.length) = left ∧ j ≤ bulkL bPN (l.take j) ∧ j ≤ l.length ∧ Below w.heap.size w wr) (fun _ i _ => l.length - (intOf i).toNat)
    case atStart => exact ⟨0, left - l.length, rfl, by rw [show ((left - l.length : Nat) : Int) = (left : Int) - (l.length : Int) from by omega], by simp [bulkL]; omega, Nat.zero_le _, Nat.zero_le _, Below.refl _ _⟩
    case round =>
      obtain ⟨j, m, rfl, rfl, hq, hjq, hj, hbel⟩ := hrel
      by_cases hlt : j < l.length
      · have hcnt := bulkL_take bPN l j hlt
        have hall := bulkL_take_le bPN l (j + 1)
        obtain ⟨b, o, rfl, hbw, hc⟩ := hR (by omega)
        have ex := PNEl.st w wr b _ _ (Kept.of_below hbel) hbw (hc j (by omega))
        clear hc hR
        have HC := Lib.hid hcnt
        have HQ := Lib.hid hq
        have HA := Lib.hid hall
        have hmL : m ≤ 1048576 := by omega
        clear hcnt hq hlm hall
        generalize l[j] = x at *
        obtain ⟨⟨e0, i0⟩, ⟨e1, i1⟩, ⟨e2, i2⟩, ⟨v3, e3, r3⟩⟩ := ex
        obtain ⟨a3, ca3, rfl, -, -⟩ := r3.form
        go_wp2_with fail
        refine (szPNode x _ m _ hmL i2 r3).mono ?_
        rintro e w1 ⟨hb1, ⟨rfl, hx⟩ | ⟨q, rfl, hx⟩⟩
        · go_wp2
          go_ret
          exact ⟨below_tr hbel hb1, .inl ⟨rfl, by have := HC.out; have := HQ.out; have := HA.out; have := bulkL_take_len bPN l (j + 1) (by omega); omega⟩⟩
        · go_wp2
          go_roundw
          case rel => exact ⟨j + 1, q, by go_num, rfl, by have := HC.out; have := HQ.out; omega, by have := HC.out; omega, by omega, below_tr hbel hb1⟩
          case measure => simp [intOf]; omega
      · obtain rfl : j = l.length := by omega
        rw [List.take_length] at hq hjq
        go_wp2
        go_ret
        exact ⟨hbel, .inr ⟨m, rfl, by omega⟩⟩
theorem szPat (x : List PN) (v0 : Value) (left : Nat) (w : World) (hL : left ≤ 1048576) (r0 : RowRd 4 PNEl w v0 x) :
    Calls Tryd.prog 4 #[.agg #[v0], .int .i64 (left : Int)] w (SzPost (bPat x) left w) := by
  obtain ⟨a0, ca0, e0, -, -⟩ := r0.form
  subst e0
  have hbx : bPat x = bulkL bPN x := rfl
  have HB := Lib.hid hbx
  clear hbx
  go_enter Tryd.func4, Tryd.ntmps4
  go_wp2_with fail
  refine (szPNodeS x _ left _ (by omega) (r0.kept PNEl.st (Kept.alloc _ _))).mono ?_
  rintro e w1 ⟨hb1, ⟨rfl, hx1⟩ | ⟨q1, rfl, hx1⟩⟩
  · go_wp2
    go_ret
    exact ⟨below_tr (Joins.below_alloc1 w _) hb1, .inl ⟨rfl, by rw [HB.out]; omega⟩⟩
  go_wp2
  go_ret
  exact ⟨below_tr (Joins.below_alloc1 w _) hb1, .inr ⟨q1, rfl, by rw [HB.out]; omega⟩⟩
end Go.Proofs.YtcllifmaokldbaaDoor
