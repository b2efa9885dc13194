/- How much came in, by program (tools/gendeep.py). -/
import Derived.Test.YtilincaedjhnpaaGreatData
import Derived.Test.YtilincaedjhnpaaGreatRows
import Derived.WalkKit
import Derived.WalkSmall
import Derived.ProofKit
import Derived.OpenShut
import Derived.Lib.Hide
import Derived.Lib.SmallJoins
import Derived.StillTailTactics
import Derived.Deep.QuietTactic
import Derived.BigQuiet
import Derived.Outline
namespace Go.Proofs.YtilincaedjhnpaaGreat
set_option linter.unusedVariables false
set_option maxRecDepth 100000
open Go.ChangeShapes Go.WideShapes Go.ChangeAt Go.RowKit
/-- What is left over, or -1. -/
def SzPost (b : Nat) (left : Nat) (w : World) (e : Ending) (w' : World) : Prop :=
  Below w.heap.size w w' ∧ ((e = .returned (.int .i64 (-1)) ∧ left < b) ∨ ∃ r : Nat, e = .returned (.int .i64 (r : Int)) ∧ r + b = left)
theorem SzPost.split {b left : Nat} {w w' : World} {e : Ending} (h : SzPost b left w e w') : Below w.heap.size w w' ∧ ((e = .returned (.int .i64 (-1)) ∧ left < b) ∨ ∃ r : Nat, e = .returned (.int .i64 (r : Int)) ∧ r + b = left) := h
theorem szIntS (l : List Int) (v : Value) (left : Nat) (w : World) (hL : left ≤ 1048576) (hR : RowRd 1 IntEl w v l) :
    Calls Tryz.prog 44 #[v, .int .i64 (left : Int)] w (SzPost (bulkL bInt l) left w) := by
  obtain ⟨a, cap, rfl, hm, hR⟩ := hR.form
  unfold maxLen at hm
  by_cases h0 : left < l.length
  · have hB := bulkL_len bInt l
    have hB := Lib.hid (show left < bulkL bInt l by omega)
    have h1 : (left : Int) - (l.length : Int) < 0 := by omega
    go_enter Tryz.func44, Tryz.ntmps44
    go_wp2
    go_ret
    exact ⟨Below.refl _ _, .inl ⟨rfl, hB.out⟩⟩
  · have h1 : ¬ (left : Int) - (l.length : Int) < 0 := by omega
    have hB := bulkL_int l
    have HB := Lib.hid hB
    clear hB
    have h0' : l.length ≤ left := by omega
    go_enter Tryz.func44, Tryz.ntmps44
    go_wp2
    go_ret
    exact ⟨Below.refl _ _, .inr ⟨left - l.length, ret_i (by omega), by rw [HB.out]; omega⟩⟩
theorem szTyItem (x : TyI) (left : Nat) (w : World) (hL : left ≤ 1048576) (hs1 : x.name.size ≤ maxLen) :
    Calls Tryz.prog 146 #[.agg #[.int .i64 x.var, .string x.name, .int .i64 x.arity], .int .i64 (left : Int)] w (SzPost (bTyI x) left w) := by
  unfold maxLen at hs1
  have hbx : bTyI x = x.name.size := rfl
  have HB := Lib.hid hbx
  clear hbx
  by_cases g0 : left < x.name.size
  · have h1 : (left : Int) - (x.name.size : Int) < 0 := by omega
    go_enter Tryz.func146, Tryz.ntmps146
    go_wp2
    go_ret
    exact ⟨Joins.below_alloc1 w _, .inl ⟨rfl, by rw [HB.out]; omega⟩⟩
  have h1 : ¬ (left : Int) - (x.name.size : Int) < 0 := by omega
  have h1b : x.name.size ≤ left := by omega
  go_enter Tryz.func146, Tryz.ntmps146
  go_wp2
  go_ret
  exact ⟨Joins.below_alloc1 w _, .inr ⟨left - x.name.size, ret_i (by omega), by rw [HB.out]; omega⟩⟩
theorem szTyItemS (l : List TyI) (v : Value) (left : Nat) (w : World) (hL : left ≤ 1048576) (hR : RowRd 3 TyIEl w v l) :
    Calls Tryz.prog 130 #[v, .int .i64 (left : Int)] w (SzPost (bulkL bTyI l) left w) := by
  obtain ⟨a, cap, rfl, hm, hR⟩ := hR.form
  unfold maxLen at hm
  by_cases h0 : left < l.length
  · have hB := bulkL_len bTyI l
    have hB := Lib.hid (show left < bulkL bTyI l by omega)
    have h1 : (left : Int) - (l.length : Int) < 0 := by omega
    go_enter Tryz.func130, Tryz.ntmps130
    go_wp2
    go_ret
    exact ⟨Below.refl _ _, .inl ⟨rfl, hB.out⟩⟩
  · have h1 : ¬ (left : Int) - (l.length : Int) < 0 := by omega
    have h0' : l.length ≤ left := by omega
    have hlm := bulkL_len bTyI l
    go_enter Tryz.func130, Tryz.ntmps130
    go_wp2
    go_loopw [1, 5] (fun m i wr => ∃ j q : Nat, i = .int .i64 j ∧ m = .int .i64 (q : Int) ∧ q + (bulkL bTyI (l.take j) - j + l.length) = left ∧ j ≤ bulkL bTyI (l.take j) ∧ j ≤ l.length ∧ Below w.heap.size w wr) (fun _ i _ => l.length - (intOf i).toNat)
    case atStart => exact ⟨0, left - l.length, rfl, by rw [show ((left - l.length : Nat) : Int) = (left : Int) - (l.length : Int) from by omega], by simp [bulkL]; omega, Nat.zero_le _, Nat.zero_le _, Below.refl _ _⟩
    case round =>
      obtain ⟨j, m, rfl, rfl, hq, hjq, hj, hbel⟩ := hrel
      by_cases hlt : j < l.length
      · have hcnt := bulkL_take bTyI l j hlt
        have hall := bulkL_take_le bTyI l (j + 1)
        obtain ⟨b, o, rfl, hbw, hc⟩ := hR (by omega)
        have ex := TyIEl.st w wr b _ _ (Kept.of_below hbel) hbw (hc j (by omega))
        clear hc hR
        have HC := Lib.hid hcnt
        have HQ := Lib.hid hq
        have HA := Lib.hid hall
        have hmL : m ≤ 1048576 := by omega
        clear hcnt hq hlm hall
        generalize l[j] = x at *
        obtain ⟨⟨e0, i0⟩, ⟨e1, i1⟩, ⟨e2, i2⟩⟩ := ex
        go_wp2_with fail
        refine (szTyItem x m _ hmL i1).mono ?_
        rintro e w1 ⟨hb1, ⟨rfl, hx⟩ | ⟨q, rfl, hx⟩⟩
        · go_wp2
          go_ret
          exact ⟨below_tr hbel hb1, .inl ⟨rfl, by have := HC.out; have := HQ.out; have := HA.out; have := bulkL_take_len bTyI l (j + 1) (by omega); omega⟩⟩
        · go_wp2
          go_roundw
          case rel => exact ⟨j + 1, q, by go_num, rfl, by have := HC.out; have := HQ.out; omega, by have := HC.out; omega, by omega, below_tr hbel hb1⟩
          case measure => simp [intOf]; omega
      · obtain rfl : j = l.length := by omega
        rw [List.take_length] at hq hjq
        go_wp2
        go_ret
        exact ⟨hbel, .inr ⟨m, rfl, by omega⟩⟩
theorem szTy (x : List TyI) (v0 : Value) (left : Nat) (w : World) (hL : left ≤ 1048576) (r0 : RowRd 3 TyIEl w v0 x) :
    Calls Tryz.prog 106 #[.agg #[v0], .int .i64 (left : Int)] w (SzPost (bTy x) left w) := by
  obtain ⟨a0, ca0, e0, -, -⟩ := r0.form
  subst e0
  have hbx : bTy x = bulkL bTyI x := rfl
  have HB := Lib.hid hbx
  clear hbx
  go_enter Tryz.func106, Tryz.ntmps106
  go_wp2_with fail
  refine (szTyItemS x _ left _ (by omega) (r0.kept TyIEl.st (Kept.alloc _ _))).mono ?_
  rintro e w1 ⟨hb1, ⟨rfl, hx1⟩ | ⟨q1, rfl, hx1⟩⟩
  · go_wp2
    go_ret
    exact ⟨below_tr (Joins.below_alloc1 w _) hb1, .inl ⟨rfl, by rw [HB.out]; omega⟩⟩
  go_wp2
  go_ret
  exact ⟨below_tr (Joins.below_alloc1 w _) hb1, .inr ⟨q1, rfl, by rw [HB.out]; omega⟩⟩
theorem szPNode (x : PN) (v3 : Value) (left : Nat) (w : World) (hL : left ≤ 1048576) (hs2 : x.s.size ≤ maxLen) (r3 : RowRd 1 IntEl w v3 x.kids) :
    Calls Tryz.prog 131 #[.agg #[.int .i64 x.kind, .int .i64 x.n, .string x.s, v3], .int .i64 (left : Int)] w (SzPost (bPN x) left w) := by
  unfold maxLen at hs2
  obtain ⟨a3, ca3, e3, -, -⟩ := r3.form
  subst e3
  have hbx : bPN x = x.s.size + bulkL bInt x.kids := rfl
  have HB := Lib.hid hbx
  clear hbx
  by_cases g0 : left < x.s.size
  · have h1 : (left : Int) - (x.s.size : Int) < 0 := by omega
    go_enter Tryz.func131, Tryz.ntmps131
    go_wp2
    go_ret
    exact ⟨Joins.below_alloc1 w _, .inl ⟨rfl, by rw [HB.out]; omega⟩⟩
  have h1 : ¬ (left : Int) - (x.s.size : Int) < 0 := by omega
  have h1b : x.s.size ≤ left := by omega
  go_enter Tryz.func131, Tryz.ntmps131
  go_wp2_with fail
  rw [show (left : Int) - (x.s.size : Int) = ((left - x.s.size : Nat) : Int) from by omega]
  refine (szIntS x.kids _ (left - x.s.size) _ (by omega) (r3.kept IntEl.st (Kept.alloc _ _))).mono ?_
  rintro e w1 ⟨hb1, ⟨rfl, hx1⟩ | ⟨q1, rfl, hx1⟩⟩
  · go_wp2
    go_ret
    exact ⟨below_tr (Joins.below_alloc1 w _) hb1, .inl ⟨rfl, by rw [HB.out]; omega⟩⟩
  go_wp2
  go_ret
  exact ⟨below_tr (Joins.below_alloc1 w _) hb1, .inr ⟨q1, rfl, by rw [HB.out]; omega⟩⟩
theorem szPNodeS (l : List PN) (v : Value) (left : Nat) (w : World) (hL : left ≤ 1048576) (hR : RowRd 4 PNEl w v l) :
    Calls Tryz.prog 107 #[v, .int .i64 (left : Int)] w (SzPost (bulkL bPN l) left w) := by
  obtain ⟨a, cap, rfl, hm, hR⟩ := hR.form
  unfold maxLen at hm
  by_cases h0 : left < l.length
  · have hB := bulkL_len bPN l
    have hB := Lib.hid (show left < bulkL bPN l by omega)
    have h1 : (left : Int) - (l.length : Int) < 0 := by omega
    go_enter Tryz.func107, Tryz.ntmps107
    go_wp2
    go_ret
    exact ⟨Below.refl _ _, .inl ⟨rfl, hB.out⟩⟩
  · have h1 : ¬ (left : Int) - (l.length : Int) < 0 := by omega
    have h0' : l.length ≤ left := by omega
    have hlm := bulkL_len bPN l
    go_enter Tryz.func107, Tryz.ntmps107
    go_wp2
    go_loopw [1, 5] (fun m i wr => ∃ j q : Nat, i = .int .i64 j ∧ m = .int .i64 (q : Int) ∧ q + (bulkL bPN (l.take j) - j + l.length) = left ∧ j ≤ bulkL bPN (l.take j) ∧ j ≤ l.length ∧ Below w.heap.size w wr) (fun _ i _ => l.length - (intOf i).toNat)
    case atStart => exact ⟨0, left - l.length, rfl, by rw [show ((left - l.length : Nat) : Int) = (left : Int) - (l.length : Int) from by omega], by simp [bulkL]; omega, Nat.zero_le _, Nat.zero_le _, Below.refl _ _⟩
    case round =>
      obtain ⟨j, m, rfl, rfl, hq, hjq, hj, hbel⟩ := hrel
      by_cases hlt : j < l.length
      · have hcnt := bulkL_take bPN l j hlt
        have hall := bulkL_take_le bPN l (j + 1)
        obtain ⟨b, o, rfl, hbw, hc⟩ := hR (by omega)
        have ex := PNEl.st w wr b _ _ (Kept.of_below hbel) hbw (hc j (by omega))
        clear hc hR
        have HC := Lib.hid hcnt
        have HQ := Lib.hid hq
        have HA := Lib.hid hall
        have hmL : m ≤ 1048576 := by omega
        clear hcnt hq hlm hall
        generalize l[j] = x at *
        obtain ⟨⟨e0, i0⟩, ⟨e1, i1⟩, ⟨e2, i2⟩, ⟨v3, e3, r3⟩⟩ := ex
        obtain ⟨a3, ca3, rfl, -, -⟩ := r3.form
        go_wp2_with fail
        refine (szPNode x _ m _ hmL i2 r3).mono ?_
        rintro e w1 ⟨hb1, ⟨rfl, hx⟩ | ⟨q, rfl, hx⟩⟩
        · go_wp2
          go_ret
          exact ⟨below_tr hbel hb1, .inl ⟨rfl, by have := HC.out; have := HQ.out; have := HA.out; have := bulkL_take_len bPN l (j + 1) (by omega); omega⟩⟩
        · go_wp2
          go_roundw
          case rel => exact ⟨j + 1, q, by go_num, rfl, by have := HC.out; have := HQ.out; omega, by have := HC.out; omega, by omega, below_tr hbel hb1⟩
          case measure => simp [intOf]; omega
      · obtain rfl : j = l.length := by omega
        rw [List.take_length] at hq hjq
        go_wp2
        go_ret
        exact ⟨hbel, .inr ⟨m, rfl, by omega⟩⟩
theorem szPat (x : List PN) (v0 : Value) (left : Nat) (w : World) (hL : left ≤ 1048576) (r0 : RowRd 4 PNEl w v0 x) :
    Calls Tryz.prog 79 #[.agg #[v0], .int .i64 (left : Int)] w (SzPost (bPat x) left w) := by
  obtain ⟨a0, ca0, e0, -, -⟩ := r0.form
  subst e0
  have hbx : bPat x = bulkL bPN x := rfl
  have HB := Lib.hid hbx
  clear hbx
  go_enter Tryz.func79, Tryz.ntmps79
  go_wp2_with fail
  refine (szPNodeS x _ left _ (by omega) (r0.kept PNEl.st (Kept.alloc _ _))).mono ?_
  rintro e w1 ⟨hb1, ⟨rfl, hx1⟩ | ⟨q1, rfl, hx1⟩⟩
  · go_wp2
    go_ret
    exact ⟨below_tr (Joins.below_alloc1 w _) hb1, .inl ⟨rfl, by rw [HB.out]; omega⟩⟩
  go_wp2
  go_ret
  exact ⟨below_tr (Joins.below_alloc1 w _) hb1, .inr ⟨q1, rfl, by rw [HB.out]; omega⟩⟩
theorem szPatS (l : List (List PN)) (v : Value) (left : Nat) (w : World) (hL : left ≤ 1048576) (hR : RowRd 1 PatEl w v l) :
    Calls Tryz.prog 45 #[v, .int .i64 (left : Int)] w (SzPost (bulkL bPat l) left w) := by
  obtain ⟨a, cap, rfl, hm, hR⟩ := hR.form
  unfold maxLen at hm
  by_cases h0 : left < l.length
  · have hB := bulkL_len bPat l
    have hB := Lib.hid (show left < bulkL bPat l by omega)
    have h1 : (left : Int) - (l.length : Int) < 0 := by omega
    go_enter Tryz.func45, Tryz.ntmps45
    go_wp2
    go_ret
    exact ⟨Below.refl _ _, .inl ⟨rfl, hB.out⟩⟩
  · have h1 : ¬ (left : Int) - (l.length : Int) < 0 := by omega
    have h0' : l.length ≤ left := by omega
    have hlm := bulkL_len bPat l
    go_enter Tryz.func45, Tryz.ntmps45
    go_wp2
    go_loopw [1, 5] (fun m i wr => ∃ j q : Nat, i = .int .i64 j ∧ m = .int .i64 (q : Int) ∧ q + (bulkL bPat (l.take j) - j + l.length) = left ∧ j ≤ bulkL bPat (l.take j) ∧ j ≤ l.length ∧ Below w.heap.size w wr) (fun _ i _ => l.length - (intOf i).toNat)
    case atStart => exact ⟨0, left - l.length, rfl, by rw [show ((left - l.length : Nat) : Int) = (left : Int) - (l.length : Int) from by omega], by simp [bulkL]; omega, Nat.zero_le _, Nat.zero_le _, Below.refl _ _⟩
    case round =>
      obtain ⟨j, m, rfl, rfl, hq, hjq, hj, hbel⟩ := hrel
      by_cases hlt : j < l.length
      · have hcnt := bulkL_take bPat l j hlt
        have hall := bulkL_take_le bPat l (j + 1)
        obtain ⟨b, o, rfl, hbw, hc⟩ := hR (by omega)
        have ex := PatEl.st w wr b _ _ (Kept.of_below hbel) hbw (hc j (by omega))
        clear hc hR
        have HC := Lib.hid hcnt
        have HQ := Lib.hid hq
        have HA := Lib.hid hall
        have hmL : m ≤ 1048576 := by omega
        clear hcnt hq hlm hall
        generalize l[j] = x at *
        obtain ⟨v0, e0, r0⟩ := ex
        obtain ⟨a0, ca0, rfl, -, -⟩ := r0.form
        rw [Nat.mul_one] at e0
        go_wp2_with fail
        refine (szPat x _ m _ hmL r0).mono ?_
        rintro e w1 ⟨hb1, ⟨rfl, hx⟩ | ⟨q, rfl, hx⟩⟩
        · go_wp2
          go_ret
          exact ⟨below_tr hbel hb1, .inl ⟨rfl, by have := HC.out; have := HQ.out; have := HA.out; have := bulkL_take_len bPat l (j + 1) (by omega); omega⟩⟩
        · go_wp2
          go_roundw
          case rel => exact ⟨j + 1, q, by go_num, rfl, by have := HC.out; have := HQ.out; omega, by have := HC.out; omega, by omega, below_tr hbel hb1⟩
          case measure => simp [intOf]; omega
      · obtain rfl : j = l.length := by omega
        rw [List.take_length] at hq hjq
        go_wp2
        go_ret
        exact ⟨hbel, .inr ⟨m, rfl, by omega⟩⟩
theorem szCon (x : Cn) (v2 : Value) (left : Nat) (w : World) (hL : left ≤ 1048576) (hs0 : x.name.size ≤ maxLen) (r2 : RowRd 3 TyIEl w v2 x.arg) :
    Calls Tryz.prog 78 #[.agg #[.string x.name, .bool x.has, v2], .int .i64 (left : Int)] w (SzPost (bCn x) left w) := by
  unfold maxLen at hs0
  obtain ⟨a2, ca2, e2, -, -⟩ := r2.form
  subst e2
  have hbx : bCn x = x.name.size + bTy x.arg := rfl
  have HB := Lib.hid hbx
  clear hbx
  by_cases g0 : left < x.name.size
  · have h1 : (left : Int) - (x.name.size : Int) < 0 := by omega
    go_enter Tryz.func78, Tryz.ntmps78
    go_wp2
    go_ret
    exact ⟨Joins.below_alloc1 w _, .inl ⟨rfl, by rw [HB.out]; omega⟩⟩
  have h1 : ¬ (left : Int) - (x.name.size : Int) < 0 := by omega
  have h1b : x.name.size ≤ left := by omega
  go_enter Tryz.func78, Tryz.ntmps78
  go_wp2_with fail
  rw [show (left : Int) - (x.name.size : Int) = ((left - x.name.size : Nat) : Int) from by omega]
  refine (szTy x.arg _ (left - x.name.size) _ (by omega) (r2.kept TyIEl.st (Kept.alloc _ _))).mono ?_
  rintro e w1 ⟨hb1, ⟨rfl, hx1⟩ | ⟨q1, rfl, hx1⟩⟩
  · go_wp2
    go_ret
    exact ⟨below_tr (Joins.below_alloc1 w _) hb1, .inl ⟨rfl, by rw [HB.out]; omega⟩⟩
  go_wp2
  go_ret
  exact ⟨below_tr (Joins.below_alloc1 w _) hb1, .inr ⟨q1, rfl, by rw [HB.out]; omega⟩⟩
theorem szConS (l : List Cn) (v : Value) (left : Nat) (w : World) (hL : left ≤ 1048576) (hR : RowRd 3 CnEl w v l) :
    Calls Tryz.prog 43 #[v, .int .i64 (left : Int)] w (SzPost (bulkL bCn l) left w) := by
  obtain ⟨a, cap, rfl, hm, hR⟩ := hR.form
  unfold maxLen at hm
  by_cases h0 : left < l.length
  · have hB := bulkL_len bCn l
    have hB := Lib.hid (show left < bulkL bCn l by omega)
    have h1 : (left : Int) - (l.length : Int) < 0 := by omega
    go_enter Tryz.func43, Tryz.ntmps43
    go_wp2
    go_ret
    exact ⟨Below.refl _ _, .inl ⟨rfl, hB.out⟩⟩
  · have h1 : ¬ (left : Int) - (l.length : Int) < 0 := by omega
    have h0' : l.length ≤ left := by omega
    have hlm := bulkL_len bCn l
    go_enter Tryz.func43, Tryz.ntmps43
    go_wp2
    go_loopw [1, 5] (fun m i wr => ∃ j q : Nat, i = .int .i64 j ∧ m = .int .i64 (q : Int) ∧ q + (bulkL bCn (l.take j) - j + l.length) = left ∧ j ≤ bulkL bCn (l.take j) ∧ j ≤ l.length ∧ Below w.heap.size w wr) (fun _ i _ => l.length - (intOf i).toNat)
    case atStart => exact ⟨0, left - l.length, rfl, by rw [show ((left - l.length : Nat) : Int) = (left : Int) - (l.length : Int) from by omega], by simp [bulkL]; omega, Nat.zero_le _, Nat.zero_le _, Below.refl _ _⟩
    case round =>
      obtain ⟨j, m, rfl, rfl, hq, hjq, hj, hbel⟩ := hrel
      by_cases hlt : j < l.length
      · have hcnt := bulkL_take bCn l j hlt
        have hall := bulkL_take_le bCn l (j + 1)
        obtain ⟨b, o, rfl, hbw, hc⟩ := hR (by omega)
        have ex := CnEl.st w wr b _ _ (Kept.of_below hbel) hbw (hc j (by omega))
        clear hc hR
        have HC := Lib.hid hcnt
        have HQ := Lib.hid hq
        have HA := Lib.hid hall
        have hmL : m ≤ 1048576 := by omega
        clear hcnt hq hlm hall
        generalize l[j] = x at *
        obtain ⟨⟨e0, i0⟩, e1, ⟨v2, e2, r2⟩⟩ := ex
        unfold BoolEl at e1
        obtain ⟨a2, ca2, rfl, -, -⟩ := r2.form
        go_wp2_with fail
        refine (szCon x _ m _ hmL i0 r2).mono ?_
        rintro e w1 ⟨hb1, ⟨rfl, hx⟩ | ⟨q, rfl, hx⟩⟩
        · go_wp2
          go_ret
          exact ⟨below_tr hbel hb1, .inl ⟨rfl, by have := HC.out; have := HQ.out; have := HA.out; have := bulkL_take_len bCn l (j + 1) (by omega); omega⟩⟩
        · go_wp2
          go_roundw
          case rel => exact ⟨j + 1, q, by go_num, rfl, by have := HC.out; have := HQ.out; omega, by have := HC.out; omega, by omega, below_tr hbel hb1⟩
          case measure => simp [intOf]; omega
      · obtain rfl : j = l.length := by omega
        rw [List.take_length] at hq hjq
        go_wp2
        go_ret
        exact ⟨hbel, .inr ⟨m, rfl, by omega⟩⟩
theorem szType (x : Tp) (v2 : Value) (left : Nat) (w : World) (hL : left ≤ 1048576) (hs0 : x.name.size ≤ maxLen) (r2 : RowRd 3 CnEl w v2 x.cons) :
    Calls Tryz.prog 23 #[.agg #[.string x.name, .int .i64 x.params, v2], .int .i64 (left : Int)] w (SzPost (bTp x) left w) := by
  unfold maxLen at hs0
  obtain ⟨a2, ca2, e2, -, -⟩ := r2.form
  subst e2
  have hbx : bTp x = x.name.size + bulkL bCn x.cons := rfl
  have HB := Lib.hid hbx
  clear hbx
  by_cases g0 : left < x.name.size
  · have h1 : (left : Int) - (x.name.size : Int) < 0 := by omega
    go_enter Tryz.func23, Tryz.ntmps23
    go_wp2
    go_ret
    exact ⟨Joins.below_alloc1 w _, .inl ⟨rfl, by rw [HB.out]; omega⟩⟩
  have h1 : ¬ (left : Int) - (x.name.size : Int) < 0 := by omega
  have h1b : x.name.size ≤ left := by omega
  go_enter Tryz.func23, Tryz.ntmps23
  go_wp2_with fail
  rw [show (left : Int) - (x.name.size : Int) = ((left - x.name.size : Nat) : Int) from by omega]
  refine (szConS x.cons _ (left - x.name.size) _ (by omega) (r2.kept CnEl.st (Kept.alloc _ _))).mono ?_
  rintro e w1 ⟨hb1, ⟨rfl, hx1⟩ | ⟨q1, rfl, hx1⟩⟩
  · go_wp2
    go_ret
    exact ⟨below_tr (Joins.below_alloc1 w _) hb1, .inl ⟨rfl, by rw [HB.out]; omega⟩⟩
  go_wp2
  go_ret
  exact ⟨below_tr (Joins.below_alloc1 w _) hb1, .inr ⟨q1, rfl, by rw [HB.out]; omega⟩⟩
theorem szTypeS (l : List Tp) (v : Value) (left : Nat) (w : World) (hL : left ≤ 1048576) (hR : RowRd 3 TpEl w v l) :
    Calls Tryz.prog 12 #[v, .int .i64 (left : Int)] w (SzPost (bulkL bTp l) left w) := by
  obtain ⟨a, cap, rfl, hm, hR⟩ := hR.form
  unfold maxLen at hm
  by_cases h0 : left < l.length
  · have hB := bulkL_len bTp l
    have hB := Lib.hid (show left < bulkL bTp l by omega)
    have h1 : (left : Int) - (l.length : Int) < 0 := by omega
    go_enter Tryz.func12, Tryz.ntmps12
    go_wp2
    go_ret
    exact ⟨Below.refl _ _, .inl ⟨rfl, hB.out⟩⟩
  · have h1 : ¬ (left : Int) - (l.length : Int) < 0 := by omega
    have h0' : l.length ≤ left := by omega
    have hlm := bulkL_len bTp l
    go_enter Tryz.func12, Tryz.ntmps12
    go_wp2
    go_loopw [1, 5] (fun m i wr => ∃ j q : Nat, i = .int .i64 j ∧ m = .int .i64 (q : Int) ∧ q + (bulkL bTp (l.take j) - j + l.length) = left ∧ j ≤ bulkL bTp (l.take j) ∧ j ≤ l.length ∧ Below w.heap.size w wr) (fun _ i _ => l.length - (intOf i).toNat)
    case atStart => exact ⟨0, left - l.length, rfl, by rw [show ((left - l.length : Nat) : Int) = (left : Int) - (l.length : Int) from by omega], by simp [bulkL]; omega, Nat.zero_le _, Nat.zero_le _, Below.refl _ _⟩
    case round =>
      obtain ⟨j, m, rfl, rfl, hq, hjq, hj, hbel⟩ := hrel
      by_cases hlt : j < l.length
      · have hcnt := bulkL_take bTp l j hlt
        have hall := bulkL_take_le bTp l (j + 1)
        obtain ⟨b, o, rfl, hbw, hc⟩ := hR (by omega)
        have ex := TpEl.st w wr b _ _ (Kept.of_below hbel) hbw (hc j (by omega))
        clear hc hR
        have HC := Lib.hid hcnt
        have HQ := Lib.hid hq
        have HA := Lib.hid hall
        have hmL : m ≤ 1048576 := by omega
        clear hcnt hq hlm hall
        generalize l[j] = x at *
        obtain ⟨⟨e0, i0⟩, ⟨e1, i1⟩, ⟨v2, e2, r2⟩⟩ := ex
        obtain ⟨a2, ca2, rfl, -, -⟩ := r2.form
        go_wp2_with fail
        refine (szType x _ m _ hmL i0 r2).mono ?_
        rintro e w1 ⟨hb1, ⟨rfl, hx⟩ | ⟨q, rfl, hx⟩⟩
        · go_wp2
          go_ret
          exact ⟨below_tr hbel hb1, .inl ⟨rfl, by have := HC.out; have := HQ.out; have := HA.out; have := bulkL_take_len bTp l (j + 1) (by omega); omega⟩⟩
        · go_wp2
          go_roundw
          case rel => exact ⟨j + 1, q, by go_num, rfl, by have := HC.out; have := HQ.out; omega, by have := HC.out; omega, by omega, below_tr hbel hb1⟩
          case measure => simp [intOf]; omega
      · obtain rfl : j = l.length := by omega
        rw [List.take_length] at hq hjq
        go_wp2
        go_ret
        exact ⟨hbel, .inr ⟨m, rfl, by omega⟩⟩
theorem szNode (x : Nd) (v4 : Value) (v5 : Value) (left : Nat) (w : World) (hL : left ≤ 1048576) (hs3 : x.s.size ≤ maxLen) (r4 : RowRd 1 IntEl w v4 x.kids) (r5 : RowRd 1 PatEl w v5 x.pats) :
    Calls Tryz.prog 24 #[.agg #[.int .i64 x.kind, .int .i64 x.at_, .int .i64 x.n, .string x.s, v4, v5], .int .i64 (left : Int)] w (SzPost (bNd x) left w) := by
  unfold maxLen at hs3
  obtain ⟨a4, ca4, e4, -, -⟩ := r4.form
  subst e4
  obtain ⟨a5, ca5, e5, -, -⟩ := r5.form
  subst e5
  have hbx : bNd x = x.s.size + bulkL bInt x.kids + bulkL bPat x.pats := rfl
  have HB := Lib.hid hbx
  clear hbx
  by_cases g0 : left < x.s.size
  · have h1 : (left : Int) - (x.s.size : Int) < 0 := by omega
    go_enter Tryz.func24, Tryz.ntmps24
    go_wp2
    go_ret
    exact ⟨Joins.below_alloc1 w _, .inl ⟨rfl, by rw [HB.out]; omega⟩⟩
  have h1 : ¬ (left : Int) - (x.s.size : Int) < 0 := by omega
  have h1b : x.s.size ≤ left := by omega
  go_enter Tryz.func24, Tryz.ntmps24
  go_wp2_with fail
  rw [show (left : Int) - (x.s.size : Int) = ((left - x.s.size : Nat) : Int) from by omega]
  refine (szIntS x.kids _ (left - x.s.size) _ (by omega) (r4.kept IntEl.st (Kept.alloc _ _))).mono ?_
  rintro e w1 ⟨hb1, ⟨rfl, hx1⟩ | ⟨q1, rfl, hx1⟩⟩
  · go_wp2
    go_ret
    exact ⟨below_tr (Joins.below_alloc1 w _) hb1, .inl ⟨rfl, by rw [HB.out]; omega⟩⟩
  obtain ⟨hc1, hf1⟩ := bcell hb1
  go_wp2_with fail
  refine (szPatS x.pats _ q1 _ (by omega) (r5.kept PatEl.st ((Kept.alloc _ _).trans (Kept.of_below hb1)))).mono ?_
  rintro e w2 ⟨hb2, ⟨rfl, hx2⟩ | ⟨q2, rfl, hx2⟩⟩
  · go_wp2
    go_ret
    exact ⟨below_tr (below_tr (Joins.below_alloc1 w _) hb1) hb2, .inl ⟨rfl, by rw [HB.out]; omega⟩⟩
  go_wp2
  go_ret
  exact ⟨below_tr (below_tr (Joins.below_alloc1 w _) hb1) hb2, .inr ⟨q2, rfl, by rw [HB.out]; omega⟩⟩
theorem szNodeS (l : List Nd) (v : Value) (left : Nat) (w : World) (hL : left ≤ 1048576) (hR : RowRd 6 NdEl w v l) :
    Calls Tryz.prog 13 #[v, .int .i64 (left : Int)] w (SzPost (bulkL bNd l) left w) := by
  obtain ⟨a, cap, rfl, hm, hR⟩ := hR.form
  unfold maxLen at hm
  by_cases h0 : left < l.length
  · have hB := bulkL_len bNd l
    have hB := Lib.hid (show left < bulkL bNd l by omega)
    have h1 : (left : Int) - (l.length : Int) < 0 := by omega
    go_enter Tryz.func13, Tryz.ntmps13
    go_wp2
    go_ret
    exact ⟨Below.refl _ _, .inl ⟨rfl, hB.out⟩⟩
  · have h1 : ¬ (left : Int) - (l.length : Int) < 0 := by omega
    have h0' : l.length ≤ left := by omega
    have hlm := bulkL_len bNd l
    go_enter Tryz.func13, Tryz.ntmps13
    go_wp2
    go_loopw [1, 5] (fun m i wr => ∃ j q : Nat, i = .int .i64 j ∧ m = .int .i64 (q : Int) ∧ q + (bulkL bNd (l.take j) - j + l.length) = left ∧ j ≤ bulkL bNd (l.take j) ∧ j ≤ l.length ∧ Below w.heap.size w wr) (fun _ i _ => l.length - (intOf i).toNat)
    case atStart => exact ⟨0, left - l.length, rfl, by rw [show ((left - l.length : Nat) : Int) = (left : Int) - (l.length : Int) from by omega], by simp [bulkL]; omega, Nat.zero_le _, Nat.zero_le _, Below.refl _ _⟩
    case round =>
      obtain ⟨j, m, rfl, rfl, hq, hjq, hj, hbel⟩ := hrel
      by_cases hlt : j < l.length
      · have hcnt := bulkL_take bNd l j hlt
        have hall := bulkL_take_le bNd l (j + 1)
        obtain ⟨b, o, rfl, hbw, hc⟩ := hR (by omega)
        have ex := NdEl.st w wr b _ _ (Kept.of_below hbel) hbw (hc j (by omega))
        clear hc hR
        have HC := Lib.hid hcnt
        have HQ := Lib.hid hq
        have HA := Lib.hid hall
        have hmL : m ≤ 1048576 := by omega
        clear hcnt hq hlm hall
        generalize l[j] = x at *
        obtain ⟨⟨e0, i0⟩, ⟨e1, i1⟩, ⟨e2, i2⟩, ⟨e3, i3⟩, ⟨v4, e4, r4⟩, ⟨v5, e5, r5⟩⟩ := ex
        obtain ⟨a4, ca4, rfl, -, -⟩ := r4.form
        obtain ⟨a5, ca5, rfl, -, -⟩ := r5.form
        go_wp2_with fail
        refine (szNode x _ _ m _ hmL i3 r4 r5).mono ?_
        rintro e w1 ⟨hb1, ⟨rfl, hx⟩ | ⟨q, rfl, hx⟩⟩
        · go_wp2
          go_ret
          exact ⟨below_tr hbel hb1, .inl ⟨rfl, by have := HC.out; have := HQ.out; have := HA.out; have := bulkL_take_len bNd l (j + 1) (by omega); omega⟩⟩
        · go_wp2
          go_roundw
          case rel => exact ⟨j + 1, q, by go_num, rfl, by have := HC.out; have := HQ.out; omega, by have := HC.out; omega, by omega, below_tr hbel hb1⟩
          case measure => simp [intOf]; omega
      · obtain rfl : j = l.length := by omega
        rw [List.take_length] at hq hjq
        go_wp2
        go_ret
        exact ⟨hbel, .inr ⟨m, rfl, by omega⟩⟩
theorem szProgram (x : Pg) (v0 : Value) (v1 : Value) (left : Nat) (w : World) (hL : left ≤ 1048576) (r0 : RowRd 3 TpEl w v0 x.types) (r1 : RowRd 6 NdEl w v1 x.nodes) :
    Calls Tryz.prog 5 #[.agg #[v0, v1], .int .i64 (left : Int)] w (SzPost (bPg x) left w) := by
  obtain ⟨a0, ca0, e0, -, -⟩ := r0.form
  subst e0
  obtain ⟨a1, ca1, e1, -, -⟩ := r1.form
  subst e1
  have hbx : bPg x = bulkL bTp x.types + bulkL bNd x.nodes := rfl
  have HB := Lib.hid hbx
  clear hbx
  go_enter Tryz.func5, Tryz.ntmps5
  go_wp2_with fail
  refine (szTypeS x.types _ left _ (by omega) (r0.kept TpEl.st (Kept.alloc _ _))).mono ?_
  rintro e w1 ⟨hb1, ⟨rfl, hx1⟩ | ⟨q1, rfl, hx1⟩⟩
  · go_wp2
    go_ret
    exact ⟨below_tr (Joins.below_alloc1 w _) hb1, .inl ⟨rfl, by rw [HB.out]; omega⟩⟩
  obtain ⟨hc1, hf1⟩ := bcell hb1
  go_wp2_with fail
  refine (szNodeS x.nodes _ q1 _ (by omega) (r1.kept NdEl.st ((Kept.alloc _ _).trans (Kept.of_below hb1)))).mono ?_
  rintro e w2 ⟨hb2, ⟨rfl, hx2⟩ | ⟨q2, rfl, hx2⟩⟩
  · go_wp2
    go_ret
    exact ⟨below_tr (below_tr (Joins.below_alloc1 w _) hb1) hb2, .inl ⟨rfl, by rw [HB.out]; omega⟩⟩
  go_wp2
  go_ret
  exact ⟨below_tr (below_tr (Joins.below_alloc1 w _) hb1) hb2, .inr ⟨q2, rfl, by rw [HB.out]; omega⟩⟩
end Go.Proofs.YtilincaedjhnpaaGreat
