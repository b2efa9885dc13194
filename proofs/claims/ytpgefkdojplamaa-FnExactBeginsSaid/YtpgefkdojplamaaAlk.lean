/- Begins and Alike, both; slices.Equal at strings. -/
import Derived.Test.YtpgefkdojplamaaData
import Derived.Test.YtpgefkdojplamaaRows
import Derived.Deep.QuietTactic
import Derived.BigQuiet
import Derived.Deep.RegionHeld3
import Derived.Deep.RegionWith
import Derived.RegionTactic
import Derived.Outline
namespace Go.Proofs.Ytpgefkdojplamaa
set_option linter.unusedVariables false
set_option maxRecDepth 100000
open Go.ChangeShapes Go.WideShapes Go.ChangeAt Go.RowKit

theorem toL_inj2 {a b : ByteArray} (h : a.toList = b.toList) : a = b := Go.WideShapes.bytes_inj (by rw [← ByteArray.toList_eq, ← ByteArray.toList_eq]; exact h)
/-- The first list begins the second. -/
def pre2 : List ByteArray → List ByteArray → Bool
  | [], _ => true
  | x :: l, y :: m => decide (x = y) && pre2 l m
  | _ :: _, [] => false
def beginsB (x y : Oc) : Bool := pre2 x.trace y.trace
def alikeB (x y : Oc) : Bool := decide (x.kind = y.kind) && (decide (x.n = y.n) && (decide (x.trace.length = y.trace.length) && pre2 x.trace y.trace))
theorem pre2_step (l m : List ByteArray) (k : Nat) (h : k < l.length) (h2 : k < m.length) : pre2 (l.drop k) (m.drop k) = (decide (l[k] = m[k]) && pre2 (l.drop (k + 1)) (m.drop (k + 1))) := by
  rw [List.drop_eq_getElem_cons h, List.drop_eq_getElem_cons h2]; rfl
theorem pre2_long : ∀ (l m : List ByteArray), m.length < l.length → pre2 l m = false := by
  intro l
  induction l with
  | nil => intro m h; simp at h
  | cons x l ih => intro m h; cases m with
    | nil => rfl
    | cons y m => simp only [pre2]; rw [ih m (by simpa using h), Bool.and_false]
theorem pre2_take : ∀ (l m : List ByteArray) (n : Nat), l.length ≤ n → pre2 l (m.take n) = pre2 l m := by
  intro l
  induction l with
  | nil => intro m n _; cases m.take n <;> cases m <;> rfl
  | cons x l ih => intro m n h; cases m with
    | nil => simp [pre2]
    | cons y m => cases n with
      | zero => simp at h
      | succ n => simp only [List.take_succ_cons, pre2]; rw [ih m n (by simpa using h)]
theorem pre2_nil (m : List ByteArray) : pre2 [] m = true := by cases m <;> rfl
theorem ret_bl {a b : Bool} (h : a = b) : Ending.returned (.bool a) = .returned (.bool b) := by rw [h]

set_option maxHeartbeats 4000000 in
theorem iEqStrs (l m : List ByteArray) (v v2 : Value) (w : World) (hR : RowRd 1 StrEl w v l) (hR2 : RowRd 1 StrEl w v2 m) :
    Calls Try.prog 14 #[v, v2] w fun e w' => e = .returned (.bool (decide (l.length = m.length) && pre2 l m)) ∧ Below w.heap.size w w' := by
  obtain ⟨p, cap, rfl, hm, hR⟩ := hR.form
  obtain ⟨p2, cap2, rfl, hm2, hR2⟩ := hR2.form
  unfold maxLen at hm hm2
  by_cases hl : m.length = l.length
  · have HL := Lib.hid hl
    have HD := Lib.hid (show (decide (l.length = m.length) && pre2 l m) = pre2 l m from by rw [hl]; simp)
    rw [hl]
    rw [hl] at hm2
    clear hl
    go_enter Try.func14, Try.ntmps14
    go_wp2
    go_loopw [13] (fun i wr => ∃ k : Nat, i = .int .i64 k ∧ k ≤ l.length ∧ pre2 (l.drop k) (m.drop k) = pre2 l m ∧ Below w.heap.size w wr) (fun i _ => l.length - (intOf i).toNat)
    case atStart => exact ⟨0, rfl, Nat.zero_le _, rfl, Below.refl _ _⟩
    case round =>
      obtain ⟨k, rfl, hk, hno, hbel⟩ := hrel
      have HA := Lib.hid hno
      clear hno
      by_cases hlt : k < l.length
      · have hlt2 : k < m.length := by rw [HL.out]; exact hlt
        obtain ⟨b, o, rfl, hbw, hc⟩ := hR (by omega)
        obtain ⟨b2, o2, rfl, hbw2, hc2⟩ := hR2 (by omega)
        have ex := StrEl.st w wr b _ _ (Kept.of_below hbel) hbw (hc k hlt)
        have ex2 := StrEl.st w wr b2 _ _ (Kept.of_below hbel) hbw2 (hc2 k hlt2)
        rw [Nat.mul_one] at ex ex2
        have HS := Lib.hid (pre2_step l m k hlt hlt2)
        clear hc hR hc2 hR2
        generalize l[k] = x at *
        generalize m[k] = y at *
        clear hlt2
        obtain ⟨e0, i0⟩ := ex
        obtain ⟨e1, i1⟩ := ex2
        by_cases hxy : x = y
        · subst hxy
          have HA2 := Lib.hid (show pre2 (l.drop (k + 1)) (m.drop (k + 1)) = pre2 l m from by rw [← HA.out, HS.out]; simp)
          go_wp2_with fail
          go_region
          go_wp2
          go_roundw
          case rel => exact ⟨k + 1, by go_num, by omega, HA2.out, hbel.drew⟩
          case measure => simp [intOf]; omega
        · have HF := Lib.hid (show pre2 l m = false from by rw [← HA.out, HS.out]; simp [hxy])
          have h1 : ¬ (x.toList = y.toList) := fun h => hxy (toL_inj2 h)
          have h3 : (x.toList == y.toList) = false := by simpa using h1
          have h4 : (x.toList != y.toList) = true := by simpa using h1
          go_wp2_with fail
          go_region
          go_wp2
          go_ret
          first | exact ⟨ret_bl (HD.out.trans HF.out).symm, hbel.drew⟩ | exact ⟨ret_bl HF.out.symm, hbel.drew⟩
      · obtain rfl : k = l.length := by omega
        have HF := Lib.hid (show pre2 l m = true from by rw [← HA.out, List.drop_eq_nil_of_le (Nat.le_refl _)]; exact pre2_nil _)
        go_wp2
        go_ret
        first | exact ⟨ret_bl (HD.out.trans HF.out).symm, hbel⟩ | exact ⟨ret_bl HF.out.symm, hbel⟩
  · have HF := Lib.hid (show (decide (l.length = m.length) && pre2 l m) = false from by rw [show decide (l.length = m.length) = false from by simp; omega]; rfl)
    have h1 : ¬ ((l.length : Int) = (m.length : Int)) := by omega
    have h2 : ¬ (l.length = m.length) := by omega
    clear hR hR2 hl
    go_enter Try.func14, Try.ntmps14
    go_wp2
    go_ret
    exact ⟨ret_bl HF.out.symm, Below.refl _ _⟩

set_option maxHeartbeats 4000000 in
theorem sBeginsC (x y : Oc) (v v2 : Value) (w : World) (h : RowRd 1 StrEl w v x.trace) (h2 : RowRd 1 StrEl w v2 y.trace) (hz : bOc x ≤ 1048576) (hz2 : bOc y ≤ 1048576) :
    Calls Try.prog 10 #[.agg #[.int .i64 x.kind, .int .i64 x.n, v, .int .i64 x.steps], .agg #[.int .i64 y.kind, .int .i64 y.n, v2, .int .i64 y.steps]] w fun e w' => e = .returned (.bool (beginsB x y)) ∧ Below w.heap.size w w' := by
  obtain ⟨p, cap, rfl, hm, hR⟩ := h.form
  obtain ⟨p2, cap2, rfl, hm2, hR2⟩ := h2.form
  unfold maxLen at hm hm2
  clear hz hz2 h h2
  have HB := Lib.hid (show beginsB x y = pre2 x.trace y.trace from rfl)
  generalize beginsB x y = R at *
  generalize x.trace = l at *
  generalize y.trace = m at *
  by_cases hl : m.length < l.length
  · have HF := Lib.hid (show R = false from HB.out.trans (pre2_long l m hl))
    have h1 : (m.length : Int) < (l.length : Int) := by omega
    clear hR hR2
    go_enter Try.func10, Try.ntmps10
    go_wp2
    go_ret
    exact ⟨ret_bl HF.out.symm, Joins.below_alloc2 w _ _⟩
  · have hl2 : l.length ≤ m.length := by omega
    have h1 : ¬ ((m.length : Int) < (l.length : Int)) := by omega
    have hlS := Lib.hid hl2
    clear hl2
    go_enter Try.func10, Try.ntmps10
    go_wp2
    go_loopw [16] (fun i wr => ∃ k : Nat, i = .int .i64 k ∧ k ≤ l.length ∧ pre2 (l.drop k) (m.drop k) = R ∧ Below w.heap.size w wr ∧ w.heap.size + 2 ≤ wr.heap.size ∧ wr.cell? ⟨w.heap.size, 2, none⟩ = some (.slice p l.length cap) ∧ wr.cell? ⟨w.heap.size + 1, 2, none⟩ = some (.slice p2 m.length cap2)) (fun i _ => l.length - (intOf i).toNat)
    case atStart => exact ⟨0, rfl, Nat.zero_le _, HB.out.symm, Joins.below_alloc2 w _ _, by simp, by simp, by simp⟩
    case round =>
      obtain ⟨k, rfl, hk, hno, hbel, hsz, c0, c1⟩ := hrel
      have HA := Lib.hid hno
      clear hno
      by_cases hlt : k < l.length
      · have hlt2 : k < m.length := Nat.lt_of_lt_of_le hlt hlS.out
        obtain ⟨b, o, rfl, hbw, hc⟩ := hR (by omega)
        obtain ⟨b2, o2, rfl, hbw2, hc2⟩ := hR2 (by omega)
        have ex := StrEl.st w wr b _ _ (Kept.of_below hbel) hbw (hc k hlt)
        have ex2 := StrEl.st w wr b2 _ _ (Kept.of_below hbel) hbw2 (hc2 k hlt2)
        rw [Nat.mul_one] at ex ex2
        have HS := Lib.hid (pre2_step l m k hlt hlt2)
        clear hc hR hc2 hR2
        generalize l[k] = x at *
        generalize m[k] = y at *
        obtain ⟨e0, i0⟩ := ex
        obtain ⟨e1, i1⟩ := ex2
        by_cases hxy : x = y
        · subst hxy
          have HA2 := Lib.hid (show pre2 (l.drop (k + 1)) (m.drop (k + 1)) = R from by rw [← HA.out, HS.out]; simp)
          go_wp2_with fail
          go_region
          go_wp2
          go_roundw
          case rel => exact ⟨k + 1, by go_num, by omega, HA2.out, hbel.drew, hsz, c0, c1⟩
          case measure => simp [intOf]; omega
        · have HF := Lib.hid (show R = false from by rw [← HA.out, HS.out]; simp [hxy])
          have h1 : ¬ (x.toList = y.toList) := fun h => hxy (toL_inj2 h)
          have h3 : (x.toList == y.toList) = false := by simpa using h1
          have h4 : (x.toList != y.toList) = true := by simpa using h1
          go_wp2_with fail
          go_region
          go_wp2
          go_ret
          exact ⟨ret_bl HF.out.symm, hbel.drew⟩
      · obtain rfl : k = l.length := by omega
        have HF := Lib.hid (show R = true from by rw [← HA.out, List.drop_eq_nil_of_le (Nat.le_refl _)]; exact pre2_nil _)
        go_wp2
        go_ret
        exact ⟨ret_bl HF.out.symm, hbel⟩


set_option maxHeartbeats 1000000 in
theorem sAlikeC (x y : Oc) (v v2 : Value) (w : World) (h : RowRd 1 StrEl w v x.trace) (h2 : RowRd 1 StrEl w v2 y.trace) (hz : bOc x ≤ 1048576) (hz2 : bOc y ≤ 1048576) :
    Calls Try.prog 6 #[.agg #[.int .i64 x.kind, .int .i64 x.n, v, .int .i64 x.steps], .agg #[.int .i64 y.kind, .int .i64 y.n, v2, .int .i64 y.steps]] w fun e w' => e = .returned (.bool (alikeB x y)) ∧ Below w.heap.size w w' := by
  obtain ⟨p, cap, rfl, hm, -⟩ := h.form
  obtain ⟨p2, cap2, rfl, hm2, -⟩ := h2.form
  unfold maxLen at hm hm2
  have HB := Lib.hid (show alikeB x y = (decide (x.kind = y.kind) && (decide (x.n = y.n) && (decide (x.trace.length = y.trace.length) && pre2 x.trace y.trace))) from rfl)
  have HC := Lib.hid (fun W (hW : Below w.heap.size w W) => sBeginsC x y _ _ W (h.kept StrEl.st (Kept.of_below hW)) (h2.kept StrEl.st (Kept.of_below hW)) hz hz2)
  clear h h2
  obtain ⟨xk, xn, xt, xs⟩ := x
  obtain ⟨yk, yn, yt, ys⟩ := y
  simp only at hm hm2 HB HC ⊢
  generalize alikeB _ _ = R at *
  by_cases hk : xk = yk
  · by_cases hn : xn = yn
    · by_cases hl : xt.length = yt.length
      · have HF := Lib.hid (show R = pre2 xt yt from by rw [HB.out]; simp [hk, hn, hl])
        subst hk hn
        have hl1 : ((xt.length : Int) == (yt.length : Int)) = true := by simp [hl]
        have hlH := Lib.hid hl
        clear hl
        go_enter Try.func6, Try.ntmps6
        go_wp2_with fail
        refine (HC.out _ (Joins.below_alloc2 w _ _)).mono ?_
        rintro e w1 ⟨rfl, hb1⟩
        go_wp2
        go_ret
        exact ⟨ret_bl HF.out.symm, below_tr (Joins.below_alloc2 w _ _) hb1⟩
      · have HF := Lib.hid (show R = false from by rw [HB.out]; simp [hl])
        have hl1 : ¬ ((xt.length : Int) = (yt.length : Int)) := by omega
        subst hk hn
        clear HC
        go_enter Try.func6, Try.ntmps6
        go_wp2
        go_ret
        exact ⟨ret_bl HF.out.symm, Joins.below_alloc2 w _ _⟩
    · have HF := Lib.hid (show R = false from by rw [HB.out]; simp [hn])
      subst hk
      clear HC
      go_enter Try.func6, Try.ntmps6
      go_wp2
      go_ret
      exact ⟨ret_bl HF.out.symm, Joins.below_alloc2 w _ _⟩
  · have HF := Lib.hid (show R = false from by rw [HB.out]; simp [hk])
    clear HC
    go_enter Try.func6, Try.ntmps6
    go_wp2
    go_ret
    exact ⟨ret_bl HF.out.symm, Joins.below_alloc2 w _ _⟩

set_option maxHeartbeats 1000000 in
theorem iAlikeC (x y : Oc) (v v2 : Value) (w : World) (h : RowRd 1 StrEl w v x.trace) (h2 : RowRd 1 StrEl w v2 y.trace) (hz : bOc x ≤ 1048576) (hz2 : bOc y ≤ 1048576) :
    Calls Try.prog 8 #[.agg #[.int .i64 x.kind, .int .i64 x.n, v, .int .i64 x.steps], .agg #[.int .i64 y.kind, .int .i64 y.n, v2, .int .i64 y.steps]] w fun e w' => e = .returned (.bool (alikeB x y)) ∧ Below w.heap.size w w' := by
  obtain ⟨p, cap, rfl, hm, -⟩ := h.form
  obtain ⟨p2, cap2, rfl, hm2, -⟩ := h2.form
  unfold maxLen at hm hm2
  have HB := Lib.hid (show alikeB x y = (decide (x.kind = y.kind) && (decide (x.n = y.n) && (decide (x.trace.length = y.trace.length) && pre2 x.trace y.trace))) from rfl)
  have HC := Lib.hid (fun W (hW : Below w.heap.size w W) => iEqStrs x.trace y.trace _ _ W (h.kept StrEl.st (Kept.of_below hW)) (h2.kept StrEl.st (Kept.of_below hW)))
  clear h h2
  obtain ⟨xk, xn, xt, xs⟩ := x
  obtain ⟨yk, yn, yt, ys⟩ := y
  simp only at hm hm2 HB HC ⊢
  generalize alikeB _ _ = R at *
  by_cases hk : xk = yk
  · by_cases hn : xn = yn
    · have HF := Lib.hid (show R = (decide (xt.length = yt.length) && pre2 xt yt) from by rw [HB.out]; simp [hk, hn])
      subst hk hn
      go_enter Try.func8, Try.ntmps8
      go_wp2_with fail
      refine (HC.out _ (Joins.below_alloc2 w _ _)).mono ?_
      rintro e w1 ⟨rfl, hb1⟩
      go_wp2
      go_ret
      exact ⟨ret_bl HF.out.symm, below_tr (Joins.below_alloc2 w _ _) hb1⟩
    · have HF := Lib.hid (show R = false from by rw [HB.out]; simp [hn])
      subst hk
      clear HC
      go_enter Try.func8, Try.ntmps8
      go_wp2
      go_ret
      exact ⟨ret_bl HF.out.symm, Joins.below_alloc2 w _ _⟩
  · have HF := Lib.hid (show R = false from by rw [HB.out]; simp [hk])
    clear HC
    go_enter Try.func8, Try.ntmps8
    go_wp2
    go_ret
    exact ⟨ret_bl HF.out.symm, Joins.below_alloc2 w _ _⟩

set_option maxHeartbeats 4000000 in
theorem iBeginsC (x y : Oc) (v v2 : Value) (w : World) (h : RowRd 1 StrEl w v x.trace) (h2 : RowRd 1 StrEl w v2 y.trace) (hz : bOc x ≤ 1048576) (hz2 : bOc y ≤ 1048576) :
    Calls Try.prog 11 #[.agg #[.int .i64 x.kind, .int .i64 x.n, v, .int .i64 x.steps], .agg #[.int .i64 y.kind, .int .i64 y.n, v2, .int .i64 y.steps]] w fun e w' => e = .returned (.bool (beginsB x y)) ∧ Below w.heap.size w w' := by
  have HT : x.trace.length ≤ y.trace.length → ∀ a c, v2 = .slice a y.trace.length c → RowRd 1 StrEl w (.slice a x.trace.length c) (y.trace.take x.trace.length) := by
    intro hl a c e
    subst e
    obtain ⟨p3, c3, e3, hm3, hR3⟩ := h2.form
    cases e3
    have hle : (y.trace.take x.trace.length).length = x.trace.length := by simp; omega
    have := RowRd.mk (n := 1) (E := StrEl) (w := w) (a := a) (cap := c) (l := y.trace.take x.trace.length) (by rw [hle]; omega) (by
      rw [hle]
      by_cases h0 : 0 < y.trace.length
      · have := h2.cap h0; omega
      · omega) (fun h0 => by
      obtain ⟨b, o, rfl, hb, hc⟩ := hR3 (by rw [hle] at h0; omega)
      refine ⟨b, o, rfl, hb, fun i hi => ?_⟩
      have hi2 : i < y.trace.length := by rw [hle] at hi; omega
      have := hc i hi2
      rw [List.getElem_take]; exact this)
    rwa [hle] at this
  have HCap : ∀ a c, v2 = .slice a y.trace.length c → 0 < y.trace.length → y.trace.length ≤ c := fun a c e h0 => by subst e; exact h2.cap h0
  obtain ⟨p, cap, rfl, hm, -⟩ := h.form
  obtain ⟨p2, cap2, rfl, hm2, -⟩ := h2.form
  unfold maxLen at hm hm2
  have HB := Lib.hid (show beginsB x y = pre2 x.trace y.trace from rfl)
  generalize beginsB x y = R at *
  by_cases hl : x.trace.length ≤ y.trace.length
  · have hl1 : (x.trace.length : Int) ≤ (y.trace.length : Int) := by omega
    have hcap : x.trace.length ≤ cap2 := by
      by_cases h0 : 0 < y.trace.length
      · have := HCap p2 cap2 rfl h0; omega
      · omega
    have HC := Lib.hid (fun W (hW : Below w.heap.size w W) => iEqStrs x.trace (y.trace.take x.trace.length) _ _ W (h.kept StrEl.st (Kept.of_below hW)) ((HT hl _ _ rfl).kept StrEl.st (Kept.of_below hW)))
    clear h h2 HT HCap
    go_enter Try.func11, Try.ntmps11
    go_wp2_with fail
    go_region_held3 (fun W => Below w.heap.size w W ∧ W.cell? ⟨w.heap.size, 2, none⟩ = some (.slice p x.trace.length cap) ∧ W.cell? ⟨w.heap.size + 1, 2, none⟩ = some (.slice p2 y.trace.length cap2))
      (first | exact ⟨Joins.below_alloc2 w _ _, by simp, by simp⟩ | exact ⟨(Joins.below_alloc2 w _ _).drew, by simp, by simp⟩ | exact ⟨hB1, hC1, hC2⟩)
      (first
        | (go_at_call 14; (with_reducible refine (HC.out _ (by first | exact (Joins.below_alloc2 w _ _).drew | exact Joins.below_alloc2 w _ _)).mono ?_); rintro e w1 ⟨rfl, hb1⟩; have hB1 := below_tr (Joins.below_alloc2 w _ _).drew hb1; have hC1 : w1.cell? ⟨w.heap.size, 2, none⟩ = some (.slice p x.trace.length cap) := (hb1.cell (p := ⟨w.heap.size, 2, none⟩) (by simp; omega)).trans (by simp); have hC2 : w1.cell? ⟨w.heap.size + 1, 2, none⟩ = some (.slice p2 y.trace.length cap2) := (hb1.cell (p := ⟨w.heap.size + 1, 2, none⟩) (by simp)).trans (by simp)))
    go_wp2
    go_ret
    exact ⟨ret_bl (by rw [HB.out, pre2_take _ _ _ (Nat.le_refl _)]), by first | exact hB1 | exact hHeld.1⟩
  · have HF := Lib.hid (show R = false from by rw [HB.out]; exact pre2_long _ _ (by omega))
    have hl1 : ¬ ((x.trace.length : Int) ≤ (y.trace.length : Int)) := by omega
    clear h h2 HT HCap
    go_enter Try.func11, Try.ntmps11
    go_wp2_with fail
    go_region
    go_wp2
    go_ret
    exact ⟨ret_bl HF.out.symm, (Joins.below_alloc2 w _ _).drew⟩
end Go.Proofs.Ytpgefkdojplamaa
