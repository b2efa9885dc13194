/- The model's draws of values and heaps: a value. -/
import Derived.Test.YtdhpmblhejcehaaDoorRawD
import Derived.Test.YtdhpmblhejcehaaDoorHpRow
import Derived.Test.YtdhpmblhejcehaaDoorHpLaw
namespace Go.Proofs.YtdhpmblhejcehaaDoor
set_option linter.unusedVariables false
set_option maxRecDepth 100000
open Go.ChangeShapes Go.WideShapes Go.ChangeAt Go.RowKit

theorem Cur.keepH {B P C : Nat} {a : Option Addr} {len cap : Nat} {zs : List Int} {w w' : World} (h : Cur B P a len cap zs w) (hb : Below C w w') (hC : P < C) : Cur B P a len cap zs w' := by
  have hl := h.lt
  have hc : ∀ p : Addr, p.block < C → w'.cell? p = w.cell? p := fun p hp => hb.cell hp
  refine ⟨h.lt, Nat.lt_of_lt_of_le h.sz hb.size, h.row.mono fun p hp => hc p (by omega), by rw [hc _ hC]; exact h.c0, ?_, ?_, fun j => by rw [hb.frozen (p := ⟨P, j, none⟩) hC]; exact h.f j⟩
  · obtain ⟨k, hk, e⟩ := h.c1; exact ⟨k, hk, by rw [hc _ hC]; exact e⟩
  · obtain ⟨k, e⟩ := h.c2; exact ⟨k, by rw [hc _ hC]; exact e⟩
/-- .. and what is new turns as it likes. -/
theorem Moved.new {B P : Nat} {a : Option Addr} {len cap : Nat} {zs : List Int} {w w1 w2 : World} (h : Moved B P a len cap zs w w1) (hb : Below w.heap.size w1 w2) (hP : P < w.heap.size) : Moved B P a len cap zs w w2 :=
  ⟨h.1.keepH hb hP, ⟨hb.os.trans h.2.os, hb.tape.trans h.2.tape, hb.output.trans h.2.output, Nat.le_trans h.2.size hb.size, fun k hk hn => (hb.block k hk).trans (h.2.block k hk hn)⟩⟩
/-- A value, its text short. -/
def Vl5 (v : Vl) : Prop := I64 v.kind ∧ I64 v.n ∧ v.s.size ≤ 5
def DrawnV (B P : Nat) (a : Option Addr) (len cap : Nat) (zs : List Int) (w : World) (e : Ending) (w' : World) : Prop :=
  ∃ v : Vl, Vl5 v ∧ e = .returned (.agg #[.int .i64 v.kind, .int .i64 v.n, .string v.s]) ∧ Moved B P a len cap zs w w'
set_option maxHeartbeats 2000000 in
theorem sDrawVal (n : Int) (B P : Nat) (a : Option Addr) (len cap : Nat) (zs : List Int) (w : World) (hC : Cur B P a len cap zs w) (h0 : 0 ≤ n) (hn : n ≤ 100) :
    Calls Tryd.prog 57 #[.pointer (some ⟨P, 0, none⟩), .int .i64 n] w (DrawnV B P a len cap zs w) := by
  have hP := hC.sz
  obtain ⟨O, hO⟩ : ∃ O, O = Obj.cells #[.int .i64 0, .int .i64 0, .string ⟨#[]⟩] 33 := ⟨_, rfl⟩
  have hM0 : Moved B P a len cap zs w (w.alloc O) := (Moved.refl hC).alloc O
  have rb0 : (w.alloc O).heap[w.heap.size]? = some O := hp_al w O rfl
  have hPn : w.heap.size ≠ P := by omega
  have hz0 := hp_lt rb0
  go_enter Tryd.func57, Tryd.ntmps57
  go_wp2_with fail
  rw [← hO]
  refine (l01Below 9 _ _ _ _ _ _ _ hM0.1 (by omega) (by omega)).mono ?_
  rintro e w1 ⟨k, hk0, hk1, rfl, hM1⟩
  have rb1 := (hM1.2.block _ hz0 hPn).trans rb0
  have hMa := hM0.trans hM1
  have hz1 := hp_lt rb1
  by_cases h4 : k < 4 ∧ 0 < n
  · obtain ⟨h4, h5⟩ := h4
    have t1 : decide (k < 4) = true := by simpa using h4
    have t2 : decide (0 < n) = true := by simpa using h5
    go_wp2_with fail
    refine (l01Below n _ _ _ _ _ _ _ hM1.1 (by omega) (by omega)).mono ?_
    rintro e w2 ⟨x, hx0, hx1, rfl, hM2⟩
    have rb2 := (hM2.2.block _ hz1 hPn).trans rb1
    rw [hO] at rb2
    have hMb := hMa.trans hM2
    have q0 := hp_cell rb2 0
    have q1 := hp_cell rb2 1
    have q2 := hp_cell rb2 2
    have p0 := hp_fr rb2 0
    have p1 := hp_fr rb2 1
    have p2 := hp_fr rb2 2
    simp at q0 q1 q2
    go_wp2
    refine bodyPost_ret (v := .agg #[.int .i64 6, .int .i64 x, .string ⟨#[]⟩]) (by simp [results, Tryd.results57, go_sem, World.cell?_setCell_same', q0, q1, q2]) rfl ?_
    refine ⟨⟨6, x, ⟨#[]⟩⟩, ⟨by show -9223372036854775808 ≤ (6 : Int) ∧ (6 : Int) ≤ 9223372036854775807; omega, by show -9223372036854775808 ≤ x ∧ x ≤ 9223372036854775807; omega, by show (0 : Nat) ≤ 5; omega⟩, rfl, ?_⟩
    exact hMb.new ((((Below.refl _ _).setCell (by exact Nat.le_refl _) _).setCell (by exact Nat.le_refl _) _).setCell (by exact Nat.le_refl _) _) hP
  · have hgo : (k < 4 ∧ n ≤ 0) ∨ 4 ≤ k := by omega
    rcases hgo with ⟨t1, t2⟩ | t1
    all_goals
      first
        | (have s1 : decide (k < 4) = true := decide_eq_true t1
           have s2 : decide (0 < n) = false := decide_eq_false (by omega))
        | (have s1 : decide (k < 4) = false := decide_eq_false (by omega))
      clear h4
      go_wp2_with fail
      refine (l01Below 9 _ _ _ _ _ _ _ hM1.1 (by omega) (by omega)).mono ?_
      rintro e w2 ⟨y, hy0, hy1, rfl, hM2⟩
      have rb2 := (hM2.2.block _ hz1 hPn).trans rb1
      have hMb := hMa.trans hM2
      have hz2 := hp_lt rb2
      go_wp2_with fail
      refine hp_gen (P := fun W => Calls _ _ _ W _) _ ?_
      intro W3 hW3
      have hb3 : Below w2.heap.size w2 W3 := by rw [hW3]; exact Joins.below_alloc1 _ _
      have lit3 : W3.heap[w2.heap.size]? = some (.cells #[.int .i64 1, .int .i64 y, .string ⟨#[]⟩, .int .i64 2, .int .i64 0, .string ⟨#[97, 98]⟩, .int .i64 3, .int .i64 0, .string ⟨#[]⟩, .int .i64 4, .int .i64 0, .string ⟨#[76, 101, 97, 102]⟩, .int .i64 5, .int .i64 0, .string ⟨#[112, 114, 105, 110, 116]⟩, .int .i64 7, .int .i64 0, .string ⟨#[]⟩] 33 (0, 0)) := by rw [hW3]; exact hp_al _ _ rfl
      clear hW3
      have rb3 := (hb3.block _ hz2).trans rb2
      have hM3 : Moved B P a len cap zs w W3 := hMb.new (hb3.mono (by omega)) hP
      have hP2 : w2.heap.size ≠ P := by omega
      have hz3 := hp_lt lit3
      have hz4 := hp_lt rb3
      refine (l01Below 6 _ _ _ _ _ _ _ hM3.1 (by omega) (by omega)).mono ?_
      rintro e w4 ⟨z, hz0', hz1', rfl, hM4⟩
      have lit4 := (hM4.2.block _ hz3 hP2).trans lit3
      have rb4 := (hM4.2.block _ hz4 hPn).trans rb3
      rw [hO] at rb4
      have hM5 := hM3.trans hM4
      have q0 := hp_cell rb4 0
      have q1 := hp_cell rb4 1
      have q2 := hp_cell rb4 2
      have p0 := hp_fr rb4 0
      have p1 := hp_fr rb4 1
      have p2 := hp_fr rb4 2
      simp at q0 q1 q2
      clear rb1 rb2 rb3 lit3 hM2 hM3 hM4 hMb hb3 hM0 rb0
      have hz6 : z = 0 ∨ z = 1 ∨ z = 2 ∨ z = 3 ∨ z = 4 ∨ z = 5 := by omega
      rcases hz6 with rfl | rfl | rfl | rfl | rfl | rfl
      · have v0 := hp_cell lit4 0
        have v1 := hp_cell lit4 1
        have v2 := hp_cell lit4 2
        simp at v0 v1 v2
        clear lit4 rb4
        go_wp2
        refine bodyPost_ret (v := .agg #[.int .i64 1, .int .i64 y, .string ⟨#[]⟩]) (by simp [results, Tryd.results57, go_sem, World.cell?_setCell_same', q0, q1, q2]) rfl ?_
        refine ⟨⟨1, y, ⟨#[]⟩⟩, ⟨by show -9223372036854775808 ≤ (1 : Int) ∧ (1 : Int) ≤ 9223372036854775807; omega, by show -9223372036854775808 ≤ y ∧ y ≤ 9223372036854775807; omega, by show (0 : Nat) ≤ 5; omega⟩, rfl, ?_⟩
        exact hM5.new ((((Below.refl _ _).setCell (by exact Nat.le_refl _) _).setCell (by exact Nat.le_refl _) _).setCell (by exact Nat.le_refl _) _) hP
      · have v0 := hp_cell lit4 3
        have v1 := hp_cell lit4 4
        have v2 := hp_cell lit4 5
        simp at v0 v1 v2
        clear lit4 rb4
        go_wp2
        refine bodyPost_ret (v := .agg #[.int .i64 2, .int .i64 0, .string ⟨#[97, 98]⟩]) (by simp [results, Tryd.results57, go_sem, World.cell?_setCell_same', q0, q1, q2]) rfl ?_
        refine ⟨⟨2, 0, ⟨#[97, 98]⟩⟩, ⟨by show -9223372036854775808 ≤ (2 : Int) ∧ (2 : Int) ≤ 9223372036854775807; omega, by show -9223372036854775808 ≤ (0 : Int) ∧ (0 : Int) ≤ 9223372036854775807; omega, by show (2 : Nat) ≤ 5; omega⟩, rfl, ?_⟩
        exact hM5.new ((((Below.refl _ _).setCell (by exact Nat.le_refl _) _).setCell (by exact Nat.le_refl _) _).setCell (by exact Nat.le_refl _) _) hP
      · have v0 := hp_cell lit4 6
        have v1 := hp_cell lit4 7
        have v2 := hp_cell lit4 8
        simp at v0 v1 v2
        clear lit4 rb4
        go_wp2
        refine bodyPost_ret (v := .agg #[.int .i64 3, .int .i64 0, .string ⟨#[]⟩]) (by simp [results, Tryd.results57, go_sem, World.cell?_setCell_same', q0, q1, q2]) rfl ?_
        refine ⟨⟨3, 0, ⟨#[]⟩⟩, ⟨by show -9223372036854775808 ≤ (3 : Int) ∧ (3 : Int) ≤ 9223372036854775807; omega, by show -9223372036854775808 ≤ (0 : Int) ∧ (0 : Int) ≤ 9223372036854775807; omega, by show (0 : Nat) ≤ 5; omega⟩, rfl, ?_⟩
        exact hM5.new ((((Below.refl _ _).setCell (by exact Nat.le_refl _) _).setCell (by exact Nat.le_refl _) _).setCell (by exact Nat.le_refl _) _) hP
      · have v0 := hp_cell lit4 9
        have v1 := hp_cell lit4 10
        have v2 := hp_cell lit4 11
        simp at v0 v1 v2
        clear lit4 rb4
        go_wp2
        refine bodyPost_ret (v := .agg #[.int .i64 4, .int .i64 0, .string ⟨#[76, 101, 97, 102]⟩]) (by simp [results, Tryd.results57, go_sem, World.cell?_setCell_same', q0, q1, q2]) rfl ?_
        refine ⟨⟨4, 0, ⟨#[76, 101, 97, 102]⟩⟩, ⟨by show -9223372036854775808 ≤ (4 : Int) ∧ (4 : Int) ≤ 9223372036854775807; omega, by show -9223372036854775808 ≤ (0 : Int) ∧ (0 : Int) ≤ 9223372036854775807; omega, by show (4 : Nat) ≤ 5; omega⟩, rfl, ?_⟩
        exact hM5.new ((((Below.refl _ _).setCell (by exact Nat.le_refl _) _).setCell (by exact Nat.le_refl _) _).setCell (by exact Nat.le_refl _) _) hP
      · have v0 := hp_cell lit4 12
        have v1 := hp_cell lit4 13
        have v2 := hp_cell lit4 14
        simp at v0 v1 v2
        clear lit4 rb4
        go_wp2
        refine bodyPost_ret (v := .agg #[.int .i64 5, .int .i64 0, .string ⟨#[112, 114, 105, 110, 116]⟩]) (by simp [results, Tryd.results57, go_sem, World.cell?_setCell_same', q0, q1, q2]) rfl ?_
        refine ⟨⟨5, 0, ⟨#[112, 114, 105, 110, 116]⟩⟩, ⟨by show -9223372036854775808 ≤ (5 : Int) ∧ (5 : Int) ≤ 9223372036854775807; omega, by show -9223372036854775808 ≤ (0 : Int) ∧ (0 : Int) ≤ 9223372036854775807; omega, by show (5 : Nat) ≤ 5; omega⟩, rfl, ?_⟩
        exact hM5.new ((((Below.refl _ _).setCell (by exact Nat.le_refl _) _).setCell (by exact Nat.le_refl _) _).setCell (by exact Nat.le_refl _) _) hP
      · have v0 := hp_cell lit4 15
        have v1 := hp_cell lit4 16
        have v2 := hp_cell lit4 17
        simp at v0 v1 v2
        clear lit4 rb4
        go_wp2
        refine bodyPost_ret (v := .agg #[.int .i64 7, .int .i64 0, .string ⟨#[]⟩]) (by simp [results, Tryd.results57, go_sem, World.cell?_setCell_same', q0, q1, q2]) rfl ?_
        refine ⟨⟨7, 0, ⟨#[]⟩⟩, ⟨by show -9223372036854775808 ≤ (7 : Int) ∧ (7 : Int) ≤ 9223372036854775807; omega, by show -9223372036854775808 ≤ (0 : Int) ∧ (0 : Int) ≤ 9223372036854775807; omega, by show (0 : Nat) ≤ 5; omega⟩, rfl, ?_⟩
        exact hM5.new ((((Below.refl _ _).setCell (by exact Nat.le_refl _) _).setCell (by exact Nat.le_refl _) _).setCell (by exact Nat.le_refl _) _) hP
end Go.Proofs.YtdhpmblhejcehaaDoor
