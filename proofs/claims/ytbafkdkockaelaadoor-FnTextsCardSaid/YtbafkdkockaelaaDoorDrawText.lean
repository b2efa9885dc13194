/- The model's draws of a number and of a text: something comes, and memory below stands. -/
import Derived.Test.YtbafkdkockaelaaDoorRaw
import Derived.Test.YtbafkdkockaelaaDoorUnescaped
namespace Go.Proofs.YtbafkdkockaelaaDoor
set_option linter.unusedVariables false
open Go.ChangeShapes Go.WideShapes Go.ChangeAt Go.RowKit

theorem Cur.keepC {B P C : Nat} {a : Option Addr} {len cap : Nat} {zs : List Int} {w w' : World} (h : Cur B P a len cap zs w) (hb : Below C w w') (hC : P < C) : Cur B P a len cap zs w' := by
  have hl := h.lt
  have hc : ∀ p : Addr, p.block < C → w'.cell? p = w.cell? p := fun p hp => hb.cell hp
  refine ⟨h.lt, Nat.lt_of_lt_of_le h.sz hb.size, h.row.mono fun p hp => hc p (by omega), by rw [hc _ hC]; exact h.c0, ?_, ?_, fun j => by rw [hb.frozen (p := ⟨P, j, none⟩) hC]; exact h.f j⟩
  · obtain ⟨k, hk, e⟩ := h.c1; exact ⟨k, hk, by rw [hc _ hC]; exact e⟩
  · obtain ⟨k, e⟩ := h.c2; exact ⟨k, by rw [hc _ hC]; exact e⟩
theorem Only.grow {P : Nat} {w wr w1 : World} (h : Only P w wr) (hb : Below w.heap.size wr w1) : Only P w w1 :=
  ⟨hb.os.trans h.os, hb.tape.trans h.tape, hb.output.trans h.output, Nat.le_trans h.size hb.size, fun k hk hn => (hb.block k hk).trans (h.block k hk hn)⟩
theorem own_only {B e n P : Nat} {wr w1 : World} {v : Value} {xs : List Value} (h : wr.ownsRow B e 1 v n xs) (hP : P < B) (ho : Only P wr w1) : w1.ownsRow B e 1 v n xs := by
  obtain ⟨h0, h1 | ⟨g, cap, cur, rfl, h1, h2, h3, h4, h5, h6⟩⟩ := h
  · exact ⟨h0, .inl h1⟩
  · refine ⟨h0, .inr ⟨g, cap, cur, rfl, h1, ?_, h3, h4, h5, h6⟩⟩
    rw [ho.block g (by have := (Array.getElem?_eq_some_iff.1 h2).1; exact this) (by omega)]; exact h2

def BytesR (most : Nat) (B P : Nat) (a : Option Addr) (len cap : Nat) (zs : List Int) (w : World) (e : Ending) (w' : World) : Prop :=
  ∃ (v : Value) (t : List UInt8), e = .returned v ∧ t.length ≤ most ∧ w'.ownsRow w.heap.size 5 1 v t.length (bc t) ∧ v ≠ .slice none 0 0 ∧ Moved B P a len cap zs w w'
set_option maxHeartbeats 1000000 in
theorem l01Bytes (B P : Nat) (a : Option Addr) (len cap : Nat) (zs : List Int) (w : World) (hC : Cur B P a len cap zs w) :
    Calls Tryd.prog 19 #[.pointer (some ⟨P, 0, none⟩), .int .i64 12] w (BytesR 12 B P a len cap zs w) := by
  obtain ⟨i0, hi, hz0, hz1, hz2⟩ := info_parts info_u8
  have hPw := hC.sz
  go_enter Tryd.func19, Tryd.ntmps19
  go_wp2_with fail
  refine (l01Below 13 _ _ _ _ _ _ _ hC (by omega) (by omega)).mono ?_
  rintro e w1 ⟨n, hn0, hn1, rfl, hM⟩
  have hs1 := hM.2.size
  go_wp2
  go_loopw [6, 7] (fun v i wr => ∃ k : Nat, ∃ t : List UInt8, (k : Int) ≤ n ∧ i = .int .i64 k ∧ wr.ownsRow w.heap.size 5 1 v t.length (bc t) ∧ v ≠ .slice none 0 0 ∧ t.length = k ∧ Moved B P a len cap zs w wr)
    (fun _ i _ => n.toNat - (intOf i).toNat)
  case atStart =>
    exact ⟨0, [], by omega, rfl, World.ownsRow_lit w1 #[] 0 hs1 (by decide) rfl, by simp, rfl, hM.alloc _⟩
  case round =>
    obtain ⟨k, t, hk, rfl, hown, hne, htk, hMr⟩ := hrel
    have hsr := hMr.2.size
    by_cases hlt : (k : Int) < n
    · go_wp2_with fail
      refine (l01Byte _ _ _ _ _ _ _ hMr.1).mono ?_
      rintro e w2 ⟨x, hx0, hx1, rfl, hM2⟩
      have hown1 := own_only hown hPw hM2.2
      have hs2 : w.heap.size ≤ w2.heap.size := Nat.le_trans hsr hM2.2.size
      clear hown
      go_wp2_with (first
        | (at_builtin; refine wpList_append_own _ rfl (.tmp 18) (.tmp 22) 22 rfl w.heap.size 5 i0 (.int .u8 0) 1 1 Tryd.underlying22 hi hz0 hz1 hz2 rfl (by decide) _ t.length (bc t) rfl (hown1.alloc _) ⟨w2.heap.size, 0, none⟩ 1 1 [.int .u8 x] rfl rfl (new_cells _ _ _ _ rfl) (by rw [bc_u8 x ⟨hx0, hx1⟩]; exact bc_one _) (by unfold maxLen; omega) (by omega) (by simp; omega) ?_; intro v' w3 hown' hgrow _))
      have R := own_app hown1 (Below.refl w.heap.size w2) (Nat.le_refl _) hs2 hgrow
      have O := own_bytes rfl rfl (l' := [Go.Proofs.YtbafkdkockaelaaDoor.u8 x]) (bc_u8 x ⟨hx0, hx1⟩) rfl hown'
      have hne' := own_ne O (by simp)
      have hMM : Moved B P a len cap zs w w3 := ⟨hM2.1.keepC R.1 hPw, (hMr.2.trans hM2.2).grow R.1⟩
      clear hown1 hown' hgrow
      go_roundw
      case rel => exact ⟨k + 1, _, by omega, by go_num, O, hne', by simp; omega, hMM⟩
      case measure => simp [intOf]; omega
    · go_wp2
      go_ret
      exact ⟨_, t, rfl, by omega, hown, hne, hMr⟩

def DrawS (w : World) (e : Ending) (w' : World) : Prop := ∃ s : ByteArray, s.size ≤ 12 ∧ e = .returned (.string s) ∧ Below w.heap.size w w'
theorem DrawNumText (a : Option Addr) (len cap : Nat) (zs : List Int) (w : World) (hB : Bytes w.heap.size w a len cap zs) :
    Calls Tryd.prog 7 #[.slice a len cap] w (Draw1 w) := by
  go_enter Tryd.func7, Tryd.ntmps7
  go_wp2_with fail
  refine (l01New _ _ _ _ _ hB).mono ?_
  rintro e w1 ⟨P, rfl, hM⟩
  go_wp2_with fail
  refine (l01Raw _ _ _ _ _ _ _ hM.1).mono ?_
  rintro e w2 ⟨x, hx0, hx1, rfl, hM2⟩
  go_wp2
  go_ret
  exact ⟨x, ⟨hx0, hx1⟩, rfl, below_all (hM.trans hM2)⟩
set_option maxHeartbeats 1000000 in
theorem DrawQuote (a : Option Addr) (len cap : Nat) (zs : List Int) (w : World) (hB : Bytes w.heap.size w a len cap zs) :
    Calls Tryd.prog 8 #[.slice a len cap] w (DrawS w) := by
  go_enter Tryd.func8, Tryd.ntmps8
  go_wp2_with fail
  refine (l01New _ _ _ _ _ hB).mono ?_
  rintro e w1 ⟨P, rfl, hM⟩
  go_wp2_with fail
  refine (l01Bytes _ _ _ _ _ _ _ hM.1).mono ?_
  rintro e w2 ⟨v, t, rfl, ht, hown, hne, hM2⟩
  obtain ⟨g, cp, rfl, hconv⟩ := own_string' hown hne rfl rfl
  clear hown hne
  go_wp2_with fail
  refine (l01Below 3 _ _ _ _ _ _ _ hM2.1 (by omega) (by omega)).mono ?_
  rintro e w3 ⟨z, hz0, hz1, rfl, hM3⟩
  have hMM := (hM.trans hM2).trans hM3
  clear hconv
  by_cases hz : z = 0
  · subst hz
    go_wp2_with fail
    refine (l01Below 7 _ _ _ _ _ _ _ (hMM.alloc _).1 (by omega) (by omega)).mono ?_
    rintro e w5 ⟨j, hj0, hj1, rfl, hM5⟩
    have hA := (hMM.alloc (Obj.cells #[.string ⟨#[]⟩, .string ⟨#[97, 98, 99]⟩, .string ⟨#[97, 10, 98]⟩, .string ⟨#[34]⟩, .string ⟨#[92]⟩, .string ⟨#[195, 169]⟩, .string ⟨#[0]⟩] 9)).trans hM5
    have hne : w3.heap.size ≠ P := by have := hMM.1.sz; omega
    have hcell : ∀ j : Nat, w5.cell? ⟨w3.heap.size, j, none⟩ = (#[.string ⟨#[]⟩, .string ⟨#[97, 98, 99]⟩, .string ⟨#[97, 10, 98]⟩, .string ⟨#[34]⟩, .string ⟨#[92]⟩, .string ⟨#[195, 169]⟩, .string ⟨#[0]⟩] : Array Value)[j]? := fun j => by
      rw [hM5.2.cell (p := ⟨w3.heap.size, j, none⟩) (by simp) hne]; simp
    have hc : j = 0 ∨ j = 1 ∨ j = 2 ∨ j = 3 ∨ j = 4 ∨ j = 5 ∨ j = 6 := by omega
    have HA := Lib.hid hA
    clear hM hM2 hM3 hMM hM5 hA
    rcases hc with rfl | rfl | rfl | rfl | rfl | rfl | rfl
    all_goals
      have h0 := hcell 0
      have h1 := hcell 1
      have h2 := hcell 2
      have h3 := hcell 3
      have h4 := hcell 4
      have h5 := hcell 5
      have h6 := hcell 6
      clear hcell
      go_wp2
      go_ret
      exact ⟨_, by decide, rfl, below_all HA.out⟩
  · go_wp2
    go_ret
    exact ⟨_, by show t.toArray.size ≤ _; simp; omega, rfl, below_all hMM⟩
end Go.Proofs.YtbafkdkockaelaaDoor
