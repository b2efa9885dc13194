/- The model's draw of a text for the lexer: some text of a few thousand bytes comes, and memory below stands. -/
import Derived.Test.YtjflnpcmjibcpaaGreatDoorNew
import Derived.Test.YtjflnpcmjibcpaaGreatDoorLexMath
import Derived.Test.YtjflnpcmjibcpaaGreatDoorLexI
import Derived.Deep.QuietTactic
import Derived.BigQuiet
import Derived.Deep.RegionWith
import Derived.IntWalk
import Derived.KernelRfl
namespace Go.Proofs.YtjflnpcmjibcpaaGreatDoor
set_option linter.unusedVariables false
set_option maxRecDepth 100000
open Go.ChangeShapes Go.WideShapes Go.ChangeAt Go.RowKit

theorem Moved.drewN {B P : Nat} {a : Option Addr} {len cap : Nat} {zs : List Int} {w w' : World} (h : Moved B P a len cap zs w w') (n : Nat) : Moved B P a len cap zs w (w'.drewN n) :=
  ⟨h.1.keep (Joins.below_draws _ _ _), h.2.trans (Only.of_below (Joins.below_draws _ _ _))⟩
def strLe (m : Nat) : Value → Bool
  | .string t => decide (t.size ≤ m)
  | _ => false
theorem strs_of {C : Array Value} {m j : Nat} (h : (C.toList.all fun v => strLe m v) = true) (hj : j < C.size) : ∃ t, C[j]? = some (.string t) ∧ t.size ≤ m := by
  have hv := List.all_eq_true.1 h C[j] (by simp)
  rw [Array.getElem?_eq_getElem hj]
  cases hc : C[j] with
  | string t => rw [hc] at hv; exact ⟨t, rfl, by simpa [strLe] using hv⟩
  | _ => rw [hc] at hv; simp [strLe] at hv
theorem strs_cell {W W0 w : World} {C : Array Value} {T : TypeId} {m j n : Nat} (hW : W.cell? ⟨n, j, none⟩ = W0.cell? ⟨n, j, none⟩) (h0 : W0.heap = (w.alloc (.cells C T)).heap) (hn : n = w.heap.size)
    (h : (C.toList.all fun v => strLe m v) = true) (hj : j < C.size) : ∃ t, W.cell? ⟨n, j, none⟩ = some (.string t) ∧ t.size ≤ m := by
  obtain ⟨t, ht, hts⟩ := strs_of h hj
  refine ⟨t, ?_, hts⟩
  subst hn
  have : W0.cell? ⟨w.heap.size, j, none⟩ = (w.alloc (.cells C T)).cell? ⟨w.heap.size, j, none⟩ := by unfold World.cell?; rw [h0]
  rw [hW, this, World.cell?_alloc_new]; exact ht
/-- A text of at most m bytes is returned. -/
def StrR (m : Nat) (w : World) (e : Ending) (w' : World) : Prop := ∃ s : ByteArray, s.size ≤ m ∧ e = .returned (.string s) ∧ Below w.heap.size w w'
def StrM (m : Nat) (B P : Nat) (a : Option Addr) (len cap : Nat) (zs : List Int) (w : World) (e : Ending) (w' : World) : Prop := ∃ s : ByteArray, s.size ≤ m ∧ e = .returned (.string s) ∧ Moved B P a len cap zs w w'
set_option maxHeartbeats 4000000 in
theorem l02Classic (k : Int) (w : World) (h : 0 ≤ k ∧ k ≤ 11) : Calls Tryz.prog 29 #[.int .i64 k] w (StrR 400 w) := by
  have hc : k = 0 ∨ k = 1 ∨ k = 2 ∨ k = 3 ∨ k = 4 ∨ k = 5 ∨ k = 6 ∨ k = 7 ∨ k = 8 ∨ k = 9 ∨ k = 10 ∨ k = 11 := by omega
  clear h
  rcases hc with rfl | rfl | rfl | rfl | rfl | rfl | rfl | rfl | rfl | rfl | rfl | rfl
  all_goals
    go_enter Tryz.func29, Tryz.ntmps29
    go_wp2
    go_ret
    refine ⟨_, ?_, rfl, Joins.below_alloc1 w _⟩
    exact of_decide_eq_true (by kernel_rfl)
theorem cat_size (a b : ByteArray) : (a ++ b).size = a.size + b.size := ByteArray.size_append
theorem slice_rest0 (s : ByteArray) (p : Nat) (h : p ≤ s.size) (hs : s.size ≤ 1048576) (W : World) :
    (Instr.slice 9 (.string s) (some (.int .i64 (p : Int))) none none).run Tryz.prog W = .ok (.string (rest s p)) W := by
  have := run_slice_string_l (P := Tryz.prog) W 9 s Tryz.underlying9 .i64 (p : Int) (by omega) (by omega)
  rw [Int.toNat_natCast] at this
  exact this
theorem slice_rest1 (s : ByteArray) (p : Nat) (h : p < s.size) (hs : s.size ≤ 1048576) (W : World) :
    (Instr.slice 9 (.string s) (some (.int .i64 ((p : Int) + 1))) none none).run Tryz.prog W = .ok (.string (rest s (p + 1))) W := by
  have := run_slice_string_l (P := Tryz.prog) W 9 s Tryz.underlying9 .i64 ((p : Int) + 1) (by omega) (by omega)
  rw [show ((p : Int) + 1).toNat = p + 1 from by omega] at this
  exact this
theorem l02Turn_nil (B P : Nat) (a : Option Addr) (len cap : Nat) (zs : List Int) (s : ByteArray) (w : World) (hC : Cur B P a len cap zs w) (hs : s.size = 0) :
    Calls Tryz.prog 30 #[.pointer (some ⟨P, 0, none⟩), .string s] w (StrM (s.size + 20) B P a len cap zs w) := by
  have h1 : ((s.size : Int) == 0) = true := by simp [hs]
  have h2 : ((s.size : Nat) == 0) = true := by simp [hs]
  have H := Lib.hid hs
  have HC := Lib.hid hC
  clear hs hC
  go_enter Tryz.func30, Tryz.ntmps30
  go_wp2
  go_ret
  exact ⟨⟨#[120]⟩, by show 1 ≤ _; omega, rfl, Moved.refl HC.out⟩
set_option maxHeartbeats 1000000 in
theorem l02Turn (B P : Nat) (a : Option Addr) (len cap : Nat) (zs : List Int) (s : ByteArray) (w : World) (hC : Cur B P a len cap zs w) (hs : s.size ≤ 5000) :
    Calls Tryz.prog 30 #[.pointer (some ⟨P, 0, none⟩), .string s] w (StrM (s.size + 20) B P a len cap zs w) := by
  by_cases h0 : s.size = 0
  · exact l02Turn_nil B P a len cap zs s w hC h0
  have hp : 0 < s.size := by omega
  have h1 : ((s.size : Int) == 0) = false := by simpa using h0
  have h2 : ((s.size : Nat) == 0) = false := by simpa using h0
  have H0 := Lib.hid h0
  clear h0
  go_enter Tryz.func30, Tryz.ntmps30
  go_wp2_with fail
  refine (l01Below s.size _ _ _ _ _ _ _ hC (by omega) (by omega)).mono ?_
  rintro e w1 ⟨x, hx0, hx1, rfl, hM⟩
  obtain ⟨p, rfl⟩ := Int.eq_ofNat_of_zero_le hx0
  have hps : p < s.size := by omega
  go_wp2_with fail
  refine (l01Below 4 _ _ _ _ _ _ _ hM.1 (by omega) (by omega)).mono ?_
  rintro e w2 ⟨y, hy0, hy1, rfl, hM2⟩
  have hMM := Lib.hid (hM.trans hM2)
  have hcut := fun W => slice_cut s p (by omega) (by omega) W
  have hcs := cut_size s p (by omega)
  by_cases hy : y = 0
  · subst hy
    have hr := fun W => slice_rest1 s p hps (by omega) W
    have hrs := rest_size s (p + 1)
    have hwr : IntKind.i64.wrap ((p : Int) + 1) = (p : Int) + 1 := IntWalk.i64_in _ (by omega)
    clear hM hM2 hC
    go_wp2_with fail
    go_quiet (fail)
    go_wp2
    go_ret
    exact ⟨_, by rw [cat_size, hcs, hrs]; omega, rfl, hMM.out.drewN _⟩
  by_cases hy1' : y = 1
  · subst hy1'
    clear hM hM2 hC
    go_wp2
    go_ret
    exact ⟨_, by rw [hcs]; omega, rfl, hMM.out⟩
  · have hr := fun W => slice_rest0 s p (by omega) (by omega) W
    have hrs := rest_size s p
    have hsz := (hM.trans hM2).1.sz
    have b0 : (y == 0) = false := by simpa using hy
    have b1 : (y == 1) = false := by simpa using hy1'
    clear hM hM2 hC
    go_wp2_with fail
    go_region_with ((go_at_call 12; (refine (l01Below 40 _ _ _ _ _ _ _ (by first | exact (hMM.out.alloc _).1 | exact (hMM.out.alloc _).drew.1) (by omega) (by omega)).mono ?_); (rintro e w3 ⟨z, hz0, hz1, rfl, hM3⟩); (obtain ⟨j, rfl⟩ := Int.eq_ofNat_of_zero_le hz0); (have hx := strs_cell (m := 20) (hM3.2.cell (p := ⟨w2.heap.size, j, none⟩) (by simp) (by simp; omega)) rfl rfl (by kernel_rfl) (by show j < 40; omega)); obtain ⟨t, ht, hts⟩ := hx; (have hzz1 : ¬ 9223372036854775807 < (cut s p).size + t.size := by omega); (have hzz2 : ¬ 9223372036854775807 < (cut s p ++ t).size + (rest s p).size := by rw [cat_size]; omega)))
    have hfin := (hMM.out.alloc _).drew.trans hM3
    have HF := Lib.hid hfin
    have HT := Lib.hid ht
    clear hfin hM3 ht
    go_wp2
    go_ret
    exact ⟨_, by rw [cat_size, cat_size, hcs, hrs]; omega, rfl, HF.out⟩
def sizeV : Value → Nat
  | .string t => t.size
  | _ => 0
theorem l02Text (B P : Nat) (a : Option Addr) (len cap : Nat) (zs : List Int) (w : World) (hC : Cur B P a len cap zs w) :
    Calls Tryz.prog 11 #[.pointer (some ⟨P, 0, none⟩)] w (StrM 4500 B P a len cap zs w) := by
  go_enter Tryz.func11, Tryz.ntmps11
  go_wp2_with fail
  refine (l01Below 12 _ _ _ _ _ _ _ hC (by omega) (by omega)).mono ?_
  rintro e w1 ⟨k, hk0, hk1, rfl, hM⟩
  go_wp2_with fail
  refine (l02Classic k _ ⟨hk0, by omega⟩).mono ?_
  rintro e w2 ⟨s, hs, rfl, hb⟩
  have hM2 : Moved B P a len cap zs w w2 := ⟨hM.1.keep hb, hM.2.trans (Only.of_below hb)⟩
  go_wp2_with fail
  refine (l01Below 3 _ _ _ _ _ _ _ hM2.1 (by omega) (by omega)).mono ?_
  rintro e w3 ⟨n, hn0, hn1, rfl, hM3⟩
  have hMM := hM2.trans hM3
  obtain ⟨n, rfl⟩ := Int.eq_ofNat_of_zero_le hn0
  clear hM hM2 hM3 hb
  go_wp2_with fail
  go_loopw [3, 4] (fun t i wr => ∃ (s : ByteArray) (j : Nat), t = .string s ∧ i = .int .i64 j ∧ j ≤ 2 ∧ s.size ≤ 400 + 20 * (2 - j) ∧ Moved B P a len cap zs w wr) (fun _ i _ => (intOf i).toNat)
  case atStart => exact ⟨s, n, rfl, rfl, by omega, by omega, hMM⟩
  case round =>
    obtain ⟨s, j, rfl, rfl, hj, hs, hMr⟩ := hrel
    by_cases hlt : 0 < j
    · go_wp2_with fail
      refine (l02Turn _ _ _ _ _ _ s _ hMr.1 (by omega)).mono ?_
      rintro e w4 ⟨s', hs', rfl, hM4⟩
      go_wp2
      go_roundw
      case rel => exact ⟨s', j - 1, rfl, by rw [show ((j : Int) - 1) = ((j - 1 : Nat) : Int) from by omega], by omega, by omega, hMr.trans hM4⟩
      case measure => simp [intOf]; omega
    · obtain rfl : j = 0 := by omega
      go_wp2_with fail
      refine (l01Below 50 _ _ _ _ _ _ _ hMr.1 (by omega) (by omega)).mono ?_
      rintro e w4 ⟨x, hx0, hx1, rfl, hM4⟩
      have hM5 := hMr.trans hM4
      by_cases hx : x = 0
      · subst hx
        go_wp2_with fail
        clear hMr hM4
        go_loopw [3] (fun t wr => ∃ s : ByteArray, t = .string s ∧ s.size ≤ 4500 ∧ Moved B P a len cap zs w wr) (fun t _ => 4002 - sizeV t)
        case atStart => exact ⟨s, rfl, by omega, hM5⟩
        case round =>
          obtain ⟨s2, rfl, hs2, hMr2⟩ := hrel
          go_wp2_with fail
          refine (l01Below 3 _ _ _ _ _ _ _ hMr2.1 (by omega) (by omega)).mono ?_
          rintro e w5 ⟨z, hz0, hz1, rfl, hM6⟩
          have hM7 := hMr2.trans hM6
          by_cases hlt2 : (s2.size : Int) < 3999 + z
          · have hz9 : ¬ 9223372036854775807 < s2.size + 1 := by omega
            have hcz : (s2 ++ (⟨#[32]⟩ : ByteArray)).size = s2.size + 1 := cat_size _ _
            go_wp2
            go_roundw
            case rel => exact ⟨s2 ++ ⟨#[32]⟩, rfl, by rw [hcz]; omega, hM7⟩
            case measure => simp only [sizeV]; rw [hcz]; omega
          · go_wp2
            go_ret
            exact ⟨s2, hs2, rfl, hM7⟩
      · have b0 : (x == 0) = false := by simpa using hx
        go_wp2
        go_ret
        exact ⟨s, by omega, rfl, hM5⟩
theorem DrawLex (a : Option Addr) (len cap : Nat) (zs : List Int) (w : World) (hB : Bytes w.heap.size w a len cap zs) :
    Calls Tryz.prog 4 #[.slice a len cap] w (StrR 4500 w) := by
  go_enter Tryz.func4, Tryz.ntmps4
  go_wp2_with fail
  refine (l01New _ _ _ _ _ hB).mono ?_
  rintro e w1 ⟨P, rfl, hM⟩
  go_wp2_with fail
  refine (l02Text _ _ _ _ _ _ _ hM.1).mono ?_
  rintro e w2 ⟨s, hs, rfl, hM2⟩
  go_wp2_with fail
  refine (l01Below 8 _ _ _ _ _ _ _ hM2.1 (by omega) (by omega)).mono ?_
  rintro e w3 ⟨x, hx0, hx1, rfl, hM3⟩
  have hMM := (hM.trans hM2).trans hM3
  clear hM hM2 hM3
  by_cases hx : x = 0
  · subst hx
    have hsz := hMM.1.sz
    go_wp2_with fail
    refine (l01Below 13 _ _ _ _ _ _ _ (hMM.alloc _).1 (by omega) (by omega)).mono ?_
    rintro e w4 ⟨z, hz0, hz1, rfl, hM4⟩
    obtain ⟨j, rfl⟩ := Int.eq_ofNat_of_zero_le hz0
    obtain ⟨t, ht, hts⟩ := strs_cell (m := 20) (hM4.2.cell (p := ⟨w3.heap.size, j, none⟩) (by simp) (by simp; omega)) rfl rfl (by kernel_rfl) (by show j < 13; omega)
    have HM := Lib.hid ((hMM.alloc _).trans hM4)
    clear hM4
    go_wp2
    go_ret
    exact ⟨t, by omega, rfl, below_all HM.out⟩
  · have b0 : (x == 0) = false := by simpa using hx
    go_wp2
    go_ret
    exact ⟨s, hs, rfl, below_all hMM⟩
end Go.Proofs.YtjflnpcmjibcpaaGreatDoor
