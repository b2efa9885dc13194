/- Contracts of NumText: the program's, by the library's Itoa, and the model's, by its own digits. -/
import Derived.Test.YtdhpmblhejcehaaDoorRows
import Derived.Test.YtdhpmblhejcehaaDoorNumMath
import Derived.Test.YtdhpmblhejcehaaDoorWrap
import Derived.Test.YtdhpmblhejcehaaDoorShelf
import Derived.Test.YtdhpmblhejcehaaDoorOwn
import Derived.WalkKit
import Derived.ProofKit
import Derived.OpenShut
import Derived.Lib.ItoaLen
import Derived.Lib.Hide
import Derived.Stop.LaidErr
import Derived.LaidMore
namespace Go.Proofs.YtdhpmblhejcehaaDoor
set_option linter.unusedVariables false
open Go.ChangeShapes Go.WideShapes Go.ChangeAt Go.RowKit

theorem isNumber (n : Int) (w : World) :
    Calls Tryd.prog 41 #[.int .i64 n] w fun e w' => e = .returned (.bool (W n == n)) ∧ w = w' := by
  go_enter Tryd.func41, Tryd.ntmps41
  go_wp2_with (go_at_call 59; refine (iWrap _ _).mono ?_; rintro e w' ⟨rfl, rfl⟩)
  go_ret
  exact ⟨rfl, rfl⟩

theorem tab_of {rest : List (String × DataW Unit)} {a b : DataW Unit} {w : World} (h : laidMet Tryd.prog (("math/bits.deBruijn32tab", a) :: ("math/bits.deBruijn64tab", b) :: ("internal/strconv.uint64pow10", Lib.tabData .u64 Lib.pow10Tab) :: rest) w) :
    Lib.TabIs Tryd.prog w "internal/strconv.uint64pow10" .u64 Lib.pow10Tab :=
  Lib.tabIs_of_head (g := 0) (t := 113) (e := 104) (n := 20) (by kernel_rfl) (by kernel_rfl) Tryd.underlying113 Tryd.underlying104 (by kernel_rfl) (by kernel_rfl) h.tail.tail
theorem var_below {P : Program} {n : String} {v : Array Value} {w w' : World} (h : w.var? P n = some v) (hb : Below w.heap.size w w') : w'.var? P n = some v := by
  unfold World.var? at h ⊢
  cases hg : P.globalNamed n with
  | none => rw [hg] at h; exact h
  | some g =>
    rw [hg] at h
    simp only [Option.bind_some] at h ⊢
    by_cases hlt : g < w.heap.size
    · rw [hb.block g hlt]; exact h
    · have : w.heap[g]? = none := by simp; omega
      rw [this] at h; cases h
theorem tab_below {w w' : World} {n : String} {k : IntKind} {zs : List Int} (h : Lib.TabIs Tryd.prog w n k zs) (hb : Below w.heap.size w w') : Lib.TabIs Tryd.prog w' n k zs := var_below h hb
def numL (n : Int) : List UInt8 := if W n = n then Lib.itoa n else []
theorem grow_below (w : World) (k : Nat) (os : Array Obj) : Below w.heap.size w (Go.Sort.grow (w.drewN k) os) :=
  ⟨rfl, rfl, rfl, by simp [Go.Sort.grow, World.drewN], fun i hi => by
    show (w.heap ++ os)[i]? = _
    rw [Array.getElem?_append_left hi]⟩
theorem iNumText (n : Int) (w : World) (h : -9223372036854775808 ≤ n ∧ n ≤ 9223372036854775807) (htab : Lib.TabIs Tryd.prog w "internal/strconv.uint64pow10" .u64 Lib.pow10Tab) :
    Calls Tryd.prog 50 #[.int .i64 n] w fun e w' => e = .returned (.string ⟨(numL n).toArray⟩) ∧ Below w.heap.size w w' := by
  have HT := Lib.hid htab
  clear htab
  by_cases hn : W n = n
  · have HN := Lib.hid hn
    have t1 : (W n == n) = true := by simpa using hn
    clear hn
    go_enter Tryd.func50, Tryd.ntmps50
    go_wp2_with (first | (go_at_call 41; refine (isNumber _ _).mono ?_; rintro e w' ⟨rfl, rfl⟩) | (go_at_call 62; refine (Tryd.strconv_Itoa n h.1 h.2 _ HT.out).mono ?_; rintro e w' ⟨rfl, hk⟩))
    go_ret
    obtain ⟨k, os, rfl⟩ := hk
    exact ⟨by rw [numL, if_pos HN.out]; rfl, grow_below _ _ _⟩
  · have HN := Lib.hid hn
    have t1 : (W n == n) = false := by simpa using hn
    clear hn
    go_enter Tryd.func50, Tryd.ntmps50
    go_wp2_with (go_at_call 41; refine (isNumber _ _).mono ?_; rintro e w' ⟨rfl, rfl⟩)
    go_ret
    exact ⟨by rw [numL, if_neg HN.out]; rfl, Below.refl _ _⟩

theorem ret_str {a b : ByteArray} (h : a = b) : Ending.returned (.string a) = .returned (.string b) := by rw [h]
theorem str_app (a b : List UInt8) : (⟨a.toArray⟩ : ByteArray) ++ ⟨b.toArray⟩ = ⟨(a ++ b).toArray⟩ := by
  have : ∀ x y : ByteArray, (x ++ y).data = x.data ++ y.data := fun x y => ByteArray.data_append
  apply ByteArray.ext; rw [this]; simp
theorem digit_of (c : Int) (W : World) (n : Nat) (hc : W.cell? ⟨n, 0, none⟩ = some (.int .u8 c)) (d : Nat) (h0 : 0 ≤ c) (h1 : c ≤ 255) (hd : c = (d : Int)) :
    (convert 22 9 (.slice (some ⟨n, 0, none⟩) 1 1)).run Tryd.prog W = .ok (.string ⟨#[UInt8.ofNat d]⟩) W := by
  subst hd
  refine run_convert_bytes_back W 22 9 5 ⟨n, 0, none⟩ 1 [UInt8.ofNat d] Tryd.underlying22 Tryd.underlying5 Tryd.underlying9 fun j hj => ?_
  obtain rfl : j = 0 := by simpa using hj
  rw [add_zero_off, hc]
  simp only [List.getElem_cons_zero, UInt8.toNat_ofNat']
  congr 2
  omega

theorem digits_len (u : Nat) (h : u < 18446744073709551616) : (Lib.decDigits u).length ≤ 20 := by
  rw [Lib.decDigits_eq]; simpa using Lib.nDigits_le20 u h
theorem l01Digits : ∀ (N m : Nat) (w : World), m < N → m ≤ 9223372036854775808 →
    Calls Tryd.prog 65 #[.int .i64 (-(m : Int))] w fun e w' => e = .returned (.string ⟨(Lib.decDigits m).toArray⟩) ∧ Below w.heap.size w w'
  | 0, m, w, h, _ => absurd h (by omega)
  | N + 1, m, w, h, hm => by
    by_cases h10 : m < 10
    · have hcv := fun (W : World) (n : Nat) (hc : W.cell? ⟨n, 0, none⟩ = some (.int .u8 (48 + (m : Int)))) => digit_of _ W n hc (48 + m) (by omega) (by omega) (by omega)
      have hd : Lib.decDigits m = [UInt8.ofNat (48 + m)] := by rw [Lib.decDigits, dif_pos h10]
      have HD := Lib.hid hd
      clear hd
      go_enter Tryd.func65, Tryd.ntmps65
      go_wp2
      go_ret
      exact ⟨by rw [HD.out]; exact ret_str (by rw [UInt8.ofNat_add]; rfl), (Below.refl _ _).alloc (Nat.le_refl _) _⟩
    · have ih : ∀ W : World, Calls Tryd.prog 65 #[.int .i64 (-((m : Int) / 10))] W fun e w' => e = .returned (.string ⟨(Lib.decDigits (m / 10)).toArray⟩) ∧ Below W.heap.size W w' := fun W => by
        have h := l01Digits N (m / 10) W (by omega) (by omega)
        rw [show ((m / 10 : Nat) : Int) = (m : Int) / 10 from by omega] at h
        exact h
      have hcv := fun (W : World) (n : Nat) (hc : W.cell? ⟨n, 0, none⟩ = some (.int .u8 (48 + (m : Int) % 10))) => digit_of _ W n hc (48 + m % 10) (by omega) (by omega) (by omega)
      have hq : IntKind.i64.wrap (-((m : Int) / 10)) = -((m : Int) / 10) := IntWalk.i64_in _ (by omega)
      have hr : (m : Int).tmod 10 = (m : Int) % 10 := Int.tmod_eq_emod_of_nonneg (by omega)
      have hw : IntKind.i64.wrap (48 + (m : Int) % 10) = 48 + (m : Int) % 10 := IntWalk.i64_in _ (by omega)
      have hw2 : IntKind.u8.wrap (48 + (m : Int) % 10) = 48 + (m : Int) % 10 := IntWalk.u8_in _ (by omega)
      have hd : Lib.decDigits m = Lib.decDigits (m / 10) ++ [UInt8.ofNat (48 + m % 10)] := by rw [Lib.decDigits, dif_neg h10]
      have hlen : (Lib.decDigits (m / 10)).length + 1 ≤ 9223372036854775807 := by have := digits_len (m / 10) (by omega); omega
      have HD := Lib.hid hd
      clear hd
      go_enter Tryd.func65, Tryd.ntmps65
      go_wp2_with fail
      go_region_with ((go_at_call 65; refine (ih _).mono ?_; rintro e w1 ⟨rfl, hb⟩; have hk := fun h => hb.cell (p := ⟨w.heap.size, 0, none⟩) h))
      all_goals
        go_wp2
        go_ret
        refine ⟨by rw [HD.out]; exact ret_str (by rw [UInt8.ofNat_add]; exact str_app _ [_]), ?_⟩
        first
        | exact ((Below.refl w.heap.size w).drew.trans hb).alloc (by have := hb.size; simpa using this) _
        | exact (((Below.refl w.heap.size w).drew.trans hb).alloc (by have := hb.size; simpa using this) _).drew
        | exact (((Below.refl w.heap.size w).alloc (Nat.le_refl _) _).drew).trans (hb.mono (by simp))
        | exact ((((Below.refl w.heap.size w).alloc (Nat.le_refl _) _).drew).trans (hb.mono (by simp))).drew

theorem sNumText (n : Int) (w : World) (h : -9223372036854775808 ≤ n ∧ n ≤ 9223372036854775807) :
    Calls Tryd.prog 54 #[.int .i64 n] w fun e w' => e = .returned (.string ⟨(numL n).toArray⟩) ∧ Below w.heap.size w w' := by
  by_cases hn : W n = n
  · have HN := Lib.hid hn
    have t1 : (W n != n) = false := by simpa using hn
    have hb := W_range n
    rw [hn] at hb
    clear hn
    by_cases h0 : n < 0
    · have HI : Hid (Lib.itoa n = 45 :: Lib.decDigits n.natAbs) := by show _ = _; rw [Lib.itoa, if_pos h0]
      have hc : ∀ W : World, Calls Tryd.prog 65 #[.int .i64 n] W fun e w' => e = .returned (.string ⟨(Lib.decDigits n.natAbs).toArray⟩) ∧ Below W.heap.size W w' := fun W => by
        have h := l01Digits (n.natAbs + 1) n.natAbs W (by omega) (by omega)
        rw [show -((n.natAbs : Nat) : Int) = n from by omega] at h
        exact h
      have hlen := digits_len n.natAbs (by omega)
      go_enter Tryd.func54, Tryd.ntmps54
      go_wp2_with (first | (go_at_call 40; refine (sWrap _ _).mono ?_; rintro e w' ⟨rfl, rfl⟩) | (go_at_call 65; refine (hc _).mono ?_; rintro e w' ⟨rfl, hb⟩))
      go_ret
      exact ⟨by rw [numL, if_pos HN.out, HI.out]; exact ret_str (str_app [45] _), hb⟩
    · have HI : Hid (Lib.itoa n = Lib.decDigits n.toNat) := by show _ = _; rw [Lib.itoa, if_neg h0]
      have hc : ∀ W : World, Calls Tryd.prog 65 #[.int .i64 (-n)] W fun e w' => e = .returned (.string ⟨(Lib.decDigits n.toNat).toArray⟩) ∧ Below W.heap.size W w' := fun W => by
        have h := l01Digits (n.toNat + 1) n.toNat W (by omega) (by omega)
        rw [show -((n.toNat : Nat) : Int) = -n from by omega] at h
        exact h
      go_enter Tryd.func54, Tryd.ntmps54
      go_wp2_with (first | (go_at_call 40; refine (sWrap _ _).mono ?_; rintro e w' ⟨rfl, rfl⟩) | (go_at_call 65; refine (hc _).mono ?_; rintro e w' ⟨rfl, hb⟩))
      go_ret
      exact ⟨by rw [numL, if_pos HN.out, HI.out]; rfl, hb⟩
  · have HN := Lib.hid hn
    have t1 : (W n != n) = true := by simpa using hn
    clear hn
    go_enter Tryd.func54, Tryd.ntmps54
    go_wp2_with (go_at_call 40; refine (sWrap _ _).mono ?_; rintro e w' ⟨rfl, rfl⟩)
    go_ret
    exact ⟨by rw [numL, if_neg HN.out]; rfl, Below.refl _ _⟩
end Go.Proofs.YtdhpmblhejcehaaDoor
