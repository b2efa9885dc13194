/- Contracts of the program's variadic helper and of how it quotes one byte. -/
import Derived.Test.YtdhpmblhejcehaaDoorRows
import Derived.Test.YtdhpmblhejcehaaDoorQuoteMath
import Derived.Test.YtdhpmblhejcehaaDoorQuote
import Derived.Test.YtdhpmblhejcehaaDoorCat
import Derived.Test.YtdhpmblhejcehaaDoorShelf
import Derived.WalkKit
import Derived.ProofKit
import Derived.OpenShut
namespace Go.Proofs.YtdhpmblhejcehaaDoor
set_option linter.unusedVariables false
set_option maxRecDepth 100000
open Go.ChangeShapes Go.WideShapes Go.ChangeAt Go.RowKit

theorem hex_slice (u : Int) (v : Nat) (h : 0 ≤ u ∧ u < 16) (hv : u = v) (W : World) :
    (Instr.slice 9 (.string ⟨#[48, 49, 50, 51, 52, 53, 54, 55, 56, 57, 97, 98, 99, 100, 101, 102]⟩) (some (.int .u8 u)) (some (.int .u8 (IntKind.u8.wrap (u + 1)))) none).run Tryd.prog W = .ok (.string ⟨#[hexB v]⟩) W := by
  subst hv
  have : v = 0 ∨ v = 1 ∨ v = 2 ∨ v = 3 ∨ v = 4 ∨ v = 5 ∨ v = 6 ∨ v = 7 ∨ v = 8 ∨ v = 9 ∨ v = 10 ∨ v = 11 ∨ v = 12 ∨ v = 13 ∨ v = 14 ∨ v = 15 := by omega
  rcases this with rfl | rfl | rfl | rfl | rfl | rfl | rfl | rfl | rfl | rfl | rfl | rfl | rfl | rfl | rfl | rfl <;> rfl

theorem quotedByte (c : UInt8) (w : World) :
    Calls Tryd.prog 63 #[.int .u8 (c.toNat : Int)] w fun e w' => e = .returned (.string ⟨(qb c).toArray⟩) ∧ Below w.heap.size w w' := by
  have hcb := byte_bd' c
  have hcv := own_string (l := [c]) (World.ownsRow_lit w #[.int .u8 (c.toNat : Int)] 1 (Nat.le_refl _) (by decide) rfl) rfl (by decide) rfl
  obtain ⟨g, cap, hg, hcv⟩ := hcv
  simp only [Value.slice.injEq, Option.some.injEq, Addr.mk.injEq] at hg
  obtain ⟨⟨rfl, _⟩, _, rfl⟩ := hg
  by_cases h10 : (c.toNat : Int) = 10
  · have H10 := Lib.hid h10
    have t1 : ((c.toNat : Int) == 10) = true := by simpa using h10
    clear h10
    go_enter Tryd.func63, Tryd.ntmps63
    go_wp2
    go_ret
    exact ⟨by rw [qb_ten _ H10.out]; rfl, (Below.refl _ _).alloc (Nat.le_refl _) _⟩
  have t1 : ((c.toNat : Int) == 10) = false := by simpa using h10
  by_cases h34 : (c.toNat : Int) = 34 ∨ (c.toNat : Int) = 92
  · have H34 := Lib.hid h34
    by_cases h34a : (c.toNat : Int) = 34
    all_goals
      first
      | (have t2 : ((c.toNat : Int) == 34) = true := by simpa using h34a
         clear h34a h34)
      | (have t2 : ((c.toNat : Int) == 92) = true := by simpa [h34a] using h34
         have t3 : ((c.toNat : Int) == 34) = false := by simpa using h34a
         clear h34a h34)
      have H10 := Lib.hid h10
      clear h10
      go_enter Tryd.func63, Tryd.ntmps63
      go_wp2_with (go_at_call 52; go_loud (refine (joined (w.heap.size + 1) 0 2 [⟨#[92]⟩, ⟨#[c]⟩] ((w.alloc (.cells #[.int .u8 (c.toNat : Int)] 5)).alloc (.cells #[.string ⟨#[92]⟩, .string ⟨#[c]⟩] 9)) (strs_at _ _ _ _ _ (by simp) rfl) (by simp) (by simp) (by simp) (by simp [cat])).mono ?_); rintro e w1 ⟨rfl, hb⟩)
      go_ret
      refine ⟨by rw [qb_esc _ H10.out H34.out]; rfl, ?_⟩
      exact (((Below.refl _ _).alloc (Nat.le_refl _) _).alloc (by simp) _).trans (hb.mono (by simp; omega))
  · have n34 : ((c.toNat : Int) == 34) = false := by simpa using fun h => h34 (.inl h)
    have n92 : ((c.toNat : Int) == 92) = false := by simpa using fun h => h34 (.inr h)
    have H34 := Lib.hid h34
    have H10 := Lib.hid h10
    clear h34 h10
    by_cases h32 : 32 ≤ (c.toNat : Int) ∧ (c.toNat : Int) ≤ 126
    · have H32 := Lib.hid h32
      obtain ⟨h32a, h32b⟩ := h32
      go_enter Tryd.func63, Tryd.ntmps63
      go_wp2
      go_ret
      exact ⟨by rw [qb_self _ H10.out H34.out H32.out]; rfl, (Below.refl _ _).alloc (Nat.le_refl _) _⟩
    · have H32 := Lib.hid h32
      have hx1 := hex_slice ((c.toNat : Int) / 16) (c.toNat / 16) (by omega) (by omega)
      have hx2 := hex_slice ((c.toNat : Int) % 16) (c.toNat % 16) (by omega) (by omega)
      by_cases h33 : 32 ≤ (c.toNat : Int)
      all_goals
        first | (have n126 : 126 < (c.toNat : Int) := by omega
                 clear h32) | clear h32
        go_enter Tryd.func63, Tryd.ntmps63
        go_wp2
        go_region_with ((go_at_call 52; refine (joined (w.heap.size + 1) 0 3 [⟨#[92, 120]⟩, ⟨#[hexB (c.toNat / 16)]⟩, ⟨#[hexB (c.toNat % 16)]⟩] (((w.alloc (.cells #[.int .u8 (c.toNat : Int)] 5)).drew).alloc (.cells #[.string ⟨#[92, 120]⟩, .string ⟨#[hexB (c.toNat / 16)]⟩, .string ⟨#[hexB (c.toNat % 16)]⟩] 9)) (strs_at _ _ _ _ _ (by simp) rfl) (by simp) (by simp) (by simp) (by simp [cat])).mono ?_; rintro e w1 ⟨rfl, hb⟩))
        go_wp2
        go_ret
        refine ⟨by rw [qb_hex _ H10.out H34.out H32.out]; rfl, ?_⟩
        exact ((((Below.refl _ _).alloc (Nat.le_refl _) _).drew).alloc (by simp) _).trans (hb.mono (by simp; omega))
end Go.Proofs.YtdhpmblhejcehaaDoor
