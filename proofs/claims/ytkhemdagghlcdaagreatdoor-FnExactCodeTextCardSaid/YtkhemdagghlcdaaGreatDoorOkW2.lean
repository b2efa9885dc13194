
/- The program's check of types: an item, the arities, the visitor, the whole. -/
import Derived.Test.YtkhemdagghlcdaaGreatDoorOkW1
import Derived.Test.YtkhemdagghlcdaaGreatDoorOwnRow
import Derived.Deep.QuietTactic
import Derived.BigQuiet
import Derived.Deep.RegionHeld3
import Derived.Deep.RegionWith
import Derived.Outline
namespace Go.Proofs.YtkhemdagghlcdaaGreatDoor
set_option linter.unusedVariables false
set_option maxRecDepth 100000
open Go.ChangeShapes Go.WideShapes Go.ChangeAt Go.RowKit

theorem iNameOkB (s : ByteArray) (w : World) (hs : s.size ≤ maxLen) :
    Calls Tryz.prog 85 #[.string s] w fun e w' => e = .returned (.bool (nameB s)) ∧ Below w.heap.size w w' := (iNameOk s w hs).mono fun e w' ⟨h, h'⟩ => ⟨h, by subst h'; exact Below.refl _ _⟩
/-- Numbers that a call made, read. -/
theorem own_rd {B e : Nat} {w : World} {v : Value} {l : List Int} (h : w.ownsRow B e 1 v l.length (ic l)) (hm : l.length ≤ maxLen) (hI : ∀ x ∈ l, I64 x) : RowRd 1 IntEl w v l := by
  by_cases h0 : 0 < l.length
  · obtain ⟨g, cap, rfl, h1, h2, h3, h4, _⟩ := own_shape h h0
    refine .inr ⟨g, 0, cap, rfl, ⟨hm, h3⟩, h2, h0, fun i hi => ?_⟩
    have := h4 i hi
    rw [ic_get l i hi] at this
    rw [Nat.mul_one, Nat.zero_add]
    exact ⟨this, hI _ (List.getElem_mem hi)⟩
  · obtain rfl : l = [] := List.eq_nil_of_length_eq_zero (by omega)
    obtain ⟨hx, ⟨rfl, _⟩ | ⟨g, cap, cur, rfl, _⟩⟩ := h
    · exact .inl ⟨rfl, _, _, rfl⟩
    · exact .inl ⟨rfl, _, _, rfl⟩
theorem info_int : (Tryz.prog.info? 3).map (fun i => (i.zero, i.size, i.bytes)) = some (some (.int .i64 0), 1, 8) := by kernel_rfl
theorem take_map_succ {α β : Type} (f : α → β) (l : List α) (k : Nat) (h : k < l.length) : (l.take (k + 1)).map f = (l.take k).map f ++ [f l[k]] := by
  rw [List.take_succ_eq_append_getElem h, List.map_append]; rfl
theorem own_i {B e m n : Nat} {w1 : World} {v' : Value} {l l' : List Int} {xs news : List Value} (hn : n = l.length) (hxs : xs = ic l) (hnews : news = ic l') (hm : m = l'.length) (h : w1.ownsRow B e 1 v' (n + m) (xs ++ news)) :
    w1.ownsRow B e 1 v' (l ++ l').length (ic (l ++ l')) := by
  subst hn hxs hnews hm; rw [ic_app, List.length_append]; exact h
end Go.Proofs.YtkhemdagghlcdaaGreatDoor
