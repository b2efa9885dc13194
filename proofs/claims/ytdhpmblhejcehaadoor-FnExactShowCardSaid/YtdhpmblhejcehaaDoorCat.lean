/- The contract of the program's variadic helper that joins texts. -/
import Derived.Test.YtdhpmblhejcehaaDoorRows
import Derived.Test.YtdhpmblhejcehaaDoorShelf
import Derived.WalkKit
import Derived.ProofKit
import Derived.OpenShut
import Derived.Lib.Hide
namespace Go.Proofs.YtdhpmblhejcehaaDoor
set_option linter.unusedVariables false
set_option maxRecDepth 100000
open Go.ChangeShapes Go.WideShapes Go.ChangeAt Go.RowKit

def cat (xs : List ByteArray) : List UInt8 := (xs.map (·.data.toList)).flatten
theorem join_nil (xs : List (List UInt8)) : Lib.join xs [] = xs.flatten := by
  induction xs with
  | nil => rfl
  | cons x r ih =>
    cases r with
    | nil => simp [Lib.join, List.intercalate]
    | cons y t => rw [Lib.join_cons, List.flatten_cons]; congr 1; simp [Lib.joinTail]

theorem joined (bk o c : Nat) (xs : List ByteArray) (w : World) (hcells : ∀ (j : Nat) x, xs[j]? = some x → w.cell? ⟨bk, o + j, none⟩ = some (.string x)) (hbk : bk < w.heap.size) (hN : xs.length ≤ 140737488355328) (hcap : xs.length ≤ c) (hlen : (cat xs).length ≤ 140737488355328) :
    Calls Tryd.prog 52 #[.slice (some ⟨bk, o, none⟩) xs.length c] w fun e w' => e = .returned (.string ⟨(cat xs).toArray⟩) ∧ Below w.heap.size w w' := by
  have hj : Lib.join (xs.map (·.data.toList)) (⟨#[]⟩ : ByteArray).data.toList = cat xs := join_nil _
  have hl : (Lib.join (xs.map (·.data.toList)) (⟨#[]⟩ : ByteArray).data.toList).length ≤ 140737488355328 := by rw [hj]; exact hlen
  have HJ := Lib.hid hj
  have HC := Lib.hid hcells
  clear hj hcells
  go_enter Tryd.func52, Tryd.ntmps52
  go_wp2_with (go_at_call 64; refine (Tryd.strings_Join bk o c xs _ _ HC.out hbk hN hcap hl).mono ?_; rintro e w1 ⟨rfl, hb⟩)
  go_ret
  exact ⟨by rw [← HJ.out]; rfl, hb⟩

theorem strs_new (w : World) (C : Array Value) (T : TypeId) (xs : List ByteArray) (h : C.toList = xs.map Value.string) : ∀ (j : Nat) x, xs[j]? = some x → (w.alloc (.cells C T)).cell? ⟨w.heap.size, 0 + j, none⟩ = some (.string x) := by
  intro j x hj
  rw [Nat.zero_add, World.cell?_alloc_new, ← Array.getElem?_toList, h, List.getElem?_map, hj]; rfl

theorem strs_at (w : World) (n : Nat) (C : Array Value) (T : TypeId) (xs : List ByteArray) (hn : n = w.heap.size) (h : C.toList = xs.map Value.string) : ∀ (j : Nat) x, xs[j]? = some x → (w.alloc (.cells C T)).cell? ⟨n, 0 + j, none⟩ = some (.string x) := by
  subst hn; exact strs_new w C T xs h
end Go.Proofs.YtdhpmblhejcehaaDoor
