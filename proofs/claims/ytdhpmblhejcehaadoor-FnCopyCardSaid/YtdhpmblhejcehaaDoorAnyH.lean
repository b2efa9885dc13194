/- Lists and tests, plain. -/
import Derived.Test.YtdhpmblhejcehaaDoorHpMath
namespace Go.Proofs.YtdhpmblhejcehaaDoor

theorem anyH_yes {α : Type} (ok : α → Bool) (l : List α) (k : Nat) (h : k < l.length) (hx : ok l[k] = true) : l.any ok = true := List.any_eq_true.2 ⟨_, List.getElem_mem h, hx⟩
theorem anyH_snoc {α : Type} (ok : α → Bool) (l : List α) (k : Nat) (h : k < l.length) (ha : (l.take k).any ok = false) (hx : ok l[k] = false) : (l.take (k + 1)).any ok = false := by
  rw [List.take_succ_eq_append_getElem h, List.any_append, ha]
  simp [hx]
theorem allH_any {α : Type} (ok : α → Bool) (l : List α) : l.all ok = !(l.any fun x => !ok x) := by
  induction l with
  | nil => rfl
  | cons x l ih => simp only [List.all_cons, List.any_cons, ih]; cases ok x <;> simp
end Go.Proofs.YtdhpmblhejcehaaDoor
