/- A row that a call made and appended to, as owned data: numbers, strings. -/
import Derived.Test.YtdhpmblhejcehaaDoorOwnData
import Derived.Test.YtdhpmblhejcehaaDoorOwn
namespace Go.Proofs.YtdhpmblhejcehaaDoor
set_option linter.unusedVariables false
open Go.ChangeShapes Go.WideShapes Go.ChangeAt Go.RowKit

/-- Cells of numbers. -/
def ic (l : List Int) : List Value := l.map (Value.int .i64)
theorem ic_length (l : List Int) : (ic l).length = l.length := by simp [ic]
theorem ic_app (l m : List Int) : ic (l ++ m) = ic l ++ ic m := by simp [ic]
theorem ic_one (l : List Int) : ∀ u ∈ ic l, u.oneCell' = true := by
  intro u hu; simp only [ic, List.mem_map] at hu; obtain ⟨b, _, rfl⟩ := hu; rfl
theorem ic_get (l : List Int) (j : Nat) (h : j < l.length) : (ic l)[j]? = some (.int .i64 l[j]) := by simp [ic, h]
/-- What is owned and flat: its element's cells tell its elements. -/
theorem own_flat {α : Type} {B e n : Nat} {R : ElRd α} {w : World} {v : Value} {l : List α} {xs : List Value} (hn : 0 < n) (h : w.ownsRow B e n v l.length xs)
    (hR : ∀ g i (hi : i < l.length), (∀ j, j < n → w.cell? ⟨g, i * n + j, none⟩ = xs[i * n + j]?) → R w g (i * n) l[i]) :
    ∃ F, RowOwn n (Flat R) w v l F ∧ (∀ g ∈ F, B ≤ g) ∧ F.Nodup := by
  by_cases h0 : 0 < l.length
  · have h' := h
    obtain ⟨hx, ⟨_, h1⟩ | ⟨g, cap, cur, rfl, h1, h2, h3, h4, h5, h6⟩⟩ := h
    · omega
    · refine ⟨[g], .inr ⟨g, cap, List.replicate l.length [], rfl, ⟨Nat.le_trans h3 h4, h3⟩, (h'.lt g rfl).2, fun i => h'.frozenAt i, h0, by simp, ?_, fun i hi hi' => ?_⟩, fun k hk => by simp at hk; subst hk; exact h1, by simp⟩
      · have : (List.replicate l.length ([] : List Nat)).flatten = [] := by simp
        rw [this]
      · rw [List.getElem_replicate]
        refine ⟨rfl, hR g i hi fun j hj => h'.cellAt (i * n + j) ?_⟩
        have := Nat.mul_le_mul_right n (show i + 1 ≤ l.length by omega)
        rw [Nat.succ_mul] at this
        omega
  · obtain rfl : l = [] := List.eq_nil_of_length_eq_zero (by omega)
    obtain ⟨hx, ⟨rfl, _⟩ | ⟨g, cap, cur, rfl, _⟩⟩ := h
    · exact ⟨[], .inl ⟨rfl, rfl, _, _, rfl⟩, fun g hg => by simp at hg, List.nodup_nil⟩
    · exact ⟨[], .inl ⟨rfl, rfl, _, _, rfl⟩, fun g hg => by simp at hg, List.nodup_nil⟩
theorem own_ints {B e : Nat} {w : World} {v : Value} {l : List Int} (h : w.ownsRow B e 1 v l.length (ic l)) (hI : ∀ x ∈ l, I64 x) : ∃ F, RowOwn 1 (Flat IntEl) w v l F ∧ (∀ g ∈ F, B ≤ g) ∧ F.Nodup := by
  refine own_flat (by omega) h fun g i hi hc => ?_
  have := hc 0 (by omega)
  simp only [Nat.mul_one, Nat.add_zero] at this ⊢
  exact ⟨by rw [this]; exact ic_get l i hi, hI _ (List.getElem_mem hi)⟩
theorem own_strs' {B e : Nat} {w : World} {v : Value} {l : List ByteArray} (h : w.ownsRow B e 1 v l.length (sc l)) (hI : ∀ x ∈ l, x.size ≤ maxLen) : ∃ F, RowOwn 1 (Flat StrEl) w v l F ∧ (∀ g ∈ F, B ≤ g) ∧ F.Nodup := by
  refine own_flat (by omega) h fun g i hi hc => ?_
  have := hc 0 (by omega)
  simp only [Nat.mul_one, Nat.add_zero] at this ⊢
  exact ⟨by rw [this]; simp [sc, hi], hI _ (List.getElem_mem hi)⟩
/-- Cells of a type's items. -/
def tyC (l : List TyI) : List Value := l.flatMap fun x => [.int .i64 x.var, .string x.name, .int .i64 x.arity]
theorem flat_get {α : Type} (f : α → List Value) (n : Nat) (hf : ∀ x, (f x).length = n) (l : List α) (i j : Nat) (hi : i < l.length) (hj : j < n) : (l.flatMap f)[i * n + j]? = (f l[i])[j]? := by
  induction l generalizing i with
  | nil => simp at hi
  | cons x l ih =>
    rw [List.flatMap_cons]
    cases i with
    | zero => rw [Nat.zero_mul, Nat.zero_add, List.getElem?_append_left (by rw [hf]; exact hj)]; rfl
    | succ i =>
      rw [List.getElem?_append_right (by rw [hf, Nat.succ_mul]; omega), hf]
      rw [show (i + 1) * n + j - n = i * n + j from by rw [Nat.succ_mul]; omega]
      exact ih i (by simpa using hi)
theorem own_items {B e : Nat} {w : World} {v : Value} {l : List TyI} (h : w.ownsRow B e 3 v l.length (tyC l)) (hI : ∀ x ∈ l, I64 x.var ∧ x.name.size ≤ maxLen ∧ I64 x.arity) : ∃ F, RowOwn 3 TyIOwn w v l F ∧ (∀ g ∈ F, B ≤ g) ∧ F.Nodup := by
  refine own_flat (by omega) h fun g i hi hc => ?_
  have hg := fun j hj => (hc j hj).trans (flat_get (fun x : TyI => [Value.int .i64 x.var, .string x.name, .int .i64 x.arity]) 3 (fun _ => rfl) l i j hi hj)
  obtain ⟨i0, i1, i2⟩ := hI _ (List.getElem_mem hi)
  exact ⟨⟨hg 0 (by omega), i0⟩, ⟨hg 1 (by omega), i1⟩, ⟨hg 2 (by omega), i2⟩⟩
end Go.Proofs.YtdhpmblhejcehaaDoor
