/- Texts as strings: rows of them. -/
import Derived.Test.YtkhemdagghlcdaaGreatDoorOkW3
import Derived.Test.YtkhemdagghlcdaaGreatDoorCat
namespace Go.Proofs.YtkhemdagghlcdaaGreatDoor
set_option linter.unusedVariables false
set_option maxRecDepth 100000
open Go.ChangeShapes Go.WideShapes Go.ChangeAt Go.RowKit

/-- Texts as strings. -/
def strs (P : List (List UInt8)) : List ByteArray := P.map fun l => ⟨l.toArray⟩
theorem strs_length (P : List (List UInt8)) : (strs P).length = P.length := by simp [strs]
theorem cat_strs (P : List (List UInt8)) : cat (strs P) = P.flatten := by
  unfold cat strs
  rw [List.map_map]
  congr 1
  exact (List.map_congr_left fun x _ => rfl).trans (List.map_id P)
/-- A literal of texts. -/
theorem lit_strs {W : World} {C : Array Value} {T : TypeId} {xs : List ByteArray} {n m : Nat} (hn : n = W.heap.size) (h : C.toList = xs.map Value.string) (hm : m = xs.length) (hs : ∀ x ∈ xs, x.size ≤ maxLen) (hl : xs.length ≤ maxLen) :
    RowRd 1 StrEl (W.alloc (.cells C T)) (.slice (some ⟨n, 0, none⟩) m m) xs := by
  subst hm
  refine RowRd.mk hl (Nat.le_refl _) fun h0 => ⟨n, 0, rfl, by simp [hn], fun i hi => ⟨?_, hs _ (List.getElem_mem hi)⟩⟩
  have := strs_at W n C T xs hn h i xs[i] (List.getElem?_eq_getElem hi)
  rw [Nat.mul_one]
  exact this
theorem lit_own {W : World} {B : Nat} {C : Array Value} {xs : List ByteArray} {n m : Nat} (hn : n = W.heap.size) (hB : B ≤ W.heap.size) (h : C.toList = sc xs) (hm : m = xs.length) (hl : xs.length ≤ maxLen) :
    (W.alloc (.cells C 9)).ownsRow B 9 1 (.slice (some ⟨n, 0, none⟩) m m) xs.length (sc xs) := by
  subst hn hm
  have hs : C.size = xs.length := by rw [← Array.length_toList, h, sc_length]
  rw [← h]
  exact World.ownsRow_lit W C xs.length hB hl (by rw [hs, Nat.mul_one])
theorem own_rds {B e : Nat} {w : World} {v : Value} {l : List ByteArray} (h : w.ownsRow B e 1 v l.length (sc l)) (hm : l.length ≤ maxLen) (hI : ∀ x ∈ l, x.size ≤ maxLen) : RowRd 1 StrEl w v l := by
  by_cases h0 : 0 < l.length
  · obtain ⟨g, cap, rfl, h1, h2, h3, h4, _⟩ := own_shape h h0
    refine .inr ⟨g, 0, cap, rfl, ⟨hm, h3⟩, h2, h0, fun i hi => ?_⟩
    have := h4 i hi
    rw [Nat.mul_one, Nat.zero_add]
    exact ⟨by rw [this]; simp [sc, hi], hI _ (List.getElem_mem hi)⟩
  · obtain rfl : l = [] := List.eq_nil_of_length_eq_zero (by omega)
    obtain ⟨hx, ⟨rfl, _⟩ | ⟨g, cap, cur, rfl, _⟩⟩ := h
    · exact .inl ⟨rfl, _, _, rfl⟩
    · exact .inl ⟨rfl, _, _, rfl⟩
theorem rd_sizes {w : World} {v : Value} {l : List ByteArray} (h : RowRd 1 StrEl w v l) : l.length ≤ maxLen ∧ ∀ x ∈ l, x.size ≤ maxLen := by
  obtain ⟨a, cap, _, hm, hR⟩ := h.form
  refine ⟨hm, fun x hx => ?_⟩
  obtain ⟨i, hi, rfl⟩ := List.getElem_of_mem hx
  obtain ⟨b, o, _, _, hc⟩ := hR (by omega)
  exact (hc i hi).2
theorem sz_ok (t : List UInt8) (h : t.length ≤ 100) : (⟨t.toArray⟩ : ByteArray).size ≤ maxLen := by
  have e : (⟨t.toArray⟩ : ByteArray).size = t.length := by show t.toArray.size = _; simp
  rw [e]; unfold maxLen; omega
theorem all1 {a : ByteArray} (h : a.size ≤ maxLen) : ∀ x ∈ [a], x.size ≤ maxLen := by simpa using h
theorem all2 {a b : ByteArray} (h : a.size ≤ maxLen) (h2 : b.size ≤ maxLen) : ∀ x ∈ [a, b], x.size ≤ maxLen := by
  intro x hx
  rcases List.mem_cons.1 hx with rfl | hx
  · exact h
  · exact all1 h2 x hx
theorem all3 {a b c : ByteArray} (h : a.size ≤ maxLen) (h2 : b.size ≤ maxLen) (h3 : c.size ≤ maxLen) : ∀ x ∈ [a, b, c], x.size ≤ maxLen := by
  intro x hx
  rcases List.mem_cons.1 hx with rfl | hx
  · exact h
  · exact all2 h2 h3 x hx
end Go.Proofs.YtkhemdagghlcdaaGreatDoor
