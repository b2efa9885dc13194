/- What holds of all tokens of a text: their places ascend, and every word is of its class. -/
import Derived.Test.YtjflnpcmjibcpaaGreatDoorLexMath
namespace Go.Proofs.YtjflnpcmjibcpaaGreatDoor
set_option linter.unusedVariables false
open Go.RowKit

/-- A token of its class. -/
def TkOk (t : Tk) : Prop := (t.k = 3 → nameB (bs t.s) = true) ∧ (t.k = 4 → conB (bs t.s) = true)
theorem firstF_ok (l : List UInt8) (p : Nat) : TkOk ((firstF l).tk p) := by
  have hb : ∀ c, TkOk ((FT.bad c).tk p) := fun c => ⟨fun h => by simp [FT.bad, FT.tk] at h, fun h => by simp [FT.bad, FT.tk] at h⟩
  have hk : ∀ (k n : Int) (s : List UInt8) (z : Nat), k ≠ 3 → k ≠ 4 → TkOk ((⟨0, k, n, s, z⟩ : FT).tk p) := fun k n s z h3 h4 => ⟨fun h => absurd h h3, fun h => absurd h h4⟩
  unfold firstF
  split
  · exact hb 2
  · split
    · unfold numF; split
      · exact hk _ _ _ _ (by decide) (by decide)
      · exact hb 3
    · split
      · unfold wordF
        split
        · rename_i h; exact ⟨fun _ => h, fun h4 => by simp [FT.tk] at h4⟩
        · split
          · rename_i h; exact ⟨fun h3 => by simp [FT.tk] at h3, fun _ => h⟩
          · split
            · exact hk _ _ _ _ (by decide) (by decide)
            · exact hb 5
      · split
        · unfold varF
          split
          · split
            · exact hk _ _ _ _ (by decide) (by decide)
            · exact hb 2
          · exact hb 2
        · split
          · unfold strF
            split
            · split
              · exact hk _ _ _ _ (by decide) (by decide)
              · exact hb 4
            · exact hb 4
          · unfold symF
            split
            · exact hb 2
            · exact hk _ _ _ _ (by decide) (by decide)
/-- Tokens that a lexer has found up to place p. -/
def Found (p : Nat) (l : List Tk) : Prop := (∀ t ∈ l, TkOk t ∧ t.at_ < p) ∧ l.Pairwise (fun a b => a.at_ < b.at_)
theorem found_nil (p : Nat) : Found p [] := ⟨fun t h => by simp at h, List.Pairwise.nil⟩
theorem found_mono {p q : Nat} {l : List Tk} (h : Found p l) (hq : p ≤ q) : Found q l := ⟨fun t ht => ⟨(h.1 t ht).1, by have := (h.1 t ht).2; omega⟩, h.2⟩
theorem found_snoc {p q : Nat} {l : List Tk} {t : Tk} (h : Found p l) (hq : p < q) (ht : TkOk t) (hp : t.at_ = p) : Found q (l ++ [t]) := by
  refine ⟨fun u hu => ?_, ?_⟩
  · rcases List.mem_append.1 hu with hu | hu
    · exact ⟨(h.1 u hu).1, by have := (h.1 u hu).2; omega⟩
    · simp at hu; subst hu; exact ⟨ht, by omega⟩
  · rw [List.pairwise_append]
    exact ⟨h.2, by simp, fun a ha b hb => by simp at hb; subst hb; rw [hp]; exact (h.1 a ha).2⟩
theorem lexA_found : ∀ (f p : Nat) (acc : List Tk) (l : List UInt8), Found p acc → ∃ q, Found q (lexA f p acc l).1 := by
  intro f
  induction f with
  | zero => intro p acc l h; exact ⟨p, by simpa [lexA] using h⟩
  | succ f ih =>
    intro p acc l h
    cases l with
    | nil => exact ⟨p, by simpa [lexA] using h⟩
    | cons c t =>
      rw [lexA]
      split
      · exact ih _ _ _ (found_mono h (by omega))
      · split
        · split
          · exact ⟨0, found_nil 0⟩
          · exact ih _ _ _ (found_mono h (by omega))
        · split
          · rename_i hc
            exact ih _ _ _ (found_snoc h (by have := firstF_pos _ hc; omega) (firstF_ok _ _) rfl)
          · exact ⟨0, found_nil 0⟩
theorem lexL_found (l : List UInt8) : ∃ q, Found q (lexL l).1 := by
  unfold lexL
  split
  · exact ⟨0, found_nil 0⟩
  · exact lexA_found _ _ _ _ (found_nil 0)
theorem found_at {q : Nat} {l : List Tk} (h : Found q l) (i : Nat) (hi : i < l.length) : TkOk l[i] := (h.1 _ (List.getElem_mem hi)).1
theorem found_asc {q : Nat} {l : List Tk} (h : Found q l) (i : Nat) (hi : i + 1 < l.length) : l[i].at_ < l[i + 1].at_ := List.pairwise_iff_getElem.1 h.2 i (i + 1) (by omega) hi (by omega)
end Go.Proofs.YtjflnpcmjibcpaaGreatDoor
