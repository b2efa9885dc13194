/- Both lexers at every text; their tokens in memory. -/
import Derived.Test.YtjflnpcmjibcpaaGreatDoorLexT
import Derived.Test.YtjflnpcmjibcpaaGreatDoorLexP
namespace Go.Proofs.YtjflnpcmjibcpaaGreatDoor
set_option linter.unusedVariables false
set_option maxRecDepth 100000
open Go.ChangeShapes Go.WideShapes Go.ChangeAt Go.RowKit

theorem iLex (s : ByteArray) (w : World) (hs : s.size ≤ maxLen) (hV : Vars w) : Calls Tryz.prog 5 #[.string s] w (LexOut (lexL s.data.toList) w) := by
  by_cases h : 4000 < s.size
  · exact iLex_long s w hs h
  · exact iLex_short s w h hV
theorem sLex (s : ByteArray) (w : World) (hs : s.size ≤ maxLen) : Calls Tryz.prog 6 #[.string s] w (LexOut (lexL s.data.toList) w) := by
  by_cases h : 4000 < s.size
  · exact sLex_long s w hs h
  · exact sLex_short s w h
/-- LexOut, its three parts named. -/
def LexGot (l : List Tk) (c p : Nat) (w : World) (e : Ending) (w' : World) : Prop :=
  ∃ v, e = .returned (.tuple #[v, .int .i64 (c : Int), .int .i64 (p : Int)]) ∧ w'.ownsRow w.heap.size 28 4 v l.length (tc l) ∧ Below w.heap.size w w'
theorem iLexG (s : ByteArray) (l : List Tk) (c p : Nat) (w : World) (hs : s.size ≤ maxLen) (hV : Vars w) (h : lexL s.data.toList = (l, c, p)) : Calls Tryz.prog 5 #[.string s] w (LexGot l c p w) := by
  have := iLex s w hs hV
  rw [h] at this; exact this
theorem sLexG (s : ByteArray) (l : List Tk) (c p : Nat) (w : World) (hs : s.size ≤ maxLen) (h : lexL s.data.toList = (l, c, p)) : Calls Tryz.prog 6 #[.string s] w (LexGot l c p w) := by
  have := sLex s w hs
  rw [h] at this; exact this
theorem lexA_len : ∀ (f p : Nat) (acc : List Tk) (l : List UInt8), (lexA f p acc l).1.length ≤ acc.length + l.length := by
  intro f
  induction f with
  | zero => intro p acc l; simp [lexA]
  | succ f ih =>
    intro p acc l
    cases l with
    | nil => simp [lexA]
    | cons c t =>
      rw [lexA]
      split
      · have := ih (p + 1) acc t; simp; omega
      · split
        · split
          · simp
          · rename_i z hz
            have := ih (p + z) acc ((c :: t).drop z)
            simp at this ⊢; omega
        · split
          · rename_i hc
            have h0 := firstF_pos _ hc
            have h1 := firstF_z (c :: t)
            have := ih (p + (firstF (c :: t)).z) (acc ++ [(firstF (c :: t)).tk p]) ((c :: t).drop (firstF (c :: t)).z)
            simp at this h1 ⊢; omega
          · simp
theorem lexL_len (l : List UInt8) : (lexL l).1.length ≤ 4000 := by
  unfold lexL
  split
  · simp
  · have := lexA_len l.length 0 [] l
    simp at this; omega
theorem tc_get (l : List Tk) (i j : Nat) (hi : i < l.length) (hj : j < 4) : (tc l)[i * 4 + j]? = (tkC l[i])[j]? := by
  induction l generalizing i with
  | nil => simp at hi
  | cons t l ih =>
    have hc : tc (t :: l) = tkC t ++ tc l := by simp [tc]
    cases i with
    | zero => rw [hc, List.getElem?_append_left (by simp [tkC]; omega)]; simp
    | succ i =>
      rw [hc, List.getElem?_append_right (by simp [tkC]; omega), show (i + 1) * 4 + j - (tkC t).length = i * 4 + j from by simp [tkC]; omega]
      exact ih i (by simpa using hi)
/-- The slice at a holds the tokens l. -/
def TokRow (w : World) (a : Option Addr) (l : List Tk) : Prop :=
  l = [] ∨ ∃ g, a = some ⟨g, 0, none⟩ ∧ g < w.heap.size ∧ ∀ i (h : i < l.length), w.cell? ⟨g, i * 4, none⟩ = some (.int .i64 l[i].k) ∧ w.cell? ⟨g, i * 4 + 1, none⟩ = some (.int .i64 l[i].n) ∧ w.cell? ⟨g, i * 4 + 2, none⟩ = some (.string (bs l[i].s)) ∧ w.cell? ⟨g, i * 4 + 3, none⟩ = some (.int .i64 ((l[i].at_ : Nat) : Int))
theorem TokRow.below {w w' : World} {a : Option Addr} {l : List Tk} (h : TokRow w a l) (hb : Below w.heap.size w w') : TokRow w' a l := by
  rcases h with h | ⟨g, h1, h2, h3⟩
  · exact .inl h
  · refine .inr ⟨g, h1, Nat.lt_of_lt_of_le h2 hb.size, fun i hi => ?_⟩
    obtain ⟨c0, c1, c2, c3⟩ := h3 i hi
    exact ⟨by rw [hb.cell h2]; exact c0, by rw [hb.cell h2]; exact c1, by rw [hb.cell h2]; exact c2, by rw [hb.cell h2]; exact c3⟩
/-- What is owned, cell by cell. -/
theorem own_row {B T : Nat} {w : World} {v : Value} {l : List Tk} (h : w.ownsRow B T 4 v l.length (tc l)) :
    (l = [] ∧ ∃ a cap, v = .slice a 0 cap) ∨ (0 < l.length ∧ ∃ g cap, v = .slice (some ⟨g, 0, none⟩) l.length cap ∧ B ≤ g ∧ TokRow w (some ⟨g, 0, none⟩) l) := by
  by_cases hl : 0 < l.length
  · right
    obtain ⟨g, cap, rfl⟩ := Joins.ownsRow_form h hl
    have hlt := (h.lt g rfl)
    have hcell := fun j (hj : j < l.length * 4) => h.cellAt j hj
    refine ⟨hl, g, cap, rfl, hlt.1, .inr ⟨g, rfl, hlt.2, fun i hi => ?_⟩⟩
    have g0 := tc_get l i 0 hi (by omega)
    have g1 := tc_get l i 1 hi (by omega)
    have g2 := tc_get l i 2 hi (by omega)
    have g3 := tc_get l i 3 hi (by omega)
    refine ⟨?_, ?_, ?_, ?_⟩
    · rw [hcell _ (by omega)]; exact g0
    · rw [hcell _ (by omega)]; exact g1
    · rw [hcell _ (by omega)]; exact g2
    · rw [hcell _ (by omega)]; exact g3
  · left
    have hn : l = [] := List.eq_nil_of_length_eq_zero (by omega)
    subst hn
    refine ⟨rfl, ?_⟩
    rcases h.2 with ⟨rfl, _⟩ | ⟨g, cap, cur, rfl, _⟩
    · exact ⟨_, _, rfl⟩
    · exact ⟨_, _, rfl⟩
end Go.Proofs.YtjflnpcmjibcpaaGreatDoor
