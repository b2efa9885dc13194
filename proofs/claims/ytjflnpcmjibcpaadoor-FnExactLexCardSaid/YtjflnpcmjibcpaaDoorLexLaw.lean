/- Both lexers at every text; their tokens as the law reads them. -/
import Derived.Test.YtjflnpcmjibcpaaDoorLexT
import Derived.Test.YtjflnpcmjibcpaaDoorLexP
import Derived.Test.YtjflnpcmjibcpaaDoorTokLaw
namespace Go.Proofs.YtjflnpcmjibcpaaDoor
set_option linter.unusedVariables false
set_option maxRecDepth 100000
open Go.ChangeShapes Go.WideShapes Go.ChangeAt Go.RowKit

theorem iLex (s : ByteArray) (w : World) (hs : s.size ≤ maxLen) (hV : Vars w) : Calls Tryd.prog 5 #[.string s] w (LexOut (lexL s.data.toList) w) := by
  by_cases h : 4000 < s.size
  · exact iLex_long s w hs h
  · exact iLex_short s w h hV
theorem sLex (s : ByteArray) (w : World) (hs : s.size ≤ maxLen) : Calls Tryd.prog 4 #[.string s] w (LexOut (lexL s.data.toList) w) := by
  by_cases h : 4000 < s.size
  · exact sLex_long s w hs h
  · exact sLex_short s w h
/-- LexOut, its three parts named. -/
def LexGot (l : List Tk) (c p : Nat) (w : World) (e : Ending) (w' : World) : Prop :=
  ∃ v, e = .returned (.tuple #[v, .int .i64 (c : Int), .int .i64 (p : Int)]) ∧ w'.ownsRow w.heap.size 31 4 v l.length (tc l) ∧ Below w.heap.size w w'
theorem iLexG (s : ByteArray) (l : List Tk) (c p : Nat) (w : World) (hs : s.size ≤ maxLen) (hV : Vars w) (h : lexL s.data.toList = (l, c, p)) : Calls Tryd.prog 5 #[.string s] w (LexGot l c p w) := by
  have := iLex s w hs hV
  rw [h] at this; exact this
theorem sLexG (s : ByteArray) (l : List Tk) (c p : Nat) (w : World) (hs : s.size ≤ maxLen) (h : lexL s.data.toList = (l, c, p)) : Calls Tryd.prog 4 #[.string s] w (LexGot l c p w) := by
  have := sLex s w hs
  rw [h] at this; exact this
theorem lexA_len : ∀ (f p : Nat) (acc : List Tk) (l : List UInt8), (lexA f p acc l).1.length ≤ acc.length + l.length := by
  intro f
  induction f with
  | zero => intro p acc l; simp [lexA]
  | succ f ih =>
    intro p acc l
    cases l with
    | nil => simp [lexA]
    | cons c t =>
      rw [lexA]
      split
      · have := ih (p + 1) acc t; simp; omega
      · split
        · split
          · simp
          · rename_i z hz
            have := ih (p + z) acc ((c :: t).drop z)
            simp at this ⊢; omega
        · split
          · rename_i hc
            have h0 := firstF_pos _ hc
            have h1 := firstF_z (c :: t)
            have := ih (p + (firstF (c :: t)).z) (acc ++ [(firstF (c :: t)).tk p]) ((c :: t).drop (firstF (c :: t)).z)
            simp at this h1 ⊢; omega
          · simp
theorem lexL_len (l : List UInt8) : (lexL l).1.length ≤ 4000 := by
  unfold lexL
  split
  · simp
  · have := lexA_len l.length 0 [] l
    simp at this; omega
theorem tc_get (l : List Tk) (i j : Nat) (hi : i < l.length) (hj : j < 4) : (tc l)[i * 4 + j]? = (tkC l[i])[j]? := by
  induction l generalizing i with
  | nil => simp at hi
  | cons t l ih =>
    have hc : tc (t :: l) = tkC t ++ tc l := by simp [tc]
    cases i with
    | zero => rw [hc, List.getElem?_append_left (by simp [tkC]; omega)]; simp
    | succ i =>
      rw [hc, List.getElem?_append_right (by simp [tkC]; omega), show (i + 1) * 4 + j - (tkC t).length = i * 4 + j from by simp [tkC]; omega]
      exact ih i (by simpa using hi)
/-- What is owned, as the law reads it. -/
theorem own_toks {B T : Nat} {w : World} {v : Value} {l : List Tk} (h : w.ownsRow B T 4 v l.length (tc l)) :
    (l = [] ∧ ∃ a cap, v = .slice a 0 cap) ∨ (0 < l.length ∧ ∃ g cap, v = .slice (some ⟨g, 0, none⟩) l.length cap ∧ B ≤ g ∧ TokRow w (some ⟨g, 0, none⟩) l ∧ ∀ k, Marked w g (l.length * 4) k 0) := by
  by_cases hl : 0 < l.length
  · right
    obtain ⟨g, cap, rfl⟩ := Joins.ownsRow_form h hl
    have hlt := (h.lt g rfl)
    have hcell := fun j (hj : j < l.length * 4) => h.cellAt j hj
    refine ⟨hl, g, cap, rfl, hlt.1, .inr ⟨g, rfl, hlt.2, fun i hi => ?_⟩, fun k => ⟨hlt.2, fun i => h.frozenAt i, fun i hi => ?_, fun i hi => by omega⟩⟩
    · have g0 := tc_get l i 0 hi (by omega)
      have g1 := tc_get l i 1 hi (by omega)
      have g2 := tc_get l i 2 hi (by omega)
      have g3 := tc_get l i 3 hi (by omega)
      refine ⟨?_, ?_, ?_, ?_⟩
      · rw [hcell _ (by omega)]; exact g0
      · rw [hcell _ (by omega)]; exact g1
      · rw [hcell _ (by omega)]; exact g2
      · rw [hcell _ (by omega)]; exact g3
    · rw [hcell i hi]
      exact ⟨_, List.getElem?_eq_getElem (by rw [tc_length]; exact hi)⟩
  · left
    have hn : l = [] := List.eq_nil_of_length_eq_zero (by omega)
    subst hn
    refine ⟨rfl, ?_⟩
    rcases h.2 with ⟨rfl, _⟩ | ⟨g, cap, cur, rfl, _⟩
    · exact ⟨_, _, rfl⟩
    · exact ⟨_, _, rfl⟩
theorem TokRow.but {w w' : World} {g g' : Nat} {l : List Tk} (h : TokRow w (some ⟨g, 0, none⟩) l) (hb : But g' w w') (hg : g ≠ g') : TokRow w' (some ⟨g, 0, none⟩) l := by
  rcases h with h | ⟨g2, h1, h2, h3⟩
  · exact .inl h
  · cases h1
    have hc : ∀ j, w'.cell? ⟨g, j, none⟩ = w.cell? ⟨g, j, none⟩ := fun j => World.cell?_of_block (a := ⟨g, j, none⟩) (hb.block g h2 (by simpa using hg))
    refine .inr ⟨g, rfl, Nat.lt_of_lt_of_le h2 hb.size, fun i hi => ?_⟩
    obtain ⟨c0, c1, c2, c3⟩ := h3 i hi
    exact ⟨by rw [hc]; exact c0, by rw [hc]; exact c1, by rw [hc]; exact c2, by rw [hc]; exact c3⟩
theorem But.bel {g B : Nat} {w w' : World} (h : But g w w') (hg : B ≤ g) (hB : B ≤ w.heap.size) : Below B w w' :=
  ⟨h.os, h.tape, h.output, h.size, fun k hk => h.block k (by omega) (by simp; omega)⟩
theorem markTok0 (a : Option Addr) (cap k : Nat) (w : World) : Calls Tryd.prog 7 #[.slice a 0 cap, .int .i64 k] w fun e w' => e = .returned (.int .i64 k) ∧ w = w' := by
  go_enter Tryd.func7, Tryd.ntmps7
  go_wp2
  refine wp_loop_rounds 1 ?_
  rw [rounds_succ]
  go_wp2
  go_ret
  exact ⟨rfl, rfl⟩
theorem heldTok0 (a : Option Addr) (cap k : Nat) (w : World) : Calls Tryd.prog 8 #[.slice a 0 cap, .int .i64 k] w fun e w' => e = .returned (.int .i64 k) ∧ w = w' := by
  go_enter Tryd.func8, Tryd.ntmps8
  go_wp2
  refine wp_loop_rounds 1 ?_
  rw [rounds_succ]
  go_wp2
  go_ret
  exact ⟨rfl, rfl⟩
theorem eqTok0 (a b : Option Addr) (cap cap' : Nat) (w : World) : Calls Tryd.prog 6 #[.slice a 0 cap, .slice b 0 cap'] w fun e w' => e = .returned (.bool true) ∧ w = w' := by
  go_enter Tryd.func6, Tryd.ntmps6
  go_wp2
  refine wp_loop_rounds 1 ?_
  rw [rounds_succ]
  go_wp2
  go_ret
  exact ⟨rfl, rfl⟩
theorem markTok1 (g cap n : Nat) (w : World) (hn : n ≤ 4000) (hM : Marked w g (n * 4) 1 0) :
    Calls Tryd.prog 7 #[.slice (some ⟨g, 0, none⟩) n cap, .int .i64 1] w fun e w' => e = .returned (.int .i64 ((1 + n * 4 : Nat) : Int)) ∧ Marked w' g (n * 4) 1 (n * 4) ∧ But g w w' :=
  markTokS g cap n 1 w hn (by omega) (by omega) hM
theorem heldTok1 (g cap n : Nat) (w : World) (hn : n ≤ 4000) (hM : Marked w g (n * 4) 1 (n * 4)) :
    Calls Tryd.prog 8 #[.slice (some ⟨g, 0, none⟩) n cap, .int .i64 1] w fun e w' => e = .returned (.int .i64 ((1 + n * 4 : Nat) : Int)) ∧ Below w.heap.size w w' :=
  heldTokS g cap n 1 w hn (by omega) (by omega) hM
end Go.Proofs.YtjflnpcmjibcpaaDoor
