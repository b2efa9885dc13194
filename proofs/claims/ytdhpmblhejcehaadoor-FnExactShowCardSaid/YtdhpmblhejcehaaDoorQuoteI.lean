/- The program's Quote: the same text as the model's. -/
import Derived.Test.YtdhpmblhejcehaaDoorJoined
namespace Go.Proofs.YtdhpmblhejcehaaDoor
set_option linter.unusedVariables false
set_option maxRecDepth 100000
open Go.ChangeShapes Go.WideShapes Go.ChangeAt Go.RowKit

theorem info_str : (Tryd.prog.info? 9).map (fun i => (i.zero, i.size, i.bytes)) = some (some (.string ⟨#[]⟩), 1, 16) := by kernel_rfl
def piece (c : UInt8) : ByteArray := ⟨(qb c).toArray⟩
def pieces (s : ByteArray) (k : Nat) : List ByteArray := ⟨#[34]⟩ :: (s.data.toList.take k).map piece
theorem pieces_length (s : ByteArray) (k : Nat) (hk : k ≤ s.size) : (pieces s k).length = k + 1 := by simp [pieces]; omega
theorem pieces_succ (s : ByteArray) (k : Nat) (h : k < s.size) : pieces s (k + 1) = pieces s k ++ [piece s[k]] := by
  unfold pieces
  have ht : s.data.toList.take (k + 1) = s.data.toList.take k ++ [s[k]] := by
    rw [List.take_succ_eq_append_getElem (by simpa using h)]; rfl
  rw [ht]; simp
theorem pieces_end (s : ByteArray) : cat (pieces s s.size ++ [⟨#[34]⟩]) = quoteL s.data.toList := by
  have h : s.data.toList.take s.size = s.data.toList := List.take_of_length_le (by simp)
  unfold cat pieces quoteL
  rw [h]
  simp only [List.map_append, List.map_cons, List.map_map, List.map_nil, List.flatten_append, List.flatten_cons, List.flatten_nil, List.flatMap_def]
  simp [piece, Function.comp_def]
theorem cat_length (s : ByteArray) (h : s.size ≤ 1048576) : (cat (pieces s s.size ++ [⟨#[34]⟩])).length ≤ 140737488355328 := by
  rw [pieces_end]; unfold quoteL
  have := flat_length s.data.toList
  simp only [List.length_cons, List.length_append, List.length_nil]
  have hs : s.data.toList.length = s.size := rfl
  omega
set_option maxRecDepth 100000 in
set_option maxHeartbeats 1000000 in
theorem iQuote (s : ByteArray) (w : World) (hs : s.size ≤ 1048576) :
    Calls Tryd.prog 51 #[.string s] w fun e w' => e = .returned (.string ⟨(quoteL s.data.toList).toArray⟩) ∧ Below w.heap.size w w' := by
  obtain ⟨i0, hi, hz0, hz1, hz2⟩ := info_parts info_str
  go_enter Tryd.func51, Tryd.ntmps51
  go_wp2
  go_loopw [3, 4] (fun v i wr => ∃ k : Nat, k ≤ s.size ∧ i = .int .i64 k ∧ wr.ownsRow w.heap.size 9 1 v (pieces s k).length (sc (pieces s k)) ∧ Below w.heap.size w wr ∧ w.heap.size ≤ wr.heap.size)
    (fun _ i _ => s.size - (intOf i).toNat)
  case atStart => 
    refine ⟨0, Nat.zero_le _, rfl, ?_, (Below.refl _ _).alloc (Nat.le_refl _) _, by simp⟩
    exact World.ownsRow_lit w #[.string ⟨#[34]⟩] 1 (Nat.le_refl _) (by decide) rfl
  case round =>
    obtain ⟨k, hk, rfl, hown, hbel, hBs⟩ := hrel
    have hql := pieces_length s k hk
    have HL := Lib.hid hql
    have hqb : (pieces s k).length ≤ 1048577 := by omega
    clear hql
    by_cases hlt : k < s.size
    · have hq := Lib.hid (pieces_succ s k hlt)
      go_wp2_with (first
        | (go_at_call 63; refine (quotedByte _ _).mono ?_; rintro e w1 ⟨rfl, hb⟩; have hown1 := own_below hown hb; have hbel1 := hbel.trans (hb.mono hBs); have hBs1 := Nat.le_trans hBs hb.size)
        | (at_builtin; refine wpList_append_own _ rfl (.tmp 12) (.tmp 17) 85 rfl w.heap.size 9 i0 (.string ⟨#[]⟩) 1 16 Tryd.underlying85 hi hz0 hz1 hz2 rfl (by decide) _ (pieces s k).length (sc (pieces s k)) rfl (hown1.alloc _) ⟨w1.heap.size, 0, none⟩ 1 1 [.string (piece s[k])] rfl rfl (new_cells _ _ _ _ rfl) (sc_one [piece s[k]]) (by unfold maxLen; omega) (by omega) (by simp; omega) ?_; intro v' w2 hown' hgrow _))
      have R := own_app hown1 hbel1 (Nat.le_refl _) hBs1 hgrow
      have O := own_strs rfl rfl (l' := [piece s[k]]) rfl rfl hown'
      clear hown hown1 hown' hgrow hbel hbel1
      go_roundw
      case rel => exact ⟨k + 1, by omega, by go_num, by rw [hq.out]; exact O, R.1, R.2⟩
      case measure => simp [intOf]; omega
    · obtain rfl : k = s.size := by omega
      have hq := Lib.hid (pieces_end s)
      have hcl := Lib.hid (cat_length s hs)
      go_wp2_with (first
        | (at_builtin; refine wpList_append_own _ rfl (.tmp 19) (.tmp 20) 85 rfl w.heap.size 9 i0 (.string ⟨#[]⟩) 1 16 Tryd.underlying85 hi hz0 hz1 hz2 rfl (by decide) _ (pieces s s.size).length (sc (pieces s s.size)) rfl (hown.alloc _) ⟨wr.heap.size, 0, none⟩ 1 1 [.string ⟨#[34]⟩] rfl rfl (new_cells _ _ _ _ rfl) (sc_one [⟨#[34]⟩]) (by unfold maxLen; omega) (by omega) (by simp; omega) ?_; intro v' w1 hown' hgrow _; have R := own_app hown hbel (Nat.le_refl _) hBs hgrow; have O := own_strs rfl rfl (l' := [⟨#[34]⟩]) rfl rfl hown'; obtain ⟨g, cap, rfl, hg1, hg2, hg3, hg4, _⟩ := own_shape O (by simp))
        | fail)
      have hcell : ∀ (j : Nat) x, (pieces s s.size ++ [⟨#[34]⟩])[j]? = some x → w1.cell? ⟨g, 0 + j, none⟩ = some (.string x) := fun j x hj => by
        rw [Nat.zero_add, hg4 j (List.getElem?_eq_some_iff.1 hj).1, sc, List.getElem?_map, hj]; rfl
      have J := joined g 0 cap _ w1 hcell hg2 (by simp only [List.length_append, List.length_singleton]; omega) hg3 hcl.out
      simp only [List.length_append, List.length_cons, List.length_nil, Nat.zero_add] at J
      refine J.mono ?_
      rintro e w2 ⟨rfl, hb⟩
      clear hcell hg4
      go_wp2
      go_ret
      exact ⟨by rw [← hq.out]; rfl, R.1.trans (hb.mono R.2)⟩
end Go.Proofs.YtdhpmblhejcehaaDoor
