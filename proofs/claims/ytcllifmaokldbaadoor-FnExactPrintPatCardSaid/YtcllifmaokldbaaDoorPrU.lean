/- The program's weaving of texts: the writer, the walk, the whole; PrintTy. -/
import Derived.Test.YtcllifmaokldbaaDoorPrV
namespace Go.Proofs.YtcllifmaokldbaaDoor
set_option linter.unusedVariables false
set_option maxRecDepth 100000
open Go.ChangeShapes Go.WideShapes Go.ChangeAt Go.RowKit

/-- The visitor that gathers, over rows of texts. -/
def vL (L : List (List (List UInt8))) (s : List (List UInt8)) (a d : Nat) (_ : Int) : Bool × List (List UInt8) := (true, s ++ [(L[a]?.getD [])[d]?.getD []])
theorem vL_vPr (vt : Int → List UInt8) (l : List TyI) : vL (l.map (itemT vt)) = vPr vt l := by
  funext s a d n
  unfold vL vPr
  rw [List.getElem?_map]
  cases l[a]? <;> simp
/-- What is gathered so far, in the world. -/
structure WI (B bp : Nat) (wb W : World) (S : List (List UInt8)) : Prop where
  ex : ∃ vp, W.heap[bp]? = some (.cells #[vp] 42 (0, 0)) ∧ W.ownsRow B 9 1 vp (strs S).length (sc (strs S))
  bel : Below B wb W
  sz : B ≤ W.heap.size
set_option maxHeartbeats 4000000 in
theorem iWrite (L : List (List (List UInt8))) (vt : Value) (bp bt a d : Nat) (n : Int) (wb W : World) (S : List (List UInt8)) (hI : WI wb.heap.size bp wb W S) (hbp : wb.heap.size ≤ bp) (hbt : bt < wb.heap.size)
    (hct : wb.cell? ⟨bt, 0, none⟩ = some vt) (hR : RowRd 1 (RowEl 1 StrEl) wb vt (L.map strs)) (ha : a < L.length) (hd : d < L[a].length) (hS : S.length ≤ 4194304) :
    Calls Tryd.prog 36 #[.int .i64 a, .int .i64 d, .int .i64 n, .pointer (some ⟨bp, 0, none⟩), .pointer (some ⟨bt, 0, none⟩)] W fun e w' => e = .returned (.bool true) ∧ WI wb.heap.size bp wb w' (S ++ [L[a][d]]) := by
  obtain ⟨⟨vp, hh, ho⟩, hbel, hsz⟩ := hI
  obtain ⟨i0, hi, hz0, hz1, hz2⟩ := info_parts info_str'
  obtain ⟨p, cap, rfl, hm, hRf⟩ := (hR.kept (RowEl.st 1 StrEl.st) (Kept.of_below hbel)).form
  have ha' : a < (L.map strs).length := by simpa using ha
  obtain ⟨b, o, rfl, hb, hc⟩ := hRf (by omega)
  obtain ⟨u, eu, ru⟩ := hc a ha'
  have hrow : (L.map strs)[a] = strs L[a] := by simp
  rw [hrow] at ru
  rw [Nat.mul_one] at eu
  obtain ⟨p2, cap2, rfl, hm2, hRf2⟩ := ru.form
  have hd' : d < (strs L[a]).length := by rw [strs_length]; exact hd
  obtain ⟨b2, o2, rfl, hb2, hc2⟩ := hRf2 (by omega)
  obtain ⟨e3, i3⟩ := hc2 d hd'
  have hstr : (strs L[a])[d] = ⟨(L[a][d]).toArray⟩ := by simp [strs]
  rw [hstr] at e3
  rw [Nat.mul_one] at e3
  have ct : W.cell? ⟨bt, 0, none⟩ = some (.slice (some ⟨b, o, none⟩) (L.map strs).length cap) := (hbel.cell (p := ⟨bt, 0, none⟩) hbt).trans hct
  have hlt : bp < W.heap.size := (Array.getElem?_eq_some_iff.1 hh).1
  obtain ⟨c1, f1⟩ := pr_box_cell hh
  have HS := Lib.hid (show strs (S ++ [L[a][d]]) = strs S ++ [⟨(L[a][d]).toArray⟩] from by simp [strs])
  have hsl : (strs S).length ≤ 4194304 := by rw [strs_length]; exact hS
  have hia : (a : Int) < ((L.map strs).length : Int) := by omega
  have hid2 : (d : Int) < ((strs L[a]).length : Int) := by omega
  have hHH := Lib.hid hh
  unfold maxLen at hm hm2
  clear i3 hR hRf hRf2 hc hc2 ru hrow hstr hct hh ha' hd'
  generalize (L.map strs).length = la at *
  generalize (strs L[a]).length = ld at *
  generalize L[a][d] = t at *
  generalize (⟨t.toArray⟩ : ByteArray) = s at *
  go_enter Tryd.func36, Tryd.ntmps36
  go_wp2_with fail
  go_region_law (first | (refine step_append_own rfl (.tmp 9) (.tmp 17) 42 rfl wb.heap.size 9 i0 (.string ⟨#[]⟩) 1 16 Tryd.underlying42 hi hz0 hz1 hz2 rfl (by decide) _ (strs S).length (sc (strs S)) rfl (ho.drew.alloc _) ⟨W.heap.size, 0, none⟩ 1 1 [.string s] rfl rfl (new_cells _ _ _ _ rfl) (sc_one [s]) (by unfold maxLen; omega) (by omega) (by simp; omega) ?_; intro v' w2 hown' hgrow _; have hb3 := (hgrow.block bp (by simp; omega) (fun e => pr_own_ne ho hHH.out (by decide) e.symm)).trans (((Below.refl W.heap.size W).drew.alloc (by simp) _).block bp hlt); have hb4 := hb3.trans hHH.out; obtain ⟨y1, y2⟩ := pr_box_cell hb4; obtain ⟨g, gc, rfl, -, -, -, -, -⟩ := own_shape hown' (by omega)))
  all_goals
    go_wp2
    go_ret
    have O := own_strs rfl rfl (l' := [s]) rfl rfl hown'
    have R := own_app ho.drew hbel.drew (Nat.le_refl _) (by simpa using hsz) hgrow
    rw [← HS.out] at O
    refine ⟨rfl, ⟨_, pr_box_set hb4, pr_own_set O (pr_own_ne O hb4 (by decide))⟩, R.1.setCell (by show wb.heap.size ≤ bp; omega) _, by rw [setCell_size]; exact R.2⟩
end Go.Proofs.YtcllifmaokldbaaDoor
