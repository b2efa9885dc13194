
/- The program's weaving of texts: the walk, the whole; PrintTy. -/
import Derived.Test.YtcllifmaokldbaaDoorPrU
namespace Go.Proofs.YtcllifmaokldbaaDoor
set_option linter.unusedVariables false
set_option maxRecDepth 100000
open Go.ChangeShapes Go.WideShapes Go.ChangeAt Go.RowKit

theorem iWalkW (L : List (List (List UInt8))) (hL : ∀ P ∈ L, 1 ≤ P.length) (hlen : L.length ≤ 1048576) (vt vc : Value) (bt : Nat) (wb : World) (hbt : bt < wb.heap.size) (hct : wb.cell? ⟨bt, 0, none⟩ = some vt) (hR : RowRd 1 (RowEl 1 StrEl) wb vt (L.map strs))
    (hc : RowRd 1 IntEl wb vc (L.map fun P => (P.length : Int) - 1)) :
    Calls Tryd.prog 37 #[vc, .int .i64 0, .func (.func 36) #[] #[.pointer (some ⟨wb.heap.size + 1, 0, none⟩), .pointer (some ⟨bt, 0, none⟩)]] ((wb.alloc (.cells #[] 9)).alloc (.cells #[.slice (some ⟨wb.heap.size, 0, none⟩) 0 0] 42))
      fun e w' => e = .returned (.int .i64 (walkS (vL L) (L.map fun P => (P.length : Int) - 1) (L.length + 1) [] 0).1) ∧ WI wb.heap.size (wb.heap.size + 1) wb w' (walkS (vL L) (L.map fun P => (P.length : Int) - 1) (L.length + 1) [] 0).2 := by
  refine iWalkB List.length (vL L) (fun S W => WI wb.heap.size (wb.heap.size + 1) wb W S) 36 #[.pointer (some ⟨wb.heap.size + 1, 0, none⟩), .pointer (some ⟨bt, 0, none⟩)] e_woven2 (L.map fun P => (P.length : Int) - 1) vc (by simpa using hlen) (fun s a d n => by simp [vL]) (fun _ W hW => hc.kept IntEl.st (Kept.of_below hW.bel)) ?_ (L.length + 1) [] 0 _ 0 ?_ (Nat.zero_le _) (by simp) (Int.le_refl _) (by simp)
  · intro S W a d n h hW hd h0 h1 hS
    have ha : a < L.length := by simpa using h
    have hPa := hL L[a] (List.getElem_mem ha)
    have hca : (L.map fun P => (P.length : Int) - 1)[a] = (L[a].length : Int) - 1 := by simp
    rw [hca] at hd
    have hd2 : d < L[a].length := by omega
    have hv : vL L S a d n = (true, S ++ [L[a][d]]) := by
      unfold vL
      rw [List.getElem?_eq_getElem ha, Option.getD_some, List.getElem?_eq_getElem hd2, Option.getD_some]
    rw [hv]
    refine iWrite L vt (wb.heap.size + 1) bt a d n wb W S hW (by omega) hbt hct hR ha hd2 ?_
    simp only [List.length_map] at hS
    omega
  · have hnew := heap_alloc_new (wb.alloc (.cells #[] 9)) (.cells #[.slice (some ⟨wb.heap.size, 0, none⟩) 0 0] 42)
    have hsz : (wb.alloc (.cells #[] 9)).heap.size = wb.heap.size + 1 := by simp
    rw [hsz] at hnew
    refine ⟨⟨_, hnew, ((pr_own_lit0 rfl (Nat.le_refl _)).alloc _)⟩, ?_, by simp; omega⟩
    exact ((Below.refl _ _).alloc (Nat.le_refl _) _).alloc (by simp) _
set_option maxHeartbeats 4000000 in
theorem iWoven (L : List (List (List UInt8))) (hL : ∀ P ∈ L, 1 ≤ P.length) (hlen : L.length ≤ 1048576) (vt : Value) (w : World) (hR : RowRd 1 (RowEl 1 StrEl) w vt (L.map strs)) (r : Int) (P : List (List UInt8))
    (hP : walkS (vL L) (L.map fun P => (P.length : Int) - 1) (L.length + 1) [] 0 = (r, P)) (hne : P ≠ []) (hPl : P.length ≤ 1000000) (hPf : P.flatten.length ≤ 1000000) :
    Calls Tryd.prog 18 #[vt] w fun e w' => e = .returned (.string ⟨P.flatten.toArray⟩) ∧ Below w.heap.size w w' := by
  have hR0 := hR
  obtain ⟨p, cap, rfl, hm, -⟩ := hR.form
  have hcs : ((L.map strs).map fun P => (P.length : Int) - 1) = L.map fun P => (P.length : Int) - 1 := by
    rw [List.map_map]
    exact List.map_congr_left fun x _ => by simp [strs]
  have HM := fun W (hK : Kept w W) => Lib.hid (iMapLen (L.map strs) _ W (hR0.kept (RowEl.st 1 StrEl.st) hK) (by simpa using hlen))
  rw [hcs] at HM
  have HW := fun w1 vc (hK : Kept w w1) (hbt : w.heap.size < w1.heap.size) (hct : w1.cell? ⟨w.heap.size, 0, none⟩ = some (.slice p (L.map strs).length cap)) hc => Lib.hid (iWalkW L hL hlen _ vc w.heap.size w1 hbt hct (hR0.kept (RowEl.st 1 StrEl.st) hK) hc)
  rw [hP] at HW
  simp only at HW
  have hpos : 0 < (strs P).length := by rw [strs_length]; cases P with | nil => exact absurd rfl hne | cons _ _ => simp
  have hpl2 : (strs P).length ≤ 1000000 := by rw [strs_length]; exact hPl
  have HC := Lib.hid (cat_strs P)
  have hcl : (cat (strs P)).length ≤ 140737488355328 := by rw [cat_strs]; omega
  generalize (L.map fun P => (P.length : Int) - 1) = cs at *
  clear hP hcs hR hR0 hL hm
  generalize (L.map strs).length = la at *
  go_enter Tryd.func18, Tryd.ntmps18
  go_wp2_with fail
  refine (HM _ (Kept.alloc _ _)).out.mono ?_
  rintro e w1 ⟨vc, rfl, rc, hb1⟩
  have B1 := below_tr (Joins.below_alloc1 w _) hb1
  have K1 := Kept.of_below B1
  have z1 : w.heap.size < w1.heap.size := by have := hb1.size; simp at this; omega
  have c1 : w1.cell? ⟨w.heap.size, 0, none⟩ = some (.slice p la cap) := by rw [hb1.cell (p := ⟨w.heap.size, 0, none⟩) (by simp)]; simp
  have HW1 := HW w1 vc K1 z1 c1 rc
  clear HW HM hb1
  go_wp2_with (first
    | (go_at_call 37; go_loud (refine HW1.out.mono ?_); rintro e w2 ⟨rfl, hI⟩; obtain ⟨⟨vp, hh, ho⟩, hbel, hsz⟩ := hI; obtain ⟨y1, y2⟩ := pr_box_cell hh; obtain ⟨g, gc, rfl, g1, g2, g3, g4, -⟩ := own_shape ho hpos; have J := Lib.hid (joined g 0 gc (strs P) w2 (fun j x hj => by rw [Nat.zero_add, g4 j (List.getElem?_eq_some_iff.1 hj).1, sc, List.getElem?_map, hj]; rfl) g2 (by omega) g3 hcl); clear g4)
    | (go_at_call 38; go_loud (refine J.out.mono ?_); rintro e w3 ⟨rfl, hb3⟩))
  go_ret
  exact ⟨by rw [← HC.out]; rfl, below_tr (below_tr B1 hbel) hb3⟩
/-- The library's table of powers lies there. -/
structure TabE (w : World) : Prop where
  t : Lib.TabIs Tryd.prog w "internal/strconv.uint64pow10" .u64 Lib.pow10Tab
theorem TabE.below {w w' : World} (h : TabE w) (hb : Below w.heap.size w w') : TabE w' := ⟨tab_below h.t hb⟩
theorem pr_ne {l : List TyI} (h : tyOkB l = true) : prTy varL (l.length + 1) l 0 ≠ [] := by
  obtain ⟨_, _, h3⟩ := tyOk_parts h
  have h0 : 0 < l.length := by
    by_cases hc : 0 < l.length
    · exact hc
    · rw [endF_out _ _ _ (.inr (by omega))] at h3; omega
  intro h
  rw [prTy, show (0 : Int).toNat = 0 from rfl, List.getElem?_eq_getElem h0] at h
  simp only at h
  split at h
  · unfold varL at h; split at h <;> simp at h
  · rename_i hn
    split at h
    · exact hn h
    · split at h
      · simp at h
      · split at h <;> simp at h
end Go.Proofs.YtcllifmaokldbaaDoor
