/- Texts of this proof, merged: PrT, QpN, QpT. -/
import Derived.Test.YtbehcmogndpkhaaGreatDoorM13
import Derived.Test.YtbehcmogndpkhaaGreatDoorM9
import Derived.Test.YtbehcmogndpkhaaGreatDoorM11
import Derived.Test.YtbehcmogndpkhaaGreatDoorM14
import Derived.RegionTactic
import Derived.ChangeAlike
import Derived.BigRegion
namespace Go.Proofs.YtbehcmogndpkhaaGreatDoor
set_option linter.unusedVariables false
set_option maxRecDepth 100000
open Go.ChangeShapes Go.WideShapes Go.ChangeAt Go.RowKit

theorem iWalkW (L : List (List (List UInt8))) (hL : ∀ P ∈ L, 1 ≤ P.length) (hlen : L.length ≤ 1048576) (vt vc : Value) (bt : Nat) (wb : World) (hbt : bt < wb.heap.size) (hct : wb.cell? ⟨bt, 0, none⟩ = some vt) (hR : RowRd 1 (RowEl 1 StrEl) wb vt (L.map strs))
    (hc : RowRd 1 IntEl wb vc (L.map fun P => (P.length : Int) - 1)) :
    Calls Tryz.prog 82 #[vc, .int .i64 0, .func (.func 81) #[] #[.pointer (some ⟨wb.heap.size + 1, 0, none⟩), .pointer (some ⟨bt, 0, none⟩)]] ((wb.alloc (.cells #[] 9)).alloc (.cells #[.slice (some ⟨wb.heap.size, 0, none⟩) 0 0] 36))
      fun e w' => e = .returned (.int .i64 (walkS (vL L) (L.map fun P => (P.length : Int) - 1) (L.length + 1) [] 0).1) ∧ WI wb.heap.size (wb.heap.size + 1) wb w' (walkS (vL L) (L.map fun P => (P.length : Int) - 1) (L.length + 1) [] 0).2 := by
  refine iWalkB List.length (vL L) (fun S W => WI wb.heap.size (wb.heap.size + 1) wb W S) 81 #[.pointer (some ⟨wb.heap.size + 1, 0, none⟩), .pointer (some ⟨bt, 0, none⟩)] e_woven2 (L.map fun P => (P.length : Int) - 1) vc (by simpa using hlen) (fun s a d n => by simp [vL]) (fun _ W hW => hc.kept IntEl.st (Kept.of_below hW.bel)) ?_ (L.length + 1) [] 0 _ 0 ?_ (Nat.zero_le _) (by simp) (Int.le_refl _) (by simp)
  · intro S W a d n h hW hd h0 h1 hS
    have ha : a < L.length := by simpa using h
    have hPa := hL L[a] (List.getElem_mem ha)
    have hca : (L.map fun P => (P.length : Int) - 1)[a] = (L[a].length : Int) - 1 := by simp
    rw [hca] at hd
    have hd2 : d < L[a].length := by omega
    have hv : vL L S a d n = (true, S ++ [L[a][d]]) := by
      unfold vL
      rw [List.getElem?_eq_getElem ha, Option.getD_some, List.getElem?_eq_getElem hd2, Option.getD_some]
    rw [hv]
    refine iWrite L vt (wb.heap.size + 1) bt a d n wb W S hW (by omega) hbt hct hR ha hd2 ?_
    simp only [List.length_map] at hS
    omega
  · have hnew := heap_alloc_new (wb.alloc (.cells #[] 9)) (.cells #[.slice (some ⟨wb.heap.size, 0, none⟩) 0 0] 36)
    have hsz : (wb.alloc (.cells #[] 9)).heap.size = wb.heap.size + 1 := by simp
    rw [hsz] at hnew
    refine ⟨⟨_, hnew, ((pr_own_lit0 rfl (Nat.le_refl _)).alloc _)⟩, ?_, by simp; omega⟩
    exact ((Below.refl _ _).alloc (Nat.le_refl _) _).alloc (by simp) _
set_option maxHeartbeats 4000000 in
theorem iWoven (L : List (List (List UInt8))) (hL : ∀ P ∈ L, 1 ≤ P.length) (hlen : L.length ≤ 1048576) (vt : Value) (w : World) (hR : RowRd 1 (RowEl 1 StrEl) w vt (L.map strs)) (r : Int) (P : List (List UInt8))
    (hP : walkS (vL L) (L.map fun P => (P.length : Int) - 1) (L.length + 1) [] 0 = (r, P)) (hne : P ≠ []) (hPl : P.length ≤ 1000000) (hPf : P.flatten.length ≤ 100000000000) :
    Calls Tryz.prog 33 #[vt] w fun e w' => e = .returned (.string ⟨P.flatten.toArray⟩) ∧ Below w.heap.size w w' := by
  have hR0 := hR
  obtain ⟨p, cap, rfl, hm, -⟩ := hR.form
  have hcs : ((L.map strs).map fun P => (P.length : Int) - 1) = L.map fun P => (P.length : Int) - 1 := by
    rw [List.map_map]
    exact List.map_congr_left fun x _ => by simp [strs]
  have HM := fun W (hK : Kept w W) => Lib.hid (iMapLen (L.map strs) _ W (hR0.kept (RowEl.st 1 StrEl.st) hK) (by simpa using hlen))
  rw [hcs] at HM
  have HW := fun w1 vc (hK : Kept w w1) (hbt : w.heap.size < w1.heap.size) (hct : w1.cell? ⟨w.heap.size, 0, none⟩ = some (.slice p (L.map strs).length cap)) hc => Lib.hid (iWalkW L hL hlen _ vc w.heap.size w1 hbt hct (hR0.kept (RowEl.st 1 StrEl.st) hK) hc)
  rw [hP] at HW
  simp only at HW
  have hpos : 0 < (strs P).length := by rw [strs_length]; cases P with | nil => exact absurd rfl hne | cons _ _ => simp
  have hpl2 : (strs P).length ≤ 1000000 := by rw [strs_length]; exact hPl
  have HC := Lib.hid (cat_strs P)
  have hcl : (cat (strs P)).length ≤ 140737488355328 := by rw [cat_strs]; omega
  generalize (L.map fun P => (P.length : Int) - 1) = cs at *
  clear hP hcs hR hR0 hL hm
  generalize (L.map strs).length = la at *
  go_enter Tryz.func33, Tryz.ntmps33
  go_wp2_with fail
  refine (HM _ (Kept.alloc _ _)).out.mono ?_
  rintro e w1 ⟨vc, rfl, rc, hb1⟩
  have B1 := below_tr (Joins.below_alloc1 w _) hb1
  have K1 := Kept.of_below B1
  have z1 : w.heap.size < w1.heap.size := by have := hb1.size; simp at this; omega
  have c1 : w1.cell? ⟨w.heap.size, 0, none⟩ = some (.slice p la cap) := by rw [hb1.cell (p := ⟨w.heap.size, 0, none⟩) (by simp)]; simp
  have HW1 := HW w1 vc K1 z1 c1 rc
  clear HW HM hb1
  go_wp2_with (first
    | (go_at_call 82; go_loud (refine HW1.out.mono ?_); rintro e w2 ⟨rfl, hI⟩; obtain ⟨⟨vp, hh, ho⟩, hbel, hsz⟩ := hI; obtain ⟨y1, y2⟩ := pr_box_cell hh; obtain ⟨g, gc, rfl, g1, g2, g3, g4, -⟩ := own_shape ho hpos; have J := Lib.hid (joined g 0 gc (strs P) w2 (fun j x hj => by rw [Nat.zero_add, g4 j (List.getElem?_eq_some_iff.1 hj).1, sc, List.getElem?_map, hj]; rfl) g2 (by omega) g3 hcl); clear g4)
    | (go_at_call 27; go_loud (refine J.out.mono ?_); rintro e w3 ⟨rfl, hb3⟩))
  go_ret
  exact ⟨by rw [← HC.out]; rfl, below_tr (below_tr B1 hbel) hb3⟩
/-- The library's table of powers lies there. -/
structure TabE (w : World) : Prop where
  t : Lib.TabIs Tryz.prog w "internal/strconv.uint64pow10" .u64 Lib.pow10Tab
theorem TabE.below {w w' : World} (h : TabE w) (hb : Below w.heap.size w w') : TabE w' := ⟨tab_below h.t hb⟩
theorem pr_ne {l : List TyI} (h : tyOkB l = true) : prTy varL (l.length + 1) l 0 ≠ [] := by
  obtain ⟨_, _, h3⟩ := tyOk_parts h
  have h0 : 0 < l.length := by
    by_cases hc : 0 < l.length
    · exact hc
    · rw [endF_out _ _ _ (.inr (by omega))] at h3; omega
  intro h
  rw [prTy, show (0 : Int).toNat = 0 from rfl, List.getElem?_eq_getElem h0] at h
  simp only at h
  split at h
  · unfold varL at h; split at h <;> simp at h
  · rename_i hn
    split at h
    · exact hn h
    · split at h
      · simp at h
      · split at h <;> simp at h
set_option maxHeartbeats 4000000 in
theorem iPrintTyC (l : List TyI) (v : Value) (w : World) (hR : RowRd 3 TyIEl w v l) (hz : bTy l ≤ 1048576) (hE : TabE w) :
    Calls Tryz.prog 145 #[.agg #[v]] w fun e w' => e = .returned (.string (prTyRes l)) ∧ Below w.heap.size w w' := by
  have hR0 := hR
  obtain ⟨p, cap, rfl, hm, hR⟩ := hR.form
  clear hR
  have hO := fun W (hK : Kept w W) => Lib.hid (iTyOk l _ W (hR0.kept TyIEl.st hK))
  cases hb : tyOkB l
  · rw [hb] at hO
    have HB := Lib.hid (show prTyRes l = ⟨#[]⟩ from by rw [prTyRes, hb]; rfl)
    clear hR0 hE
    go_enter Tryz.func145, Tryz.ntmps145
    go_wp2_with (go_at_call 186; refine (hO _ (Kept.alloc _ _)).out.mono ?_; rintro e w1 ⟨rfl, hb1⟩; obtain ⟨hcl, hfr⟩ := bcell hb1)
    go_ret
    exact ⟨by rw [HB.out]; rfl, below_tr (Joins.below_alloc1 w _) hb1⟩
  · rw [hb] at hO
    obtain ⟨h1, h2, h3⟩ := tyOk_parts hb
    obtain ⟨P, hP, hF, hF1, hF2⟩ := pr_ok varL varL_len l hb
    have hne : P ≠ [] := fun e => pr_ne hb (by rw [← hF, e]; rfl)
    have HB := Lib.hid (show prTyRes l = ⟨P.flatten.toArray⟩ from by rw [prTyRes, if_pos hb, hF])
    have hT := fun W (hK : Kept w W) (hT : TabE W) => Lib.hid (iMapTx l _ W (hR0.kept TyIEl.st hK) (by omega) h1 hT.t)
    have hcs : ((l.map (itemT varL)).map fun P => (P.length : Int) - 1) = l.map TyI.arity := by
      rw [List.map_map]
      exact List.map_congr_left fun x hx => by
        have := (itemT_ok (h1 x hx)).1
        show ((itemT varL x).length : Int) - 1 = x.arity
        omega
    rw [← hcs, ← vL_vPr, show l.length = (l.map (itemT varL)).length from by simp] at hP
    have hrw : (l.map fun x => strs (itemT varL x)) = (l.map (itemT varL)).map strs := by rw [List.map_map]; rfl
    have hV := fun W v' (hr : RowRd 1 (RowEl 1 StrEl) W v' (l.map fun x => strs (itemT varL x))) => Lib.hid (iWoven (l.map (itemT varL)) (fun Q hQ => by
      obtain ⟨x, hx, rfl⟩ := List.mem_map.1 hQ
      have := (itemT_ok (h1 x hx)).1
      have := item_arity (h1 x hx)
      omega) (by simp; omega) v' W (by rw [← hrw]; exact hr) _ P hP hne (by omega) (by omega))
    have HE := Lib.hid hE
    clear hR0 h1 h3 hP hF hrw hcs hE
    go_enter Tryz.func145, Tryz.ntmps145
    go_wp2_with (first
      | (go_at_call 186; refine (hO _ (Kept.alloc _ _)).out.mono ?_; rintro e w1 ⟨rfl, hb1⟩; have B1 := below_tr (Joins.below_alloc1 w _) hb1; obtain ⟨hcl, hfr⟩ := bcell hb1)
      | (go_at_call 196; refine (hT _ (Kept.of_below B1) (HE.out.below B1)).out.mono ?_; rintro e w2 ⟨v2, rfl, r2, hb2⟩; have B2 := below_tr B1 hb2)
      | (go_at_call 33; refine (hV _ _ r2).out.mono ?_; rintro e w3 ⟨rfl, hb3⟩))
    go_ret
    exact ⟨by rw [HB.out]; rfl, below_tr B2 hb3⟩
end Go.Proofs.YtbehcmogndpkhaaGreatDoor
namespace Go.Proofs.YtbehcmogndpkhaaGreatDoor
set_option linter.unusedVariables false
set_option maxRecDepth 100000
open Go.ChangeShapes Go.WideShapes Go.ChangeAt Go.RowKit

/-- The text of a constructor, of a type's head, of a type, of types. -/
def conD (c : Cn) : List UInt8 := if c.has = true then c.name.toList ++ [32, 111, 102, 32] ++ prTy varL (c.arg.length + 1) c.arg 0 else c.name.toList
def headP (t : Tp) : List UInt8 := if t.params = 0 then [] else if t.params = 1 then [39, 97, 32] else [40, 39, 97, 44, 32, 39, 98, 41, 32]
def typeH (t : Tp) : List UInt8 := [116, 121, 112, 101, 32] ++ headP t ++ t.name.toList ++ [32, 61, 32]
def typeT (t : Tp) : List UInt8 := typeH t ++ Lib.join (t.cons.map conD) [32, 124, 32] ++ [59, 32]
def prgT (l : List Tp) : List UInt8 := (l.map typeT).flatten
noncomputable def prPgRes (p : Pg) : ByteArray := if pgOkB p = true then ⟨(prgT p.types ++ exprT NT p.nodes (p.nodes.length + 1) 0 0).toArray⟩ else ⟨#[]⟩
theorem prgT_s (l : List Tp) (k : Nat) (h : k < l.length) : prgT (l.take (k + 1)) = prgT (l.take k) ++ typeT l[k] := by
  unfold prgT
  rw [List.take_succ_eq_append_getElem h, List.map_append, List.flatten_append]
  simp
theorem join_s (L : List (List UInt8)) (s : List UInt8) (j : Nat) (h : j < L.length) : Lib.join (L.take (j + 1)) s = (if j = 0 then [] else Lib.join (L.take j) s ++ s) ++ L[j] := by
  cases L with
  | nil => simp at h
  | cons x r =>
    cases j with
    | zero => simp [Lib.join_one]
    | succ j =>
      have hj : j < r.length := by simpa using h
      rw [List.take_succ_cons, List.take_succ_cons, Lib.join_cons, Lib.join_cons, Lib.joinTail_take_succ s r j r[j] (List.getElem?_eq_getElem hj)]
      simp
theorem nm_len {s : ByteArray} (h : nameB s = true ∨ conB s = true) : s.size ≤ 12 := by
  rcases h with h | h
  · unfold nameB wordB lenB at h
    simp only [Bool.and_eq_true, decide_eq_true_eq] at h
    exact h.1.1.2
  · unfold conB wordB lenB at h
    simp only [Bool.and_eq_true, decide_eq_true_eq] at h
    exact h.1.1.2
theorem prTy_top {l : List TyI} (h : tyOkB l = true) : (prTy varL (l.length + 1) l 0).length ≤ 8000 := by
  obtain ⟨h1, h2, h3⟩ := tyOk_parts h
  have := prTy_len l h1 (l.length + 1) 0 (by omega) (by omega)
  omega
theorem conD_len {params : Int} {c : Cn} (h : isConB params c = true) : (conD c).length ≤ 9000 := by
  unfold isConB at h
  simp only [Bool.and_eq_true] at h
  have h1 := nm_len (.inr h.1)
  have h2 : c.name.toList.length = c.name.size := by rw [pr_toList]; rfl
  unfold conD
  split
  · next hh =>
    rw [if_neg (by simp [hh])] at h
    simp only [Bool.and_eq_true] at h
    have := prTy_top h.2.1
    simp only [List.length_append, List.length_cons, List.length_nil]; omega
  · omega
theorem join_le (L : List (List UInt8)) (s : List UInt8) (M : Nat) (hs : s.length ≤ M) (h : ∀ t ∈ L, t.length ≤ M) : (Lib.join L s).length ≤ 2 * M * L.length := by
  cases L with
  | nil => simp [Lib.join_nil]
  | cons x r =>
    rw [Lib.join_cons, List.length_append]
    have h0 := h x (by simp)
    have : (Lib.joinTail s r).length ≤ 2 * M * r.length := by
      have h2 : ∀ t ∈ r, t.length ≤ M := fun t ht => h t (by simp [ht])
      clear h h0
      unfold Lib.joinTail
      induction r with
      | nil => simp
      | cons y r ih =>
        have := ih fun t ht => h2 t (by simp [ht])
        have := h2 y (by simp)
        simp only [List.map_cons, List.flatten_cons, List.length_append, List.length_cons, Nat.mul_succ]
        omega
    rw [List.length_cons, Nat.mul_succ]
    omega
theorem typeH_len {t : Tp} (h : nameB t.name = true) : (typeH t).length ≤ 40 := by
  have h1 := nm_len (.inl h)
  have h2 : t.name.toList.length = t.name.size := by rw [pr_toList]; rfl
  have h3 : (headP t).length ≤ 9 := by unfold headP; split; · simp
                                       · split <;> simp
  unfold typeH
  simp only [List.length_append, List.length_cons, List.length_nil]
  omega
theorem isType_parts {t : Tp} (h : isTypeB t = true) : nameB t.name = true ∧ 0 ≤ t.params ∧ t.params ≤ 2 ∧ 1 ≤ t.cons.length ∧ t.cons.length ≤ 8 ∧ ∀ c ∈ t.cons, isConB t.params c = true := by
  unfold isTypeB at h
  simp only [Bool.and_eq_true, decide_eq_true_eq, List.all_eq_true] at h
  exact ⟨h.1, h.2.1, h.2.2.1, h.2.2.2.1, h.2.2.2.2.1, h.2.2.2.2.2⟩
theorem typeT_len {t : Tp} (h : isTypeB t = true) : (typeT t).length ≤ 200000 := by
  obtain ⟨h1, _, _, _, h5, h6⟩ := isType_parts h
  have h7 := typeH_len h1
  have h8 := join_le (t.cons.map conD) [32, 124, 32] 9000 (by simp) (fun x hx => by
    obtain ⟨c, hc, rfl⟩ := List.mem_map.1 hx
    exact conD_len (h6 c hc))
  rw [List.length_map] at h8
  unfold typeT
  simp only [List.length_append, List.length_cons, List.length_nil]
  omega
theorem prgT_len {l : List Tp} (h : ∀ t ∈ l, isTypeB t = true) : (prgT l).length ≤ 200000 * l.length := by
  induction l with
  | nil => simp [prgT]
  | cons t l ih =>
    have := ih fun t ht => h t (by simp [ht])
    have := typeT_len (h t (by simp))
    unfold prgT at *
    simp only [List.map_cons, List.flatten_cons, List.length_append, List.length_cons, Nat.mul_succ]
    omega
theorem pgV_of {p : Pg} (h : pgOkB p = true) : p.types.length ≤ 8 ∧ (∀ t ∈ p.types, isTypeB t = true) ∧ PgV p.nodes ∧ p.nodes.length ≤ 600 ∧ 0 < p.nodes.length := by
  rw [pg_ok] at h
  simp only [Bool.and_eq_true, decide_eq_true_eq, List.all_eq_true] at h
  obtain ⟨h1, h2, h3, h4⟩ := h
  have h5 := (preB_iff _).1 h3
  simp only [List.length_map] at h5
  refine ⟨h1, h2, ⟨h3, fun i hi => ?_, fun i hi => ?_⟩, h5.2.1, h5.1⟩
  · have := h4 _ (List.getElem_mem hi)
    unfold rightNB at this
    simp only [Bool.and_eq_true] at this
    exact this.1
  · have := h4 _ (List.getElem_mem hi)
    unfold rightNB at this
    simp only [Bool.and_eq_true] at this
    exact this.2
end Go.Proofs.YtbehcmogndpkhaaGreatDoor
namespace Go.Proofs.YtbehcmogndpkhaaGreatDoor
set_option linter.unusedVariables false
set_option maxRecDepth 100000
open Go.ChangeShapes Go.WideShapes Go.ChangeAt Go.RowKit

theorem ba_nil (s : ByteArray) : s ++ ⟨#[]⟩ = s := by
  have := str_app s.data.toList []
  simpa using this
set_option maxHeartbeats 40000000 in
theorem sPrintProgramC (p : Pg) (v0 v1 : Value) (w : World) (h0 : RowRd 3 TpEl w v0 p.types) (h1 : RowRd 6 NdEl w v1 p.nodes) (hz : bPg p ≤ 1048576) :
    Calls Tryz.prog 6 #[.agg #[v0, v1]] w fun e w' => e = .returned (.string (prPgRes p)) ∧ Below w.heap.size w w' := by
  have h00 := h0
  have h10 := h1
  obtain ⟨p0, cap0, rfl, hm0, hr0⟩ := h0.form
  obtain ⟨p1, cap1, rfl, hm1, -⟩ := h1.form
  have hO := fun W (hK : Kept w W) => Lib.hid (sProgramOkC p _ _ W (h00.kept TpEl.st hK) (h10.kept NdEl.st hK) hz)
  cases hb : pgOkB p
  · rw [hb] at hO
    have HB := Lib.hid (show prPgRes p = ⟨#[]⟩ from by rw [prPgRes, hb]; rfl)
    clear h00 h10 h0 h1 hr0
    go_enter Tryz.func6, Tryz.ntmps6
    go_wp2_with (go_at_call 21; refine (hO _ (Kept.alloc _ _)).out.mono ?_; rintro e w1 ⟨rfl, hb1⟩; obtain ⟨hcl, hfr⟩ := bcell hb1)
    go_ret
    exact ⟨by rw [HB.out]; rfl, below_tr (Joins.below_alloc1 w _) hb1⟩
  · rw [hb] at hO
    obtain ⟨t8, tok, hv, n6, n0⟩ := pgV_of hb
    have HB := Lib.hid (show prPgRes p = ⟨(prgT p.types ++ exprT NT p.nodes (p.nodes.length + 1) 0 0).toArray⟩ from by rw [prPgRes, if_pos hb])
    have hS : ∀ x ∈ p.nodes, x.s.size ≤ 1048576 := fun x hx => by
      obtain ⟨i, hi, rfl⟩ := List.getElem_of_mem hx
      have h3 := bulkL_mem bNd p.nodes i hi
      have h4 : p.nodes[i].s.size ≤ bNd p.nodes[i] := by unfold bNd; omega
      unfold bPg at hz
      omega
    have hX := fun W (hK : Kept w W) => Lib.hid (sExpr p.nodes hv hS n6 (p.nodes.length + 1) (.slice p0 p.types.length cap0) _ 0 W ⟨_, _, _, rfl⟩ (h10.kept NdEl.st hK) n0 (by omega))
    have hXl := ex_len hv hS (p.nodes.length + 1) 0 0 n0
    have hPl : ∀ k, (prgT (p.types.take k)).length ≤ 200000 * 8 := fun k => by
      have := prgT_len (l := p.types.take k) fun t ht => tok t (List.mem_of_mem_take ht)
      have h2 : (p.types.take k).length ≤ 8 := by rw [List.length_take]; omega
      exact Nat.le_trans this (Nat.mul_le_mul_left _ h2)
    obtain ⟨X, hXe⟩ : ∃ X, X = exprT NT p.nodes (p.nodes.length + 1) 0 0 := ⟨_, rfl⟩
    rw [← hXe] at hXl HB
    have HX := Lib.hid hXe
    have hX2 := fun W (hK : Kept w W) => Lib.hid (show Calls Tryz.prog 23 #[.agg #[.slice p0 p.types.length cap0, .slice p1 p.nodes.length cap1], .int .i64 0] W fun e w' => e = .returned (.string ⟨X.toArray⟩) ∧ Below W.heap.size W w' from by rw [hXe]; exact (hX W hK).out)
    clear hX hXe h00 h10 h0 h1
    go_enter Tryz.func6, Tryz.ntmps6
    go_wp2_with (go_at_call 21; refine (hO _ (Kept.alloc _ _)).out.mono ?_; rintro e w1 ⟨rfl, hb1⟩; have B1 := below_tr (Joins.below_alloc1 w _) hb1; have e0 := (hb1.cell (p := ⟨w.heap.size, 0, none⟩) (by simp)).trans (pp_blk_cell (pp_alloc_at w _ rfl) 0).1; have e1 := (hb1.cell (p := ⟨w.heap.size, 1, none⟩) (by simp)).trans (pp_blk_cell (pp_alloc_at w _ rfl) 1).1; have z1 : w.heap.size < w1.heap.size := by have := hb1.size; simp at this; omega)
    clear hO hb1
    go_loopw [3, 14] (fun vo i wr => ∃ k : Nat, i = .int .i64 k ∧ k ≤ p.types.length ∧ vo = .string ⟨(prgT (p.types.take k)).toArray⟩ ∧ Below w1.heap.size w1 wr) (fun _ i _ => p.types.length - (intOf i).toNat)
    case atStart => exact ⟨0, rfl, Nat.zero_le _, rfl, Below.refl _ _⟩
    case round =>
      obtain ⟨k, rfl, hk, rfl, hbr⟩ := hrel
      have Br := below_tr B1 hbr
      have Kr := Kept.of_below Br
      have c0 := (hbr.cell (p := ⟨w.heap.size, 0, none⟩) z1).trans e0
      have c1 := (hbr.cell (p := ⟨w.heap.size, 1, none⟩) z1).trans e1
      simp only [List.getElem?_toArray, List.getElem?_cons_zero, List.getElem?_cons_succ] at c0 c1
      have hOl := hPl k
      by_cases hlt : k < p.types.length
      · obtain ⟨b, o, rfl, hbw, hc⟩ := hr0 (by omega)
        have ex := TpEl.st w wr b _ _ Kr hbw (hc k hlt)
        have htk := tok p.types[k] (List.getElem_mem hlt)
        have hstep := prgT_s p.types k hlt
        clear hc hr0 hPl e0 e1
        generalize p.types[k] = t at *
        generalize prgT (p.types.take k) = O at *
        have HStep := Lib.hid hstep
        clear hstep
        obtain ⟨q1, q2, q3, q4, q5, q6⟩ := isType_parts htk
        have hnl := nm_len (.inl q1)
        obtain ⟨⟨a0, -⟩, ⟨a1, -⟩, ⟨u2, a2, r2⟩⟩ := ex
        obtain ⟨pc, cc, rfl, hmc, hcf⟩ := r2.form
        have HS := Lib.hid (show (⟨t.name.toList.toArray⟩ : ByteArray) = t.name from by rw [pr_toList])
        have hp3 : t.params = 0 ∨ t.params = 1 ∨ t.params = 2 := by omega
        rcases hp3 with hp | hp | hp
        · rw [hp] at a1
          have HH := Lib.hid (show typeH t = [116, 121, 112, 101, 32] ++ ([] : List UInt8) ++ t.name.toList ++ [32, 61, 32] from by simp [typeH, headP, hp])
          have u1 : ¬ (9223372036854775807 < O.length + 5) := by omega
          have u2 : ¬ (9223372036854775807 < O.length + 5 + t.name.size) := by omega
          have u3 : ¬ (9223372036854775807 < O.length + 5 + t.name.size + 3) := by omega
          clear hp
          go_wp2_with fail
          refine gen_world (P := fun W => Code.wp _ _ _ _ W) _ ?_
          intro W1 hW1
          have B3 : Below wr.heap.size wr W1 := by rw [hW1]; exact Joins.below_alloc1 wr _
          have hb9 := (show W1.heap[wr.heap.size]? = some (.cells #[.string t.name, .int .i64 0, .slice pc t.cons.length cc] 52 (0, 0)) from by rw [hW1]; exact pp_alloc_at wr _ rfl)
          have z9 : W1.heap.size = wr.heap.size + 1 := by rw [hW1]; simp
          clear hW1
          have f0 := (pp_blk_cell hb9 0).1
          have f1 := (pp_blk_cell hb9 1).1
          have f2 := (pp_blk_cell hb9 2).1
          simp only [List.getElem?_toArray, List.getElem?_cons_zero, List.getElem?_cons_succ] at f0 f1 f2
          go_region
          go_wp2_with fail
          refine gen_world (P := fun W => Code.wp _ _ _ _ W) _ ?_
          intro W2 hW2
          have B4 : Below W1.heap.size W1 W2 := by rw [hW2]; exact ((Below.refl _ _).alloc (Nat.le_refl _) _).drew
          clear hW2
          have B5 := below_tr hbr (below_tr B3 B4)
          have B6 := below_tr Br (below_tr B3 B4)
          have hjl : ∀ j, (O ++ typeH t ++ Lib.join ((t.cons.map conD).take j) [32, 124, 32]).length ≤ 2000000 := fun j => by
            have h1 := typeH_len q1
            have h2 := join_le ((t.cons.map conD).take j) [32, 124, 32] 9000 (by simp) (fun x hx => by
              obtain ⟨c, hc, rfl⟩ := List.mem_map.1 (List.mem_of_mem_take hx)
              exact conD_len (q6 c hc))
            have h3 : ((t.cons.map conD).take j).length ≤ 8 := by simp only [List.length_take, List.length_map]; omega
            have h4 := Nat.mul_le_mul_left (2 * 9000) h3
            simp only [List.length_append]
            omega
          have hcl8 : t.cons.length ≤ 8 := q5
          clear f0 f1 f2 hb9 a0 a1 a2 r2 q2 q3 q4 q5 u1 u2 u3 htk hmc
          generalize wr = wo at *
          go_loopw [3, 33] (fun vo i wr => ∃ j : Nat, i = .int .i64 j ∧ j ≤ t.cons.length ∧ vo = .string ⟨(O ++ typeH t ++ Lib.join ((t.cons.map conD).take j) [32, 124, 32]).toArray⟩ ∧ Below W2.heap.size W2 wr) (fun _ i _ => t.cons.length - (intOf i).toNat)
          case atStart =>
            refine ⟨0, rfl, Nat.zero_le _, ?_, Below.refl _ _⟩
            rw [HH.out, List.take_zero, Lib.join_nil]
            simp only [List.append_nil, ← List.append_assoc, ← str_app]
            rw [HS.out, ba_nil]
          case round =>
            obtain ⟨j, rfl, hj, rfl, hbi⟩ := hrel
            have Bi := below_tr B6 hbi
            have Ki := Kept.of_below Bi
            have hBl := hjl j
            by_cases hlj : j < t.cons.length
            · obtain ⟨bc, oc, rfl, hbc, hcc⟩ := hcf (by omega)
              have ex2 := CnEl.st wo _ bc _ _ (Kept.of_below (below_tr (below_tr B3 B4) hbi)) hbc (hcc j hlj)
              have hcq := q6 t.cons[j] (List.getElem_mem hlj)
              have hjs := join_s (t.cons.map conD) [32, 124, 32] j (by simpa using hlj)
              rw [List.getElem_map] at hjs
              clear hcc hcf hjl q6
              generalize t.cons[j] = c at *
              have HJ := Lib.hid (show O ++ typeH t ++ Lib.join ((t.cons.map conD).take (j + 1)) [32, 124, 32] = (if j = 0 then O ++ typeH t ++ Lib.join ((t.cons.map conD).take j) [32, 124, 32] else O ++ typeH t ++ Lib.join ((t.cons.map conD).take j) [32, 124, 32] ++ [32, 124, 32]) ++ conD c from by
                rw [hjs]
                split
                · next h0 => subst h0; simp [Lib.join_nil]
                · simp)
              clear hjs
              generalize O ++ typeH t ++ Lib.join ((t.cons.map conD).take j) [32, 124, 32] = B at *
              obtain ⟨⟨a0, -⟩, a1, ⟨ua, a2, ra⟩⟩ := ex2
              unfold BoolEl at a1
              have ra0 := ra
              obtain ⟨pa, ca, rfl, -, -⟩ := ra.form
              unfold isConB at hcq
              simp only [Bool.and_eq_true] at hcq
              have hcn := nm_len (.inr hcq.1)
              have HS2 := Lib.hid (show (⟨c.name.toList.toArray⟩ : ByteArray) = c.name from by rw [pr_toList])
              cases hh : c.has
              · have HC := Lib.hid (show conD c = c.name.toList from by unfold conD; rw [if_neg (by simp [hh])])
                rw [hh] at a1
                clear hcq ra ra0 hh
                by_cases hj0 : j = 0
                · have HK := Lib.hid (show O ++ typeH t ++ Lib.join ((t.cons.map conD).take (j + 1)) [32, 124, 32] = B ++ c.name.toList from by rw [HJ.out, if_pos hj0, HC.out])
                  have t0 : decide ((0 : Int) < (j : Int)) = false := by simp; omega
                  have t0' : decide (0 < j) = false := by simp; omega
                  have u1 : B.length + c.name.size ≤ 9223372036854775807 := by omega
                  have u2 : ¬ (9223372036854775807 < B.length + c.name.size) := by omega
                  clear hj0 HJ
                  go_wp2
                  go_roundw
                  case rel => exact ⟨j + 1, by go_num, by omega, by rw [HK.out]; simp only [← str_app]; rw [HS2.out], below_tr hbi (Joins.below_alloc1 _ _)⟩
                  case measure => simp [intOf]; omega
                · have HK := Lib.hid (show O ++ typeH t ++ Lib.join ((t.cons.map conD).take (j + 1)) [32, 124, 32] = B ++ [32, 124, 32] ++ c.name.toList from by rw [HJ.out, if_neg hj0, HC.out])
                  have t0 : (0 : Int) < (j : Int) := by omega
                  have t0' : 0 < j := by omega
                  have u0 : B.length + 3 ≤ 9223372036854775807 := by omega
                  have u1 : B.length + 3 + c.name.size ≤ 9223372036854775807 := by omega
                  have u2 : ¬ (9223372036854775807 < B.length + 3) := by omega
                  have u3 : ¬ (9223372036854775807 < B.length + 3 + c.name.size) := by omega
                  clear hj0 HJ
                  go_wp2
                  go_roundw
                  case rel => exact ⟨j + 1, by go_num, by omega, by rw [HK.out]; simp only [← str_app]; rw [HS2.out], below_tr hbi (Joins.below_alloc1 _ _)⟩
                  case measure => simp [intOf]; omega
              · rw [if_neg (by simp [hh])] at hcq
                simp only [Bool.and_eq_true] at hcq
                obtain ⟨hcn2, hty, -⟩ := hcq
                obtain ⟨y1, y2, y3⟩ := tyOk_parts hty
                have hTl := prTy_top hty
                have HT := fun W (hK : Kept _ W) => Lib.hid (sTyText c.arg y1 y2 (c.arg.length + 1) _ 0 W (ra0.kept TyIEl.st hK) (by omega) (by omega) (by omega))
                have HC0 := (show conD c = c.name.toList ++ [32, 111, 102, 32] ++ prTy varL (c.arg.length + 1) c.arg 0 from by unfold conD; rw [if_pos hh])
                generalize prTy varL (c.arg.length + 1) c.arg 0 = T at *
                generalize c.arg.length = la at *
                have HC := Lib.hid HC0
                rw [hh] at a1
                clear ra ra0 hh y1 y2 y3 hty HC0
                by_cases hj0 : j = 0
                · have HK := Lib.hid (show O ++ typeH t ++ Lib.join ((t.cons.map conD).take (j + 1)) [32, 124, 32] = B ++ (c.name.toList ++ [32, 111, 102, 32] ++ T) from by rw [HJ.out, if_pos hj0, HC.out])
                  have t0 : decide ((0 : Int) < (j : Int)) = false := by simp; omega
                  have t0' : decide (0 < j) = false := by simp; omega
                  have u1 : B.length + c.name.size ≤ 9223372036854775807 := by omega
                  have u2 : B.length + c.name.size + 4 ≤ 9223372036854775807 := by omega
                  have u3 : B.length + c.name.size + 4 + T.length ≤ 9223372036854775807 := by omega
                  have u4 : ¬ (9223372036854775807 < B.length + c.name.size) := by omega
                  have u5 : ¬ (9223372036854775807 < B.length + c.name.size + 4) := by omega
                  have u6 : ¬ (9223372036854775807 < B.length + c.name.size + 4 + T.length) := by omega
                  clear hj0 HJ
                  go_wp2_with (go_at_call 22; refine (HT _ (Kept.alloc _ _)).out.mono ?_; rintro e wA ⟨rfl, hbA⟩)
                  go_roundw
                  case rel => exact ⟨j + 1, by go_num, by omega, by rw [HK.out]; simp only [← List.append_assoc, ← str_app]; rw [HS2.out], below_tr hbi (below_tr (Joins.below_alloc1 _ _) hbA)⟩
                  case measure => simp [intOf]; omega
                · have HK := Lib.hid (show O ++ typeH t ++ Lib.join ((t.cons.map conD).take (j + 1)) [32, 124, 32] = B ++ [32, 124, 32] ++ (c.name.toList ++ [32, 111, 102, 32] ++ T) from by rw [HJ.out, if_neg hj0, HC.out])
                  have t0 : (0 : Int) < (j : Int) := by omega
                  have t0' : 0 < j := by omega
                  have u0 : B.length + 3 ≤ 9223372036854775807 := by omega
                  have u1 : B.length + 3 + c.name.size ≤ 9223372036854775807 := by omega
                  have u2 : B.length + 3 + c.name.size + 4 ≤ 9223372036854775807 := by omega
                  have u3 : B.length + 3 + c.name.size + 4 + T.length ≤ 9223372036854775807 := by omega
                  have u7 : ¬ (9223372036854775807 < B.length + 3) := by omega
                  have u4 : ¬ (9223372036854775807 < B.length + 3 + c.name.size) := by omega
                  have u5 : ¬ (9223372036854775807 < B.length + 3 + c.name.size + 4) := by omega
                  have u6 : ¬ (9223372036854775807 < B.length + 3 + c.name.size + 4 + T.length) := by omega
                  clear hj0 HJ
                  go_wp2_with (go_at_call 22; refine (HT _ (Kept.alloc _ _)).out.mono ?_; rintro e wA ⟨rfl, hbA⟩)
                  go_roundw
                  case rel => exact ⟨j + 1, by go_num, by omega, by rw [HK.out]; simp only [← List.append_assoc, ← str_app]; rw [HS2.out], below_tr hbi (below_tr (Joins.below_alloc1 _ _) hbA)⟩
                  case measure => simp [intOf]; omega
            · obtain rfl : j = t.cons.length := by omega
              have HF := Lib.hid (show prgT (p.types.take (k + 1)) = O ++ typeH t ++ Lib.join ((t.cons.map conD).take t.cons.length) [32, 124, 32] ++ [59, 32] from by
                rw [HStep.out, show (t.cons.map conD).take t.cons.length = t.cons.map conD from List.take_of_length_le (by simp)]
                unfold typeT
                simp)
              clear hjl hcf
              generalize O ++ typeH t ++ Lib.join ((t.cons.map conD).take t.cons.length) [32, 124, 32] = B at *
              have u0 : B.length + 2 ≤ 9223372036854775807 := by omega
              have u1 : ¬ (9223372036854775807 < B.length + 2) := by omega
              go_wp2
              go_roundw
              case rel => exact ⟨k + 1, by go_num, by omega, by rw [HF.out]; simp only [← str_app], below_tr B5 hbi⟩
              case measure => simp [intOf]; omega
        · rw [hp] at a1
          have HH := Lib.hid (show typeH t = [116, 121, 112, 101, 32] ++ [39, 97, 32] ++ t.name.toList ++ [32, 61, 32] from by simp [typeH, headP, hp])
          have u1 : ¬ (9223372036854775807 < O.length + 5) := by omega
          have u4 : ¬ (9223372036854775807 < O.length + 5 + 3) := by omega
          have u2 : ¬ (9223372036854775807 < O.length + 5 + 3 + t.name.size) := by omega
          have u3 : ¬ (9223372036854775807 < O.length + 5 + 3 + t.name.size + 3) := by omega
          clear hp
          go_wp2_with fail
          refine gen_world (P := fun W => Code.wp _ _ _ _ W) _ ?_
          intro W1 hW1
          have B3 : Below wr.heap.size wr W1 := by rw [hW1]; exact Joins.below_alloc1 wr _
          have hb9 := (show W1.heap[wr.heap.size]? = some (.cells #[.string t.name, .int .i64 1, .slice pc t.cons.length cc] 52 (0, 0)) from by rw [hW1]; exact pp_alloc_at wr _ rfl)
          have z9 : W1.heap.size = wr.heap.size + 1 := by rw [hW1]; simp
          clear hW1
          have f0 := (pp_blk_cell hb9 0).1
          have f1 := (pp_blk_cell hb9 1).1
          have f2 := (pp_blk_cell hb9 2).1
          simp only [List.getElem?_toArray, List.getElem?_cons_zero, List.getElem?_cons_succ] at f0 f1 f2
          go_region
          go_wp2_with fail
          refine gen_world (P := fun W => Code.wp _ _ _ _ W) _ ?_
          intro W2 hW2
          have B4 : Below W1.heap.size W1 W2 := by rw [hW2]; exact ((Below.refl _ _).alloc (Nat.le_refl _) _).drew
          clear hW2
          have B5 := below_tr hbr (below_tr B3 B4)
          have B6 := below_tr Br (below_tr B3 B4)
          have hjl : ∀ j, (O ++ typeH t ++ Lib.join ((t.cons.map conD).take j) [32, 124, 32]).length ≤ 2000000 := fun j => by
            have h1 := typeH_len q1
            have h2 := join_le ((t.cons.map conD).take j) [32, 124, 32] 9000 (by simp) (fun x hx => by
              obtain ⟨c, hc, rfl⟩ := List.mem_map.1 (List.mem_of_mem_take hx)
              exact conD_len (q6 c hc))
            have h3 : ((t.cons.map conD).take j).length ≤ 8 := by simp only [List.length_take, List.length_map]; omega
            have h4 := Nat.mul_le_mul_left (2 * 9000) h3
            simp only [List.length_append]
            omega
          have hcl8 : t.cons.length ≤ 8 := q5
          clear f0 f1 f2 hb9 a0 a1 a2 r2 q2 q3 q4 q5 u1 u2 u3 htk hmc
          generalize wr = wo at *
          go_loopw [3, 33] (fun vo i wr => ∃ j : Nat, i = .int .i64 j ∧ j ≤ t.cons.length ∧ vo = .string ⟨(O ++ typeH t ++ Lib.join ((t.cons.map conD).take j) [32, 124, 32]).toArray⟩ ∧ Below W2.heap.size W2 wr) (fun _ i _ => t.cons.length - (intOf i).toNat)
          case atStart =>
            refine ⟨0, rfl, Nat.zero_le _, ?_, Below.refl _ _⟩
            rw [HH.out, List.take_zero, Lib.join_nil]
            simp only [List.append_nil, ← List.append_assoc, ← str_app]
            rw [HS.out]
          case round =>
            obtain ⟨j, rfl, hj, rfl, hbi⟩ := hrel
            have Bi := below_tr B6 hbi
            have Ki := Kept.of_below Bi
            have hBl := hjl j
            by_cases hlj : j < t.cons.length
            · obtain ⟨bc, oc, rfl, hbc, hcc⟩ := hcf (by omega)
              have ex2 := CnEl.st wo _ bc _ _ (Kept.of_below (below_tr (below_tr B3 B4) hbi)) hbc (hcc j hlj)
              have hcq := q6 t.cons[j] (List.getElem_mem hlj)
              have hjs := join_s (t.cons.map conD) [32, 124, 32] j (by simpa using hlj)
              rw [List.getElem_map] at hjs
              clear hcc hcf hjl q6
              generalize t.cons[j] = c at *
              have HJ := Lib.hid (show O ++ typeH t ++ Lib.join ((t.cons.map conD).take (j + 1)) [32, 124, 32] = (if j = 0 then O ++ typeH t ++ Lib.join ((t.cons.map conD).take j) [32, 124, 32] else O ++ typeH t ++ Lib.join ((t.cons.map conD).take j) [32, 124, 32] ++ [32, 124, 32]) ++ conD c from by
                rw [hjs]
                split
                · next h0 => subst h0; simp [Lib.join_nil]
                · simp)
              clear hjs
              generalize O ++ typeH t ++ Lib.join ((t.cons.map conD).take j) [32, 124, 32] = B at *
              obtain ⟨⟨a0, -⟩, a1, ⟨ua, a2, ra⟩⟩ := ex2
              unfold BoolEl at a1
              have ra0 := ra
              obtain ⟨pa, ca, rfl, -, -⟩ := ra.form
              unfold isConB at hcq
              simp only [Bool.and_eq_true] at hcq
              have hcn := nm_len (.inr hcq.1)
              have HS2 := Lib.hid (show (⟨c.name.toList.toArray⟩ : ByteArray) = c.name from by rw [pr_toList])
              cases hh : c.has
              · have HC := Lib.hid (show conD c = c.name.toList from by unfold conD; rw [if_neg (by simp [hh])])
                rw [hh] at a1
                clear hcq ra ra0 hh
                by_cases hj0 : j = 0
                · have HK := Lib.hid (show O ++ typeH t ++ Lib.join ((t.cons.map conD).take (j + 1)) [32, 124, 32] = B ++ c.name.toList from by rw [HJ.out, if_pos hj0, HC.out])
                  have t0 : decide ((0 : Int) < (j : Int)) = false := by simp; omega
                  have t0' : decide (0 < j) = false := by simp; omega
                  have u1 : B.length + c.name.size ≤ 9223372036854775807 := by omega
                  have u2 : ¬ (9223372036854775807 < B.length + c.name.size) := by omega
                  clear hj0 HJ
                  go_wp2
                  go_roundw
                  case rel => exact ⟨j + 1, by go_num, by omega, by rw [HK.out]; simp only [← str_app]; rw [HS2.out], below_tr hbi (Joins.below_alloc1 _ _)⟩
                  case measure => simp [intOf]; omega
                · have HK := Lib.hid (show O ++ typeH t ++ Lib.join ((t.cons.map conD).take (j + 1)) [32, 124, 32] = B ++ [32, 124, 32] ++ c.name.toList from by rw [HJ.out, if_neg hj0, HC.out])
                  have t0 : (0 : Int) < (j : Int) := by omega
                  have t0' : 0 < j := by omega
                  have u0 : B.length + 3 ≤ 9223372036854775807 := by omega
                  have u1 : B.length + 3 + c.name.size ≤ 9223372036854775807 := by omega
                  have u2 : ¬ (9223372036854775807 < B.length + 3) := by omega
                  have u3 : ¬ (9223372036854775807 < B.length + 3 + c.name.size) := by omega
                  clear hj0 HJ
                  go_wp2
                  go_roundw
                  case rel => exact ⟨j + 1, by go_num, by omega, by rw [HK.out]; simp only [← str_app]; rw [HS2.out], below_tr hbi (Joins.below_alloc1 _ _)⟩
                  case measure => simp [intOf]; omega
              · rw [if_neg (by simp [hh])] at hcq
                simp only [Bool.and_eq_true] at hcq
                obtain ⟨hcn2, hty, -⟩ := hcq
                obtain ⟨y1, y2, y3⟩ := tyOk_parts hty
                have hTl := prTy_top hty
                have HT := fun W (hK : Kept _ W) => Lib.hid (sTyText c.arg y1 y2 (c.arg.length + 1) _ 0 W (ra0.kept TyIEl.st hK) (by omega) (by omega) (by omega))
                have HC0 := (show conD c = c.name.toList ++ [32, 111, 102, 32] ++ prTy varL (c.arg.length + 1) c.arg 0 from by unfold conD; rw [if_pos hh])
                generalize prTy varL (c.arg.length + 1) c.arg 0 = T at *
                generalize c.arg.length = la at *
                have HC := Lib.hid HC0
                rw [hh] at a1
                clear ra ra0 hh y1 y2 y3 hty HC0
                by_cases hj0 : j = 0
                · have HK := Lib.hid (show O ++ typeH t ++ Lib.join ((t.cons.map conD).take (j + 1)) [32, 124, 32] = B ++ (c.name.toList ++ [32, 111, 102, 32] ++ T) from by rw [HJ.out, if_pos hj0, HC.out])
                  have t0 : decide ((0 : Int) < (j : Int)) = false := by simp; omega
                  have t0' : decide (0 < j) = false := by simp; omega
                  have u1 : B.length + c.name.size ≤ 9223372036854775807 := by omega
                  have u2 : B.length + c.name.size + 4 ≤ 9223372036854775807 := by omega
                  have u3 : B.length + c.name.size + 4 + T.length ≤ 9223372036854775807 := by omega
                  have u4 : ¬ (9223372036854775807 < B.length + c.name.size) := by omega
                  have u5 : ¬ (9223372036854775807 < B.length + c.name.size + 4) := by omega
                  have u6 : ¬ (9223372036854775807 < B.length + c.name.size + 4 + T.length) := by omega
                  clear hj0 HJ
                  go_wp2_with (go_at_call 22; refine (HT _ (Kept.alloc _ _)).out.mono ?_; rintro e wA ⟨rfl, hbA⟩)
                  go_roundw
                  case rel => exact ⟨j + 1, by go_num, by omega, by rw [HK.out]; simp only [← List.append_assoc, ← str_app]; rw [HS2.out], below_tr hbi (below_tr (Joins.below_alloc1 _ _) hbA)⟩
                  case measure => simp [intOf]; omega
                · have HK := Lib.hid (show O ++ typeH t ++ Lib.join ((t.cons.map conD).take (j + 1)) [32, 124, 32] = B ++ [32, 124, 32] ++ (c.name.toList ++ [32, 111, 102, 32] ++ T) from by rw [HJ.out, if_neg hj0, HC.out])
                  have t0 : (0 : Int) < (j : Int) := by omega
                  have t0' : 0 < j := by omega
                  have u0 : B.length + 3 ≤ 9223372036854775807 := by omega
                  have u1 : B.length + 3 + c.name.size ≤ 9223372036854775807 := by omega
                  have u2 : B.length + 3 + c.name.size + 4 ≤ 9223372036854775807 := by omega
                  have u3 : B.length + 3 + c.name.size + 4 + T.length ≤ 9223372036854775807 := by omega
                  have u7 : ¬ (9223372036854775807 < B.length + 3) := by omega
                  have u4 : ¬ (9223372036854775807 < B.length + 3 + c.name.size) := by omega
                  have u5 : ¬ (9223372036854775807 < B.length + 3 + c.name.size + 4) := by omega
                  have u6 : ¬ (9223372036854775807 < B.length + 3 + c.name.size + 4 + T.length) := by omega
                  clear hj0 HJ
                  go_wp2_with (go_at_call 22; refine (HT _ (Kept.alloc _ _)).out.mono ?_; rintro e wA ⟨rfl, hbA⟩)
                  go_roundw
                  case rel => exact ⟨j + 1, by go_num, by omega, by rw [HK.out]; simp only [← List.append_assoc, ← str_app]; rw [HS2.out], below_tr hbi (below_tr (Joins.below_alloc1 _ _) hbA)⟩
                  case measure => simp [intOf]; omega
            · obtain rfl : j = t.cons.length := by omega
              have HF := Lib.hid (show prgT (p.types.take (k + 1)) = O ++ typeH t ++ Lib.join ((t.cons.map conD).take t.cons.length) [32, 124, 32] ++ [59, 32] from by
                rw [HStep.out, show (t.cons.map conD).take t.cons.length = t.cons.map conD from List.take_of_length_le (by simp)]
                unfold typeT
                simp)
              clear hjl hcf
              generalize O ++ typeH t ++ Lib.join ((t.cons.map conD).take t.cons.length) [32, 124, 32] = B at *
              have u0 : B.length + 2 ≤ 9223372036854775807 := by omega
              have u1 : ¬ (9223372036854775807 < B.length + 2) := by omega
              go_wp2
              go_roundw
              case rel => exact ⟨k + 1, by go_num, by omega, by rw [HF.out]; simp only [← str_app], below_tr B5 hbi⟩
              case measure => simp [intOf]; omega
        · rw [hp] at a1
          have HH := Lib.hid (show typeH t = [116, 121, 112, 101, 32] ++ [40, 39, 97, 44, 32, 39, 98, 41, 32] ++ t.name.toList ++ [32, 61, 32] from by simp [typeH, headP, hp])
          have u1 : ¬ (9223372036854775807 < O.length + 5) := by omega
          have u4 : ¬ (9223372036854775807 < O.length + 5 + 9) := by omega
          have u2 : ¬ (9223372036854775807 < O.length + 5 + 9 + t.name.size) := by omega
          have u3 : ¬ (9223372036854775807 < O.length + 5 + 9 + t.name.size + 3) := by omega
          clear hp
          go_wp2_with fail
          refine gen_world (P := fun W => Code.wp _ _ _ _ W) _ ?_
          intro W1 hW1
          have B3 : Below wr.heap.size wr W1 := by rw [hW1]; exact Joins.below_alloc1 wr _
          have hb9 := (show W1.heap[wr.heap.size]? = some (.cells #[.string t.name, .int .i64 2, .slice pc t.cons.length cc] 52 (0, 0)) from by rw [hW1]; exact pp_alloc_at wr _ rfl)
          have z9 : W1.heap.size = wr.heap.size + 1 := by rw [hW1]; simp
          clear hW1
          have f0 := (pp_blk_cell hb9 0).1
          have f1 := (pp_blk_cell hb9 1).1
          have f2 := (pp_blk_cell hb9 2).1
          simp only [List.getElem?_toArray, List.getElem?_cons_zero, List.getElem?_cons_succ] at f0 f1 f2
          go_region
          go_wp2_with fail
          refine gen_world (P := fun W => Code.wp _ _ _ _ W) _ ?_
          intro W2 hW2
          have B4 : Below W1.heap.size W1 W2 := by rw [hW2]; exact ((Below.refl _ _).alloc (Nat.le_refl _) _).drew
          clear hW2
          have B5 := below_tr hbr (below_tr B3 B4)
          have B6 := below_tr Br (below_tr B3 B4)
          have hjl : ∀ j, (O ++ typeH t ++ Lib.join ((t.cons.map conD).take j) [32, 124, 32]).length ≤ 2000000 := fun j => by
            have h1 := typeH_len q1
            have h2 := join_le ((t.cons.map conD).take j) [32, 124, 32] 9000 (by simp) (fun x hx => by
              obtain ⟨c, hc, rfl⟩ := List.mem_map.1 (List.mem_of_mem_take hx)
              exact conD_len (q6 c hc))
            have h3 : ((t.cons.map conD).take j).length ≤ 8 := by simp only [List.length_take, List.length_map]; omega
            have h4 := Nat.mul_le_mul_left (2 * 9000) h3
            simp only [List.length_append]
            omega
          have hcl8 : t.cons.length ≤ 8 := q5
          clear f0 f1 f2 hb9 a0 a1 a2 r2 q2 q3 q4 q5 u1 u2 u3 htk hmc
          generalize wr = wo at *
          go_loopw [3, 33] (fun vo i wr => ∃ j : Nat, i = .int .i64 j ∧ j ≤ t.cons.length ∧ vo = .string ⟨(O ++ typeH t ++ Lib.join ((t.cons.map conD).take j) [32, 124, 32]).toArray⟩ ∧ Below W2.heap.size W2 wr) (fun _ i _ => t.cons.length - (intOf i).toNat)
          case atStart =>
            refine ⟨0, rfl, Nat.zero_le _, ?_, Below.refl _ _⟩
            rw [HH.out, List.take_zero, Lib.join_nil]
            simp only [List.append_nil, ← List.append_assoc, ← str_app]
            rw [HS.out]
          case round =>
            obtain ⟨j, rfl, hj, rfl, hbi⟩ := hrel
            have Bi := below_tr B6 hbi
            have Ki := Kept.of_below Bi
            have hBl := hjl j
            by_cases hlj : j < t.cons.length
            · obtain ⟨bc, oc, rfl, hbc, hcc⟩ := hcf (by omega)
              have ex2 := CnEl.st wo _ bc _ _ (Kept.of_below (below_tr (below_tr B3 B4) hbi)) hbc (hcc j hlj)
              have hcq := q6 t.cons[j] (List.getElem_mem hlj)
              have hjs := join_s (t.cons.map conD) [32, 124, 32] j (by simpa using hlj)
              rw [List.getElem_map] at hjs
              clear hcc hcf hjl q6
              generalize t.cons[j] = c at *
              have HJ := Lib.hid (show O ++ typeH t ++ Lib.join ((t.cons.map conD).take (j + 1)) [32, 124, 32] = (if j = 0 then O ++ typeH t ++ Lib.join ((t.cons.map conD).take j) [32, 124, 32] else O ++ typeH t ++ Lib.join ((t.cons.map conD).take j) [32, 124, 32] ++ [32, 124, 32]) ++ conD c from by
                rw [hjs]
                split
                · next h0 => subst h0; simp [Lib.join_nil]
                · simp)
              clear hjs
              generalize O ++ typeH t ++ Lib.join ((t.cons.map conD).take j) [32, 124, 32] = B at *
              obtain ⟨⟨a0, -⟩, a1, ⟨ua, a2, ra⟩⟩ := ex2
              unfold BoolEl at a1
              have ra0 := ra
              obtain ⟨pa, ca, rfl, -, -⟩ := ra.form
              unfold isConB at hcq
              simp only [Bool.and_eq_true] at hcq
              have hcn := nm_len (.inr hcq.1)
              have HS2 := Lib.hid (show (⟨c.name.toList.toArray⟩ : ByteArray) = c.name from by rw [pr_toList])
              cases hh : c.has
              · have HC := Lib.hid (show conD c = c.name.toList from by unfold conD; rw [if_neg (by simp [hh])])
                rw [hh] at a1
                clear hcq ra ra0 hh
                by_cases hj0 : j = 0
                · have HK := Lib.hid (show O ++ typeH t ++ Lib.join ((t.cons.map conD).take (j + 1)) [32, 124, 32] = B ++ c.name.toList from by rw [HJ.out, if_pos hj0, HC.out])
                  have t0 : decide ((0 : Int) < (j : Int)) = false := by simp; omega
                  have t0' : decide (0 < j) = false := by simp; omega
                  have u1 : B.length + c.name.size ≤ 9223372036854775807 := by omega
                  have u2 : ¬ (9223372036854775807 < B.length + c.name.size) := by omega
                  clear hj0 HJ
                  go_wp2
                  go_roundw
                  case rel => exact ⟨j + 1, by go_num, by omega, by rw [HK.out]; simp only [← str_app]; rw [HS2.out], below_tr hbi (Joins.below_alloc1 _ _)⟩
                  case measure => simp [intOf]; omega
                · have HK := Lib.hid (show O ++ typeH t ++ Lib.join ((t.cons.map conD).take (j + 1)) [32, 124, 32] = B ++ [32, 124, 32] ++ c.name.toList from by rw [HJ.out, if_neg hj0, HC.out])
                  have t0 : (0 : Int) < (j : Int) := by omega
                  have t0' : 0 < j := by omega
                  have u0 : B.length + 3 ≤ 9223372036854775807 := by omega
                  have u1 : B.length + 3 + c.name.size ≤ 9223372036854775807 := by omega
                  have u2 : ¬ (9223372036854775807 < B.length + 3) := by omega
                  have u3 : ¬ (9223372036854775807 < B.length + 3 + c.name.size) := by omega
                  clear hj0 HJ
                  go_wp2
                  go_roundw
                  case rel => exact ⟨j + 1, by go_num, by omega, by rw [HK.out]; simp only [← str_app]; rw [HS2.out], below_tr hbi (Joins.below_alloc1 _ _)⟩
                  case measure => simp [intOf]; omega
              · rw [if_neg (by simp [hh])] at hcq
                simp only [Bool.and_eq_true] at hcq
                obtain ⟨hcn2, hty, -⟩ := hcq
                obtain ⟨y1, y2, y3⟩ := tyOk_parts hty
                have hTl := prTy_top hty
                have HT := fun W (hK : Kept _ W) => Lib.hid (sTyText c.arg y1 y2 (c.arg.length + 1) _ 0 W (ra0.kept TyIEl.st hK) (by omega) (by omega) (by omega))
                have HC0 := (show conD c = c.name.toList ++ [32, 111, 102, 32] ++ prTy varL (c.arg.length + 1) c.arg 0 from by unfold conD; rw [if_pos hh])
                generalize prTy varL (c.arg.length + 1) c.arg 0 = T at *
                generalize c.arg.length = la at *
                have HC := Lib.hid HC0
                rw [hh] at a1
                clear ra ra0 hh y1 y2 y3 hty HC0
                by_cases hj0 : j = 0
                · have HK := Lib.hid (show O ++ typeH t ++ Lib.join ((t.cons.map conD).take (j + 1)) [32, 124, 32] = B ++ (c.name.toList ++ [32, 111, 102, 32] ++ T) from by rw [HJ.out, if_pos hj0, HC.out])
                  have t0 : decide ((0 : Int) < (j : Int)) = false := by simp; omega
                  have t0' : decide (0 < j) = false := by simp; omega
                  have u1 : B.length + c.name.size ≤ 9223372036854775807 := by omega
                  have u2 : B.length + c.name.size + 4 ≤ 9223372036854775807 := by omega
                  have u3 : B.length + c.name.size + 4 + T.length ≤ 9223372036854775807 := by omega
                  have u4 : ¬ (9223372036854775807 < B.length + c.name.size) := by omega
                  have u5 : ¬ (9223372036854775807 < B.length + c.name.size + 4) := by omega
                  have u6 : ¬ (9223372036854775807 < B.length + c.name.size + 4 + T.length) := by omega
                  clear hj0 HJ
                  go_wp2_with (go_at_call 22; refine (HT _ (Kept.alloc _ _)).out.mono ?_; rintro e wA ⟨rfl, hbA⟩)
                  go_roundw
                  case rel => exact ⟨j + 1, by go_num, by omega, by rw [HK.out]; simp only [← List.append_assoc, ← str_app]; rw [HS2.out], below_tr hbi (below_tr (Joins.below_alloc1 _ _) hbA)⟩
                  case measure => simp [intOf]; omega
                · have HK := Lib.hid (show O ++ typeH t ++ Lib.join ((t.cons.map conD).take (j + 1)) [32, 124, 32] = B ++ [32, 124, 32] ++ (c.name.toList ++ [32, 111, 102, 32] ++ T) from by rw [HJ.out, if_neg hj0, HC.out])
                  have t0 : (0 : Int) < (j : Int) := by omega
                  have t0' : 0 < j := by omega
                  have u0 : B.length + 3 ≤ 9223372036854775807 := by omega
                  have u1 : B.length + 3 + c.name.size ≤ 9223372036854775807 := by omega
                  have u2 : B.length + 3 + c.name.size + 4 ≤ 9223372036854775807 := by omega
                  have u3 : B.length + 3 + c.name.size + 4 + T.length ≤ 9223372036854775807 := by omega
                  have u7 : ¬ (9223372036854775807 < B.length + 3) := by omega
                  have u4 : ¬ (9223372036854775807 < B.length + 3 + c.name.size) := by omega
                  have u5 : ¬ (9223372036854775807 < B.length + 3 + c.name.size + 4) := by omega
                  have u6 : ¬ (9223372036854775807 < B.length + 3 + c.name.size + 4 + T.length) := by omega
                  clear hj0 HJ
                  go_wp2_with (go_at_call 22; refine (HT _ (Kept.alloc _ _)).out.mono ?_; rintro e wA ⟨rfl, hbA⟩)
                  go_roundw
                  case rel => exact ⟨j + 1, by go_num, by omega, by rw [HK.out]; simp only [← List.append_assoc, ← str_app]; rw [HS2.out], below_tr hbi (below_tr (Joins.below_alloc1 _ _) hbA)⟩
                  case measure => simp [intOf]; omega
            · obtain rfl : j = t.cons.length := by omega
              have HF := Lib.hid (show prgT (p.types.take (k + 1)) = O ++ typeH t ++ Lib.join ((t.cons.map conD).take t.cons.length) [32, 124, 32] ++ [59, 32] from by
                rw [HStep.out, show (t.cons.map conD).take t.cons.length = t.cons.map conD from List.take_of_length_le (by simp)]
                unfold typeT
                simp)
              clear hjl hcf
              generalize O ++ typeH t ++ Lib.join ((t.cons.map conD).take t.cons.length) [32, 124, 32] = B at *
              have u0 : B.length + 2 ≤ 9223372036854775807 := by omega
              have u1 : ¬ (9223372036854775807 < B.length + 2) := by omega
              go_wp2
              go_roundw
              case rel => exact ⟨k + 1, by go_num, by omega, by rw [HF.out]; simp only [← str_app], below_tr B5 hbi⟩
              case measure => simp [intOf]; omega
      · obtain rfl : k = p.types.length := by omega
        rw [List.take_length] at hOl ⊢
        have K3 := fun W (h : Below wr.heap.size wr W) => Kept.of_below (below_tr Br h)
        clear hPl hr0 e0 e1
        generalize prgT p.types = O at *
        have u0 : O.length + X.length ≤ 9223372036854775807 := by omega
        have u1 : ¬ (9223372036854775807 < O.length + X.length) := by omega
        go_wp2_with (go_at_call 23; refine (hX2 _ Kr).out.mono ?_; rintro e w2 ⟨rfl, hb2⟩)
        go_ret
        exact ⟨by rw [HB.out]; exact ret_str (by simp only [← str_app]), below_tr Br hb2⟩
end Go.Proofs.YtbehcmogndpkhaaGreatDoor
