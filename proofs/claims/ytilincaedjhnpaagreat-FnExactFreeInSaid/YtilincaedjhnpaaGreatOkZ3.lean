/- The program's check of programs: constructors, types, the whole. -/
import Derived.Test.YtilincaedjhnpaaGreatOkZ2
import Derived.Test.YtilincaedjhnpaaGreatOkW3
import Derived.Test.YtilincaedjhnpaaGreatFnTyI
import Derived.Test.YtilincaedjhnpaaGreatFnCn
import Derived.Test.YtilincaedjhnpaaGreatFnTp
namespace Go.Proofs.YtilincaedjhnpaaGreat
set_option linter.unusedVariables false
set_option maxRecDepth 100000
open Go.ChangeShapes Go.WideShapes Go.ChangeAt Go.RowKit Go.Maps Go.WideMaps

def boundB (params : Int) (x : TyI) : Bool := !decide (x.name.toList = []) || decide (x.var < params)
theorem iIsBound (params : Int) (bp : Nat) (x : TyI) (u : Value) (w : World) (hc : w.cell? ⟨bp, 0, none⟩ = some (.int .i64 params)) (hbp : bp < w.heap.size) (hu : TyIVal w u x) :
    Calls Tryz.prog 97 #[u, .pointer (some ⟨bp, 0, none⟩)] w fun e w' => e = .returned (.bool (boundB params x)) ∧ Below w.heap.size w w' := by
  obtain ⟨rfl, i0, i1, i2⟩ := hu
  have hbn : bp ≠ w.heap.size := by omega
  by_cases hn : x.name.toList = []
  · have h1 : x.name.toList.isEmpty = true := by simp [hn]
    have h2 : (x.name.toList != []) = false := by simp [hn]
    have HF := Lib.hid (show boundB params x = decide (x.var < params) from by simp [boundB, hn])
    go_enter Tryz.func97, Tryz.ntmps97
    go_wp2
    go_ret
    exact ⟨ret_bool HF.out.symm, Joins.below_alloc1 w _⟩
  · have h1 : x.name.toList.isEmpty = false := by simpa using hn
    have h2 : (x.name.toList != []) = true := by simpa using hn
    have HF := Lib.hid (show boundB params x = true from by simp [boundB, hn])
    clear hn
    go_enter Tryz.func97, Tryz.ntmps97
    go_wp2
    go_ret
    exact ⟨ret_bool HF.out.symm, Joins.below_alloc1 w _⟩
theorem e_iIsBound : ∀ args w, (callFunc 97 args).run Tryz.prog w = .ok (.enter 97 args) w := enters_of Tryz.func97 (by kernel_rfl) rfl
theorem con_no (params : Int) (c : Cn) (h : conB c.name = false) : isConB params c = false := by rw [isConB, h]; rfl
theorem con_bare (params : Int) (c : Cn) (h : conB c.name = true) (h2 : c.has = false) : isConB params c = decide (c.arg.length = 0) := by rw [isConB, h, if_pos h2]; rfl
theorem con_has (params : Int) (c : Cn) (h : conB c.name = true) (h2 : c.has = true) : isConB params c = (tyOkB c.arg && c.arg.all (boundB params)) := by
  rw [isConB, h, if_neg (by rw [h2]; simp)]; rfl
theorem iIsCon (params : Int) (c : Cn) (u : Value) (w : World) (hu : CnVal w u c) :
    Calls Tryz.prog 69 #[u, .int .i64 params] w fun e w' => e = .returned (.bool (isConB params c)) ∧ Below w.heap.size w w' := by
  obtain ⟨v2, rfl, i0, r2⟩ := hu
  have hN := fun W => iConOkB c.name W i0
  have hT := fun W (hK : Kept w W) => iTyOk c.arg v2 W (r2.kept TyIEl.st hK)
  have hE := fun W (hK : Kept w W) (bp : Nat) (hc : W.cell? ⟨bp, 0, none⟩ = some (.int .i64 params)) (hbp : bp < W.heap.size) => iEveryTyI 97 #[.pointer (some ⟨bp, 0, none⟩)] e_iIsBound (boundB params) c.arg v2 W (r2.kept TyIEl.st hK)
    (fun i hi u W' hW' hu => iIsBound params bp c.arg[i] u W' ((hW'.cell (p := ⟨bp, 0, none⟩) hbp).trans hc) (Nat.lt_of_lt_of_le hbp hW'.size) hu)
  obtain ⟨p2, c2, rfl, m2, -⟩ := r2.form
  unfold maxLen at m2
  clear r2
  have HN := Lib.hid (con_no params c)
  have HB := Lib.hid (con_bare params c)
  have HH := Lib.hid (con_has params c)
  generalize conB c.name = b1 at *
  cases b1
  · have HF := Lib.hid (HN.out rfl)
    go_enter Tryz.func69, Tryz.ntmps69
    go_wp2_with fail
    refine (hN _).mono ?_
    rintro e w1 ⟨rfl, hb1⟩
    go_wp2
    go_ret
    exact ⟨ret_bool HF.out.symm, below_tr (Joins.below_alloc2 w _ _) hb1⟩
  · cases hh : c.has
    · have HF := Lib.hid (HB.out rfl hh)
      go_enter Tryz.func69, Tryz.ntmps69
      go_wp2_with fail
      refine (hN _).mono ?_
      rintro e w1 ⟨rfl, hb1⟩
      obtain ⟨hc1, hf1⟩ := bcell hb1
      go_wp2
      go_ret
      refine ⟨ret_bool ?_, below_tr (Joins.below_alloc2 w _ _) hb1⟩
      rw [HF.out, Bool.eq_iff_iff]; simp
    · have HF := Lib.hid (HH.out rfl hh)
      clear HN HB HH
      generalize tyOkB c.arg = b2 at *
      go_enter Tryz.func69, Tryz.ntmps69
      go_wp2_with fail
      refine (hN _).mono ?_
      rintro e w1 ⟨rfl, hb1⟩
      obtain ⟨hc1, hf1⟩ := bcell hb1
      have B1 := below_tr (Joins.below_alloc2 w _ _) hb1
      go_wp2_with fail
      refine (hT _ (Kept.of_below B1)).mono ?_
      rintro e w2 ⟨rfl, hb2⟩
      have B2 := below_tr B1 hb2
      have hb12 := below_tr hb1 hb2
      have hsz := hb12.size
      simp at hsz
      obtain ⟨hc2, hf2⟩ := bcell hb12
      have hE1 := hE w2 (Kept.of_below B2) (w.heap.size + 1) (by rw [hc2 _ _ (by simp)]; simp) (by omega)
      clear hc1 hf1
      cases b2
      · go_wp2
        go_ret
        exact ⟨ret_bool (by rw [HF.out]; rfl), B2⟩
      · go_wp2_with fail
        refine hE1.mono ?_
        rintro e w3 ⟨rfl, hb3⟩
        go_wp2
        go_ret
        exact ⟨ret_bool (by rw [HF.out]; simp), below_tr B2 hb3⟩
theorem iIsConC (params : Int) (bt : Nat) (c : Cn) (u : Value) (w : World) (hc : w.cell? ⟨bt, 1, none⟩ = some (.int .i64 params)) (hbt : bt < w.heap.size) (hu : CnVal w u c) :
    Calls Tryz.prog 68 #[u, .pointer (some ⟨bt, 0, none⟩)] w fun e w' => e = .returned (.bool (isConB params c)) ∧ Below w.heap.size w w' := by
  have hN := fun W (hK : Kept w W) => iIsCon params c u W (hu.kept hK)
  obtain ⟨v2, rfl, i0, r2⟩ := hu
  obtain ⟨p2, c2, rfl, m2, -⟩ := r2.form
  have hbn : bt ≠ w.heap.size := by omega
  go_enter Tryz.func68, Tryz.ntmps68
  go_wp2_with fail
  refine (hN _ (Kept.alloc _ _)).mono ?_
  rintro e w1 ⟨rfl, hb1⟩
  go_wp2
  go_ret
  exact ⟨rfl, below_tr (Joins.below_alloc1 w _) hb1⟩
theorem e_iIsConC : ∀ args w, (callFunc 68 args).run Tryz.prog w = .ok (.enter 68 args) w := enters_of Tryz.func68 (by kernel_rfl) rfl
theorem ty_head (t : Tp) (h : ¬ (0 ≤ t.params ∧ t.params ≤ 2 ∧ 1 ≤ t.cons.length ∧ t.cons.length ≤ 8)) : isTypeB t = false := by
  cases hb : isTypeB t
  · rfl
  · exfalso
    unfold isTypeB at hb
    simp only [Bool.and_eq_true, decide_eq_true_eq] at hb
    exact h ⟨hb.2.1, hb.2.2.1, hb.2.2.2.1, hb.2.2.2.2.1⟩
theorem ty_name (t : Tp) (h : nameB t.name = false) : isTypeB t = false := by rw [isTypeB, h]; rfl
theorem ty_rest (t : Tp) (h : 0 ≤ t.params ∧ t.params ≤ 2 ∧ 1 ≤ t.cons.length ∧ t.cons.length ≤ 8) : isTypeB t = (nameB t.name && t.cons.all (isConB t.params)) := by
  obtain ⟨h1, h2, h3, h4⟩ := h
  simp [isTypeB, h1, h2, h3, h4]
theorem iIsType (t : Tp) (u : Value) (w : World) (hu : TpVal w u t) :
    Calls Tryz.prog 39 #[u] w fun e w' => e = .returned (.bool (isTypeB t)) ∧ Below w.heap.size w w' := by
  obtain ⟨v2, rfl, i0, i1, r2⟩ := hu
  have hN := fun W => iNameOkB t.name W i0
  have hE := fun W (hK : Kept w W) (bp : Nat) (hc : W.cell? ⟨bp, 1, none⟩ = some (.int .i64 t.params)) (hbp : bp < W.heap.size) => iEveryCn 68 #[.pointer (some ⟨bp, 0, none⟩)] e_iIsConC (isConB t.params) t.cons v2 W (r2.kept CnEl.st hK)
    (fun i hi u W' hW' hu => iIsConC t.params bp t.cons[i] u W' ((hW'.cell (p := ⟨bp, 1, none⟩) hbp).trans hc) (Nat.lt_of_lt_of_le hbp hW'.size) hu)
  obtain ⟨p2, c2, rfl, m2, -⟩ := r2.form
  unfold maxLen at m2
  clear r2
  have HN := Lib.hid (ty_name t)
  have HH := Lib.hid (ty_head t)
  have HR := Lib.hid (ty_rest t)
  generalize nameB t.name = b1 at *
  cases b1
  · have HF := Lib.hid (HN.out rfl)
    go_enter Tryz.func39, Tryz.ntmps39
    go_wp2_with fail
    refine (hN _).mono ?_
    rintro e w1 ⟨rfl, hb1⟩
    obtain ⟨hc1, hf1⟩ := bcell hb1
    go_wp2
    go_ret
    exact ⟨ret_bool HF.out.symm, below_tr (Joins.below_alloc1 w _) hb1⟩
  · by_cases h1 : 0 ≤ t.params
    · by_cases h2 : t.params ≤ 2
      · by_cases h3 : 1 ≤ t.cons.length
        · by_cases h4 : t.cons.length ≤ 8
          · have HF := Lib.hid (HR.out ⟨h1, h2, h3, h4⟩)
            have h3' : (1 : Int) ≤ (t.cons.length : Int) := by omega
            have h4' : (t.cons.length : Int) ≤ 8 := by omega
            clear h3 h4 HN HH HR
            go_enter Tryz.func39, Tryz.ntmps39
            go_wp2_with fail
            refine (hN _).mono ?_
            rintro e w1 ⟨rfl, hb1⟩
            obtain ⟨hc1, hf1⟩ := bcell hb1
            have B1 := below_tr (Joins.below_alloc1 w _) hb1
            have hsz := hb1.size
            simp at hsz
            have hE1 := hE w1 (Kept.of_below B1) w.heap.size (by rw [hc1 _ _ (by simp)]; simp) (by omega)
            go_wp2_with fail
            refine hE1.mono ?_
            rintro e w3 ⟨rfl, hb3⟩
            go_wp2
            go_ret
            exact ⟨ret_bool (by rw [HF.out]; simp), below_tr B1 hb3⟩
          · have HF := Lib.hid (HH.out (by omega))
            have h3' : (1 : Int) ≤ (t.cons.length : Int) := by omega
            have h4' : decide ((t.cons.length : Int) ≤ 8) = false := by simp; omega
            clear h3 h4 HN HH HR
            go_enter Tryz.func39, Tryz.ntmps39
            go_wp2_with fail
            refine (hN _).mono ?_
            rintro e w1 ⟨rfl, hb1⟩
            obtain ⟨hc1, hf1⟩ := bcell hb1
            go_wp2
            go_ret
            exact ⟨ret_bool HF.out.symm, below_tr (Joins.below_alloc1 w _) hb1⟩
        · have HF := Lib.hid (HH.out (by omega))
          have h3' : decide ((1 : Int) ≤ (t.cons.length : Int)) = false := by simp; omega
          clear h3 HN HH HR
          go_enter Tryz.func39, Tryz.ntmps39
          go_wp2_with fail
          refine (hN _).mono ?_
          rintro e w1 ⟨rfl, hb1⟩
          obtain ⟨hc1, hf1⟩ := bcell hb1
          go_wp2
          go_ret
          exact ⟨ret_bool HF.out.symm, below_tr (Joins.below_alloc1 w _) hb1⟩
      · have HF := Lib.hid (HH.out (by omega))
        have h2' : decide (t.params ≤ 2) = false := by simp; omega
        clear h2 HN HH HR
        go_enter Tryz.func39, Tryz.ntmps39
        go_wp2_with fail
        refine (hN _).mono ?_
        rintro e w1 ⟨rfl, hb1⟩
        obtain ⟨hc1, hf1⟩ := bcell hb1
        go_wp2
        go_ret
        exact ⟨ret_bool HF.out.symm, below_tr (Joins.below_alloc1 w _) hb1⟩
    · have HF := Lib.hid (HH.out (by omega))
      have h1' : decide (0 ≤ t.params) = false := by simp; omega
      clear h1 HN HH HR
      go_enter Tryz.func39, Tryz.ntmps39
      go_wp2_with fail
      refine (hN _).mono ?_
      rintro e w1 ⟨rfl, hb1⟩
      obtain ⟨hc1, hf1⟩ := bcell hb1
      go_wp2
      go_ret
      exact ⟨ret_bool HF.out.symm, below_tr (Joins.below_alloc1 w _) hb1⟩
theorem e_iIsType : ∀ args w, (callFunc 39 args).run Tryz.prog w = .ok (.enter 39 args) w := enters_of Tryz.func39 (by kernel_rfl) rfl
theorem iProgramOk (p : Pg) (v0 v1 : Value) (w : World) (h0 : RowRd 3 TpEl w v0 p.types) (h1 : RowRd 6 NdEl w v1 p.nodes) :
    Calls Tryz.prog 22 #[.agg #[v0, v1]] w fun e w' => e = .returned (.bool (pgOkB p)) ∧ Below w.heap.size w w' := by
  have HP := Lib.hid (pg_ok p)
  have hT := fun W (hK : Kept w W) => iEveryTp 39 #[] e_iIsType isTypeB p.types v0 W (h0.kept TpEl.st hK) (fun i hi u W' hW' hu => iIsType p.types[i] u W' hu)
  have hP := fun W (hK : Kept w W) => iPreNd p.nodes v1 W (h1.kept NdEl.st hK)
  have hkids := pg_kids p.nodes
  have hE := fun (hp : preB (p.nodes.map Nd.kids) = true) W (hK : Kept w W) (bp : Nat) (hc0 : W.cell? ⟨bp, 0, none⟩ = some v0) (hc1 : W.cell? ⟨bp, 1, none⟩ = some v1) (hbp : bp < W.heap.size) => iEveryNd 35 #[.pointer (some ⟨bp, 0, none⟩)] e_iRightNd (rightNB p.nodes) p.nodes v1 W (h1.kept NdEl.st hK)
    (fun i hi u W' hW' hu => iRightNd p.nodes v0 v1 bp p.nodes[i] u W' ((hW'.cell (p := ⟨bp, 0, none⟩) hbp).trans hc0) ((hW'.cell (p := ⟨bp, 1, none⟩) hbp).trans hc1) (Nat.lt_of_lt_of_le hbp hW'.size) (h1.kept NdEl.st (hK.trans (Kept.of_below hW'))) hu (hkids hp _ (List.getElem_mem hi)))
  clear hkids
  obtain ⟨pa, ca, rfl, ma, -⟩ := h0.form
  obtain ⟨pb, cb, rfl, mb, -⟩ := h1.form
  unfold maxLen at ma mb
  clear h0 h1
  generalize p.types.all isTypeB = b1 at *
  generalize hb2 : preB (p.nodes.map Nd.kids) = b2 at *
  generalize p.nodes.all (rightNB p.nodes) = b3 at *
  by_cases h8 : p.types.length ≤ 8
  · have HL := Lib.hid (show decide (p.types.length ≤ 8) = true from by simpa using h8)
    have h8' : (p.types.length : Int) ≤ 8 := by omega
    clear h8
    go_enter Tryz.func22, Tryz.ntmps22
    go_wp2_with fail
    refine (hT _ (Kept.alloc _ _)).mono ?_
    rintro e w1 ⟨rfl, hb1⟩
    obtain ⟨hc1, hf1⟩ := bcell hb1
    have B1 := below_tr (Joins.below_alloc1 w _) hb1
    cases b1
    · go_wp2
      go_ret
      exact ⟨ret_bool (by rw [HP.out, HL.out]; rfl), B1⟩
    · go_wp2_with fail
      refine (hP _ (Kept.of_below B1)).mono ?_
      rintro e w2 ⟨rfl, hb2'⟩
      have B2 := below_tr B1 hb2'
      have hb12 := below_tr hb1 hb2'
      have hsz := hb12.size
      simp at hsz
      obtain ⟨hc2, hf2⟩ := bcell hb12
      clear hc1 hf1
      cases b2
      · go_wp2
        go_ret
        exact ⟨ret_bool (by rw [HP.out, HL.out]; rfl), B2⟩
      · have hE1 := hE rfl w2 (Kept.of_below B2) w.heap.size (by rw [hc2 _ _ (by simp)]; simp) (by rw [hc2 _ _ (by simp)]; simp) (by omega)
        go_wp2_with fail
        refine hE1.mono ?_
        rintro e w3 ⟨rfl, hb3⟩
        go_wp2
        go_ret
        exact ⟨ret_bool (by rw [HP.out, HL.out]; simp), below_tr B2 hb3⟩
  · have HL := Lib.hid (show decide (p.types.length ≤ 8) = false from by simpa using h8)
    have h8' : decide ((p.types.length : Int) ≤ 8) = false := by simp; omega
    clear h8
    go_enter Tryz.func22, Tryz.ntmps22
    go_wp2
    go_ret
    exact ⟨ret_bool (by rw [HP.out, HL.out]; rfl), Joins.below_alloc1 w _⟩
theorem iProgramOkC (p : Pg) (v0 v1 : Value) (w : World) (h0 : RowRd 3 TpEl w v0 p.types) (h1 : RowRd 6 NdEl w v1 p.nodes) (hz : bPg p ≤ 1048576) :
    Calls Tryz.prog 22 #[.agg #[v0, v1]] w fun e w' => e = .returned (.bool (pgOkB p)) ∧ Below w.heap.size w w' := iProgramOk p v0 v1 w h0 h1
end Go.Proofs.YtilincaedjhnpaaGreat
