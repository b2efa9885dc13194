/- Texts of this proof, merged: SamI, QpT, SamS, SamF. -/
import Derived.Test.YtaibgnfjjbncpaaGreatM5
import Derived.Test.YtaibgnfjjbncpaaGreatM6
import Derived.Test.YtaibgnfjjbncpaaGreatM13
import Derived.Test.YtaibgnfjjbncpaaGreatM12
import Derived.RegionTactic
import Derived.ChangeAlike
import Derived.BigRegion
import Derived.Test.YtaibgnfjjbncpaaGreatM10
import Derived.Deep.RegionHeld3
import Derived.BigGuard
import Derived.Deep.QuietTactic
import Derived.BigQuiet
namespace Go.Proofs.YtaibgnfjjbncpaaGreat
set_option linter.unusedVariables false
set_option maxRecDepth 100000
open Go.ChangeShapes Go.WideShapes Go.ChangeAt Go.RowKit

/-- Two programs, both right, that differ in nothing but where their nodes stood. -/
noncomputable def smB (p q : Pg) : Bool := pgOkB p && (pgOkB q && (eqF tpE p.types q.types && eqF ndE p.nodes q.nodes))
theorem ints_iff (l m : List Int) : eqF (fun a b => decide (a = b)) l m = true ↔ l = m := by
  have := eqF_iff (fun a b => decide (a = b)) (id : Int → Int) l m (fun x _ y _ => by simp)
  simpa using this
theorem tyi_iff (l m : List TyI) : eqF tyiB l m = true ↔ l = m := by
  have := eqF_iff tyiB (id : TyI → TyI) l m (fun x _ y _ => by
    obtain ⟨a, b, c⟩ := x; obtain ⟨d, e, f⟩ := y; simp [tyiB])
  simpa using this
theorem pn_iff (x y : PN) : pnE x y = true ↔ x = y := by
  obtain ⟨a, b, c, d⟩ := x; obtain ⟨e, f, g, h⟩ := y
  simp [pnE, ints_iff]
theorem pat_iff (x y : List PN) : patE x y = true ↔ x = y := by
  have := eqF_iff pnE (id : PN → PN) x y (fun x _ y _ => by simpa using pn_iff x y)
  unfold patE
  simpa using this
theorem nd_iff (x y : Nd) : ndE x y = true ↔ strip x = strip y := by
  have := eqF_iff patE (id : List PN → List PN) x.pats y.pats (fun x _ y _ => by simpa using pat_iff x y)
  simp only [List.map_id] at this
  simp [ndE, strip, ints_iff, this]
theorem cn_iff (x y : Cn) : cnE x y = true ↔ x = y := by
  obtain ⟨a, b, c⟩ := x; obtain ⟨e, f, g⟩ := y
  simp [cnE, tyi_iff]
theorem tp_iff (x y : Tp) : tpE x y = true ↔ x = y := by
  have := eqF_iff cnE (id : Cn → Cn) x.cons y.cons (fun x _ y _ => by simpa using cn_iff x y)
  simp only [List.map_id] at this
  obtain ⟨a, b, c⟩ := x; obtain ⟨e, f, g⟩ := y
  simp only at this
  simp [tpE, this]
/-- Right programs are the same if and only if their texts are. -/
theorem sm_iff {p q : Pg} (hp : pgOkB p = true) (hq : pgOkB q = true) : smB p q = decide (prPgRes p = prPgRes q) := by
  have h1 := eqF_iff tpE (id : Tp → Tp) p.types q.types (fun x _ y _ => by simpa using tp_iff x y)
  have h2 := eqF_iff ndE strip p.nodes q.nodes (fun x _ y _ => nd_iff x y)
  simp only [List.map_id] at h1
  rw [Bool.eq_iff_iff]
  simp only [smB, hp, hq, Bool.true_and, Bool.and_eq_true, decide_eq_true_eq, prg_inj hp hq, h1, h2]
set_option maxHeartbeats 1500000 in
theorem iSameProgramC (p q : Pg) (v0 v1 u0 u1 : Value) (w : World) (h0 : RowRd 3 TpEl w v0 p.types) (h1 : RowRd 6 NdEl w v1 p.nodes) (k0 : RowRd 3 TpEl w u0 q.types) (k1 : RowRd 6 NdEl w u1 q.nodes) (hz : bPg p ≤ 1048576) (hz2 : bPg q ≤ 1048576) :
    Calls Tryz.prog 7 #[.agg #[v0, v1], .agg #[u0, u1]] w fun e w' => e = .returned (.bool (smB p q)) ∧ Below w.heap.size w w' := by
  have HP := fun W (hW : Below w.heap.size w W) => Lib.hid (iProgramOkC p v0 v1 W (h0.kept TpEl.st (Kept.of_below hW)) (h1.kept NdEl.st (Kept.of_below hW)) hz)
  have HQ := fun W (hW : Below w.heap.size w W) => Lib.hid (iProgramOkC q u0 u1 W (k0.kept TpEl.st (Kept.of_below hW)) (k1.kept NdEl.st (Kept.of_below hW)) hz2)
  have HT := fun W (hW : Below w.heap.size w W) => Lib.hid (iEqFTp 17 #[] e_sameType tpE p.types q.types v0 u0 W (h0.kept TpEl.st (Kept.of_below hW)) (k0.kept TpEl.st (Kept.of_below hW)) (fun i hi hj u u2 W2 hW2 h1 h2 => by simpa using iSameType _ _ u u2 W2 h1 h2))
  have HN := fun W (hW : Below w.heap.size w W) => Lib.hid (iEqFNd 19 #[] e_sameNode ndE p.nodes q.nodes v1 u1 W (h1.kept NdEl.st (Kept.of_below hW)) (k1.kept NdEl.st (Kept.of_below hW)) (fun i hi hj u u2 W2 hW2 h1 h2 => by simpa using iSameNode _ _ u u2 W2 h1 h2))
  have HF := Lib.hid (show smB p q = (pgOkB p && (pgOkB q && (eqF tpE p.types q.types && eqF ndE p.nodes q.nodes))) from rfl)
  generalize smB p q = r at *
  generalize pgOkB p = a at *
  generalize pgOkB q = b at *
  generalize eqF tpE p.types q.types = c at *
  generalize eqF ndE p.nodes q.nodes = d at *
  obtain ⟨p0, c0, rfl, -, -⟩ := h0.form
  obtain ⟨p1, c1, rfl, -, -⟩ := h1.form
  obtain ⟨q0, d0, rfl, -, -⟩ := k0.form
  obtain ⟨q1, d1, rfl, -, -⟩ := k1.form
  clear h0 h1 k0 k1 hz hz2
  generalize p.types.length = n0 at *
  generalize p.nodes.length = n1 at *
  generalize q.types.length = m0 at *
  generalize q.nodes.length = m1 at *
  go_enter Tryz.func7, Tryz.ntmps7
  cases a
  · go_wp2_with fail
    refine (HP _ (below_tr (Joins.below_alloc1 _ _) (Joins.below_alloc1 _ _))).out.mono ?_
    rintro e wA ⟨rfl, hbA⟩
    obtain ⟨hcA, hfA⟩ := bcell hbA
    have BA := below_tr (below_tr (Joins.below_alloc1 _ _) (Joins.below_alloc1 _ _)) hbA
    have a0 : wA.cell? ⟨w.heap.size, 0, none⟩ = some (.slice p0 n0 c0) := by rw [hcA _ _ (by simp <;> omega)]; simp
    have a1 : wA.cell? ⟨w.heap.size, 1, none⟩ = some (.slice p1 n1 c1) := by rw [hcA _ _ (by simp <;> omega)]; simp
    have a2 : wA.cell? ⟨w.heap.size + 1, 0, none⟩ = some (.slice q0 m0 d0) := by rw [hcA _ _ (by simp <;> omega)]; simp
    have a3 : wA.cell? ⟨w.heap.size + 1, 1, none⟩ = some (.slice q1 m1 d1) := by rw [hcA _ _ (by simp <;> omega)]; simp
    have hsA : w.heap.size + 1 < wA.heap.size := by have := hbA.size; simp at this; omega
    clear hcA hfA
    go_wp2
    go_ret
    exact ⟨ret_bool (by rw [HF.out]; rfl), BA⟩
  go_wp2_with fail
  refine (HP _ (below_tr (Joins.below_alloc1 _ _) (Joins.below_alloc1 _ _))).out.mono ?_
  rintro e wA ⟨rfl, hbA⟩
  obtain ⟨hcA, hfA⟩ := bcell hbA
  have BA := below_tr (below_tr (Joins.below_alloc1 _ _) (Joins.below_alloc1 _ _)) hbA
  have a0 : wA.cell? ⟨w.heap.size, 0, none⟩ = some (.slice p0 n0 c0) := by rw [hcA _ _ (by simp <;> omega)]; simp
  have a1 : wA.cell? ⟨w.heap.size, 1, none⟩ = some (.slice p1 n1 c1) := by rw [hcA _ _ (by simp <;> omega)]; simp
  have a2 : wA.cell? ⟨w.heap.size + 1, 0, none⟩ = some (.slice q0 m0 d0) := by rw [hcA _ _ (by simp <;> omega)]; simp
  have a3 : wA.cell? ⟨w.heap.size + 1, 1, none⟩ = some (.slice q1 m1 d1) := by rw [hcA _ _ (by simp <;> omega)]; simp
  have hsA : w.heap.size + 1 < wA.heap.size := by have := hbA.size; simp at this; omega
  clear hcA hfA
  cases b
  · go_wp2_with fail
    refine (HQ _ BA).out.mono ?_
    rintro e wB ⟨rfl, hbB⟩
    have BB := below_tr BA hbB
    have b0 := (hbB.cell (p := ⟨w.heap.size, 0, none⟩) (by first | exact hsA | exact Nat.lt_of_succ_lt hsA)).trans a0
    have b1 := (hbB.cell (p := ⟨w.heap.size, 1, none⟩) (by first | exact hsA | exact Nat.lt_of_succ_lt hsA)).trans a1
    have b2 := (hbB.cell (p := ⟨w.heap.size + 1, 0, none⟩) (by first | exact hsA | exact Nat.lt_of_succ_lt hsA)).trans a2
    have b3 := (hbB.cell (p := ⟨w.heap.size + 1, 1, none⟩) (by first | exact hsA | exact Nat.lt_of_succ_lt hsA)).trans a3
    have hsB := Nat.lt_of_lt_of_le hsA hbB.size
    clear a0 a1 a2 a3
    go_wp2
    go_ret
    exact ⟨ret_bool (by rw [HF.out]; rfl), BB⟩
  go_wp2_with fail
  refine (HQ _ BA).out.mono ?_
  rintro e wB ⟨rfl, hbB⟩
  have BB := below_tr BA hbB
  have b0 := (hbB.cell (p := ⟨w.heap.size, 0, none⟩) (by first | exact hsA | exact Nat.lt_of_succ_lt hsA)).trans a0
  have b1 := (hbB.cell (p := ⟨w.heap.size, 1, none⟩) (by first | exact hsA | exact Nat.lt_of_succ_lt hsA)).trans a1
  have b2 := (hbB.cell (p := ⟨w.heap.size + 1, 0, none⟩) (by first | exact hsA | exact Nat.lt_of_succ_lt hsA)).trans a2
  have b3 := (hbB.cell (p := ⟨w.heap.size + 1, 1, none⟩) (by first | exact hsA | exact Nat.lt_of_succ_lt hsA)).trans a3
  have hsB := Nat.lt_of_lt_of_le hsA hbB.size
  clear a0 a1 a2 a3
  cases c
  · go_wp2_with fail
    refine (HT _ BB).out.mono ?_
    rintro e wC ⟨rfl, hbC⟩
    have BC := below_tr BB hbC
    have c0 := (hbC.cell (p := ⟨w.heap.size, 0, none⟩) (by first | exact hsB | exact Nat.lt_of_succ_lt hsB)).trans b0
    have c1 := (hbC.cell (p := ⟨w.heap.size, 1, none⟩) (by first | exact hsB | exact Nat.lt_of_succ_lt hsB)).trans b1
    have c2 := (hbC.cell (p := ⟨w.heap.size + 1, 0, none⟩) (by first | exact hsB | exact Nat.lt_of_succ_lt hsB)).trans b2
    have c3 := (hbC.cell (p := ⟨w.heap.size + 1, 1, none⟩) (by first | exact hsB | exact Nat.lt_of_succ_lt hsB)).trans b3
    have hsC := Nat.lt_of_lt_of_le hsB hbC.size
    clear b0 b1 b2 b3
    go_wp2
    go_ret
    exact ⟨ret_bool (by rw [HF.out]; rfl), BC⟩
  go_wp2_with fail
  refine (HT _ BB).out.mono ?_
  rintro e wC ⟨rfl, hbC⟩
  have BC := below_tr BB hbC
  have c0 := (hbC.cell (p := ⟨w.heap.size, 0, none⟩) (by first | exact hsB | exact Nat.lt_of_succ_lt hsB)).trans b0
  have c1 := (hbC.cell (p := ⟨w.heap.size, 1, none⟩) (by first | exact hsB | exact Nat.lt_of_succ_lt hsB)).trans b1
  have c2 := (hbC.cell (p := ⟨w.heap.size + 1, 0, none⟩) (by first | exact hsB | exact Nat.lt_of_succ_lt hsB)).trans b2
  have c3 := (hbC.cell (p := ⟨w.heap.size + 1, 1, none⟩) (by first | exact hsB | exact Nat.lt_of_succ_lt hsB)).trans b3
  have hsC := Nat.lt_of_lt_of_le hsB hbC.size
  clear b0 b1 b2 b3
  go_wp2_with fail
  refine (HN _ BC).out.mono ?_
  rintro e wD ⟨rfl, hbD⟩
  have BD := below_tr BC hbD
  have d0 := (hbD.cell (p := ⟨w.heap.size, 0, none⟩) (by first | exact hsC | exact Nat.lt_of_succ_lt hsC)).trans c0
  have d1 := (hbD.cell (p := ⟨w.heap.size, 1, none⟩) (by first | exact hsC | exact Nat.lt_of_succ_lt hsC)).trans c1
  have d2 := (hbD.cell (p := ⟨w.heap.size + 1, 0, none⟩) (by first | exact hsC | exact Nat.lt_of_succ_lt hsC)).trans c2
  have d3 := (hbD.cell (p := ⟨w.heap.size + 1, 1, none⟩) (by first | exact hsC | exact Nat.lt_of_succ_lt hsC)).trans c3
  have hsD := Nat.lt_of_lt_of_le hsC hbD.size
  clear c0 c1 c2 c3
  go_wp2
  go_ret
  exact ⟨ret_bool (by rw [HF.out]; simp), BD⟩
end Go.Proofs.YtaibgnfjjbncpaaGreat
namespace Go.Proofs.YtaibgnfjjbncpaaGreat
set_option linter.unusedVariables false
set_option maxRecDepth 100000
open Go.ChangeShapes Go.WideShapes Go.ChangeAt Go.RowKit

theorem ba_nil (s : ByteArray) : s ++ ⟨#[]⟩ = s := by
  have := str_app s.data.toList []
  simpa using this
set_option maxHeartbeats 40000000 in
theorem sPrintProgramC (p : Pg) (v0 v1 : Value) (w : World) (h0 : RowRd 3 TpEl w v0 p.types) (h1 : RowRd 6 NdEl w v1 p.nodes) (hz : bPg p ≤ 1048576) :
    Calls Tryz.prog 12 #[.agg #[v0, v1]] w fun e w' => e = .returned (.string (prPgRes p)) ∧ Below w.heap.size w w' := by
  have h00 := h0
  have h10 := h1
  obtain ⟨p0, cap0, rfl, hm0, hr0⟩ := h0.form
  obtain ⟨p1, cap1, rfl, hm1, -⟩ := h1.form
  have hO := fun W (hK : Kept w W) => Lib.hid (sProgramOkC p _ _ W (h00.kept TpEl.st hK) (h10.kept NdEl.st hK) hz)
  cases hb : pgOkB p
  · rw [hb] at hO
    have HB := Lib.hid (show prPgRes p = ⟨#[]⟩ from by rw [prPgRes, hb]; rfl)
    clear h00 h10 h0 h1 hr0
    go_enter Tryz.func12, Tryz.ntmps12
    go_wp2_with (go_at_call 11; refine (hO _ (Kept.alloc _ _)).out.mono ?_; rintro e w1 ⟨rfl, hb1⟩; obtain ⟨hcl, hfr⟩ := bcell hb1)
    go_ret
    exact ⟨by rw [HB.out]; rfl, below_tr (Joins.below_alloc1 w _) hb1⟩
  · rw [hb] at hO
    obtain ⟨t8, tok, hv, n6, n0⟩ := pgV_of hb
    have HB := Lib.hid (show prPgRes p = ⟨(prgT p.types ++ exprT NT p.nodes (p.nodes.length + 1) 0 0).toArray⟩ from by rw [prPgRes, if_pos hb])
    have hS : ∀ x ∈ p.nodes, x.s.size ≤ 1048576 := fun x hx => by
      obtain ⟨i, hi, rfl⟩ := List.getElem_of_mem hx
      have h3 := bulkL_mem bNd p.nodes i hi
      have h4 : p.nodes[i].s.size ≤ bNd p.nodes[i] := by unfold bNd; omega
      unfold bPg at hz
      omega
    have hX := fun W (hK : Kept w W) => Lib.hid (sExpr p.nodes hv hS n6 (p.nodes.length + 1) (.slice p0 p.types.length cap0) _ 0 W ⟨_, _, _, rfl⟩ (h10.kept NdEl.st hK) n0 (by omega))
    have hXl := ex_len hv hS (p.nodes.length + 1) 0 0 n0
    have hPl : ∀ k, (prgT (p.types.take k)).length ≤ 200000 * 8 := fun k => by
      have := prgT_len (l := p.types.take k) fun t ht => tok t (List.mem_of_mem_take ht)
      have h2 : (p.types.take k).length ≤ 8 := by rw [List.length_take]; omega
      exact Nat.le_trans this (Nat.mul_le_mul_left _ h2)
    obtain ⟨X, hXe⟩ : ∃ X, X = exprT NT p.nodes (p.nodes.length + 1) 0 0 := ⟨_, rfl⟩
    rw [← hXe] at hXl HB
    have HX := Lib.hid hXe
    have hX2 := fun W (hK : Kept w W) => Lib.hid (show Calls Tryz.prog 29 #[.agg #[.slice p0 p.types.length cap0, .slice p1 p.nodes.length cap1], .int .i64 0] W fun e w' => e = .returned (.string ⟨X.toArray⟩) ∧ Below W.heap.size W w' from by rw [hXe]; exact (hX W hK).out)
    clear hX hXe h00 h10 h0 h1
    go_enter Tryz.func12, Tryz.ntmps12
    go_wp2_with (go_at_call 11; refine (hO _ (Kept.alloc _ _)).out.mono ?_; rintro e w1 ⟨rfl, hb1⟩; have B1 := below_tr (Joins.below_alloc1 w _) hb1; have e0 := (hb1.cell (p := ⟨w.heap.size, 0, none⟩) (by simp)).trans (pp_blk_cell (pp_alloc_at w _ rfl) 0).1; have e1 := (hb1.cell (p := ⟨w.heap.size, 1, none⟩) (by simp)).trans (pp_blk_cell (pp_alloc_at w _ rfl) 1).1; have z1 : w.heap.size < w1.heap.size := by have := hb1.size; simp at this; omega)
    clear hO hb1
    go_loopw [3, 14] (fun vo i wr => ∃ k : Nat, i = .int .i64 k ∧ k ≤ p.types.length ∧ vo = .string ⟨(prgT (p.types.take k)).toArray⟩ ∧ Below w1.heap.size w1 wr) (fun _ i _ => p.types.length - (intOf i).toNat)
    case atStart => exact ⟨0, rfl, Nat.zero_le _, rfl, Below.refl _ _⟩
    case round =>
      obtain ⟨k, rfl, hk, rfl, hbr⟩ := hrel
      have Br := below_tr B1 hbr
      have Kr := Kept.of_below Br
      have c0 := (hbr.cell (p := ⟨w.heap.size, 0, none⟩) z1).trans e0
      have c1 := (hbr.cell (p := ⟨w.heap.size, 1, none⟩) z1).trans e1
      simp only [List.getElem?_toArray, List.getElem?_cons_zero, List.getElem?_cons_succ] at c0 c1
      have hOl := hPl k
      by_cases hlt : k < p.types.length
      · obtain ⟨b, o, rfl, hbw, hc⟩ := hr0 (by omega)
        have ex := TpEl.st w wr b _ _ Kr hbw (hc k hlt)
        have htk := tok p.types[k] (List.getElem_mem hlt)
        have hstep := prgT_s p.types k hlt
        clear hc hr0 hPl e0 e1
        generalize p.types[k] = t at *
        generalize prgT (p.types.take k) = O at *
        have HStep := Lib.hid hstep
        clear hstep
        obtain ⟨q1, q2, q3, q4, q5, q6⟩ := isType_parts htk
        have hnl := nm_len (.inl q1)
        obtain ⟨⟨a0, -⟩, ⟨a1, -⟩, ⟨u2, a2, r2⟩⟩ := ex
        obtain ⟨pc, cc, rfl, hmc, hcf⟩ := r2.form
        have HS := Lib.hid (show (⟨t.name.toList.toArray⟩ : ByteArray) = t.name from by rw [pr_toList])
        have hp3 : t.params = 0 ∨ t.params = 1 ∨ t.params = 2 := by omega
        rcases hp3 with hp | hp | hp
        · rw [hp] at a1
          have HH := Lib.hid (show typeH t = [116, 121, 112, 101, 32] ++ ([] : List UInt8) ++ t.name.toList ++ [32, 61, 32] from by simp [typeH, headP, hp])
          have u1 : ¬ (9223372036854775807 < O.length + 5) := by omega
          have u2 : ¬ (9223372036854775807 < O.length + 5 + t.name.size) := by omega
          have u3 : ¬ (9223372036854775807 < O.length + 5 + t.name.size + 3) := by omega
          clear hp
          go_wp2_with fail
          refine gen_world (P := fun W => Code.wp _ _ _ _ W) _ ?_
          intro W1 hW1
          have B3 : Below wr.heap.size wr W1 := by rw [hW1]; exact Joins.below_alloc1 wr _
          have hb9 := (show W1.heap[wr.heap.size]? = some (.cells #[.string t.name, .int .i64 0, .slice pc t.cons.length cc] 43 (0, 0)) from by rw [hW1]; exact pp_alloc_at wr _ rfl)
          have z9 : W1.heap.size = wr.heap.size + 1 := by rw [hW1]; simp
          clear hW1
          have f0 := (pp_blk_cell hb9 0).1
          have f1 := (pp_blk_cell hb9 1).1
          have f2 := (pp_blk_cell hb9 2).1
          simp only [List.getElem?_toArray, List.getElem?_cons_zero, List.getElem?_cons_succ] at f0 f1 f2
          go_region
          go_wp2_with fail
          refine gen_world (P := fun W => Code.wp _ _ _ _ W) _ ?_
          intro W2 hW2
          have B4 : Below W1.heap.size W1 W2 := by rw [hW2]; exact ((Below.refl _ _).alloc (Nat.le_refl _) _).drew
          clear hW2
          have B5 := below_tr hbr (below_tr B3 B4)
          have B6 := below_tr Br (below_tr B3 B4)
          have hjl : ∀ j, (O ++ typeH t ++ Lib.join ((t.cons.map conD).take j) [32, 124, 32]).length ≤ 2000000 := fun j => by
            have h1 := typeH_len q1
            have h2 := join_le ((t.cons.map conD).take j) [32, 124, 32] 9000 (by simp) (fun x hx => by
              obtain ⟨c, hc, rfl⟩ := List.mem_map.1 (List.mem_of_mem_take hx)
              exact conD_len (q6 c hc))
            have h3 : ((t.cons.map conD).take j).length ≤ 8 := by simp only [List.length_take, List.length_map]; omega
            have h4 := Nat.mul_le_mul_left (2 * 9000) h3
            simp only [List.length_append]
            omega
          have hcl8 : t.cons.length ≤ 8 := q5
          clear f0 f1 f2 hb9 a0 a1 a2 r2 q2 q3 q4 q5 u1 u2 u3 htk hmc
          generalize wr = wo at *
          go_loopw [3, 33] (fun vo i wr => ∃ j : Nat, i = .int .i64 j ∧ j ≤ t.cons.length ∧ vo = .string ⟨(O ++ typeH t ++ Lib.join ((t.cons.map conD).take j) [32, 124, 32]).toArray⟩ ∧ Below W2.heap.size W2 wr) (fun _ i _ => t.cons.length - (intOf i).toNat)
          case atStart =>
            refine ⟨0, rfl, Nat.zero_le _, ?_, Below.refl _ _⟩
            rw [HH.out, List.take_zero, Lib.join_nil]
            simp only [List.append_nil, ← List.append_assoc, ← str_app]
            rw [HS.out, ba_nil]
          case round =>
            obtain ⟨j, rfl, hj, rfl, hbi⟩ := hrel
            have Bi := below_tr B6 hbi
            have Ki := Kept.of_below Bi
            have hBl := hjl j
            by_cases hlj : j < t.cons.length
            · obtain ⟨bc, oc, rfl, hbc, hcc⟩ := hcf (by omega)
              have ex2 := CnEl.st wo _ bc _ _ (Kept.of_below (below_tr (below_tr B3 B4) hbi)) hbc (hcc j hlj)
              have hcq := q6 t.cons[j] (List.getElem_mem hlj)
              have hjs := join_s (t.cons.map conD) [32, 124, 32] j (by simpa using hlj)
              rw [List.getElem_map] at hjs
              clear hcc hcf hjl q6
              generalize t.cons[j] = c at *
              have HJ := Lib.hid (show O ++ typeH t ++ Lib.join ((t.cons.map conD).take (j + 1)) [32, 124, 32] = (if j = 0 then O ++ typeH t ++ Lib.join ((t.cons.map conD).take j) [32, 124, 32] else O ++ typeH t ++ Lib.join ((t.cons.map conD).take j) [32, 124, 32] ++ [32, 124, 32]) ++ conD c from by
                rw [hjs]
                split
                · next h0 => subst h0; simp [Lib.join_nil]
                · simp)
              clear hjs
              generalize O ++ typeH t ++ Lib.join ((t.cons.map conD).take j) [32, 124, 32] = B at *
              obtain ⟨⟨a0, -⟩, a1, ⟨ua, a2, ra⟩⟩ := ex2
              unfold BoolEl at a1
              have ra0 := ra
              obtain ⟨pa, ca, rfl, -, -⟩ := ra.form
              unfold isConB at hcq
              simp only [Bool.and_eq_true] at hcq
              have hcn := nm_len (.inr hcq.1)
              have HS2 := Lib.hid (show (⟨c.name.toList.toArray⟩ : ByteArray) = c.name from by rw [pr_toList])
              cases hh : c.has
              · have HC := Lib.hid (show conD c = c.name.toList from by unfold conD; rw [if_neg (by simp [hh])])
                rw [hh] at a1
                clear hcq ra ra0 hh
                by_cases hj0 : j = 0
                · have HK := Lib.hid (show O ++ typeH t ++ Lib.join ((t.cons.map conD).take (j + 1)) [32, 124, 32] = B ++ c.name.toList from by rw [HJ.out, if_pos hj0, HC.out])
                  have t0 : decide ((0 : Int) < (j : Int)) = false := by simp; omega
                  have t0' : decide (0 < j) = false := by simp; omega
                  have u1 : B.length + c.name.size ≤ 9223372036854775807 := by omega
                  have u2 : ¬ (9223372036854775807 < B.length + c.name.size) := by omega
                  clear hj0 HJ
                  go_wp2
                  go_roundw
                  case rel => exact ⟨j + 1, by go_num, by omega, by rw [HK.out]; simp only [← str_app]; rw [HS2.out], below_tr hbi (Joins.below_alloc1 _ _)⟩
                  case measure => simp [intOf]; omega
                · have HK := Lib.hid (show O ++ typeH t ++ Lib.join ((t.cons.map conD).take (j + 1)) [32, 124, 32] = B ++ [32, 124, 32] ++ c.name.toList from by rw [HJ.out, if_neg hj0, HC.out])
                  have t0 : (0 : Int) < (j : Int) := by omega
                  have t0' : 0 < j := by omega
                  have u0 : B.length + 3 ≤ 9223372036854775807 := by omega
                  have u1 : B.length + 3 + c.name.size ≤ 9223372036854775807 := by omega
                  have u2 : ¬ (9223372036854775807 < B.length + 3) := by omega
                  have u3 : ¬ (9223372036854775807 < B.length + 3 + c.name.size) := by omega
                  clear hj0 HJ
                  go_wp2
                  go_roundw
                  case rel => exact ⟨j + 1, by go_num, by omega, by rw [HK.out]; simp only [← str_app]; rw [HS2.out], below_tr hbi (Joins.below_alloc1 _ _)⟩
                  case measure => simp [intOf]; omega
              · rw [if_neg (by simp [hh])] at hcq
                simp only [Bool.and_eq_true] at hcq
                obtain ⟨hcn2, hty, -⟩ := hcq
                obtain ⟨y1, y2, y3⟩ := tyOk_parts hty
                have hTl := prTy_top hty
                have HT := fun W (hK : Kept _ W) => Lib.hid (sTyText c.arg y1 y2 (c.arg.length + 1) _ 0 W (ra0.kept TyIEl.st hK) (by omega) (by omega) (by omega))
                have HC0 := (show conD c = c.name.toList ++ [32, 111, 102, 32] ++ prTy varL (c.arg.length + 1) c.arg 0 from by unfold conD; rw [if_pos hh])
                generalize prTy varL (c.arg.length + 1) c.arg 0 = T at *
                generalize c.arg.length = la at *
                have HC := Lib.hid HC0
                rw [hh] at a1
                clear ra ra0 hh y1 y2 y3 hty HC0
                by_cases hj0 : j = 0
                · have HK := Lib.hid (show O ++ typeH t ++ Lib.join ((t.cons.map conD).take (j + 1)) [32, 124, 32] = B ++ (c.name.toList ++ [32, 111, 102, 32] ++ T) from by rw [HJ.out, if_pos hj0, HC.out])
                  have t0 : decide ((0 : Int) < (j : Int)) = false := by simp; omega
                  have t0' : decide (0 < j) = false := by simp; omega
                  have u1 : B.length + c.name.size ≤ 9223372036854775807 := by omega
                  have u2 : B.length + c.name.size + 4 ≤ 9223372036854775807 := by omega
                  have u3 : B.length + c.name.size + 4 + T.length ≤ 9223372036854775807 := by omega
                  have u4 : ¬ (9223372036854775807 < B.length + c.name.size) := by omega
                  have u5 : ¬ (9223372036854775807 < B.length + c.name.size + 4) := by omega
                  have u6 : ¬ (9223372036854775807 < B.length + c.name.size + 4 + T.length) := by omega
                  clear hj0 HJ
                  go_wp2_with (go_at_call 28; refine (HT _ (Kept.alloc _ _)).out.mono ?_; rintro e wA ⟨rfl, hbA⟩)
                  go_roundw
                  case rel => exact ⟨j + 1, by go_num, by omega, by rw [HK.out]; simp only [← List.append_assoc, ← str_app]; rw [HS2.out], below_tr hbi (below_tr (Joins.below_alloc1 _ _) hbA)⟩
                  case measure => simp [intOf]; omega
                · have HK := Lib.hid (show O ++ typeH t ++ Lib.join ((t.cons.map conD).take (j + 1)) [32, 124, 32] = B ++ [32, 124, 32] ++ (c.name.toList ++ [32, 111, 102, 32] ++ T) from by rw [HJ.out, if_neg hj0, HC.out])
                  have t0 : (0 : Int) < (j : Int) := by omega
                  have t0' : 0 < j := by omega
                  have u0 : B.length + 3 ≤ 9223372036854775807 := by omega
                  have u1 : B.length + 3 + c.name.size ≤ 9223372036854775807 := by omega
                  have u2 : B.length + 3 + c.name.size + 4 ≤ 9223372036854775807 := by omega
                  have u3 : B.length + 3 + c.name.size + 4 + T.length ≤ 9223372036854775807 := by omega
                  have u7 : ¬ (9223372036854775807 < B.length + 3) := by omega
                  have u4 : ¬ (9223372036854775807 < B.length + 3 + c.name.size) := by omega
                  have u5 : ¬ (9223372036854775807 < B.length + 3 + c.name.size + 4) := by omega
                  have u6 : ¬ (9223372036854775807 < B.length + 3 + c.name.size + 4 + T.length) := by omega
                  clear hj0 HJ
                  go_wp2_with (go_at_call 28; refine (HT _ (Kept.alloc _ _)).out.mono ?_; rintro e wA ⟨rfl, hbA⟩)
                  go_roundw
                  case rel => exact ⟨j + 1, by go_num, by omega, by rw [HK.out]; simp only [← List.append_assoc, ← str_app]; rw [HS2.out], below_tr hbi (below_tr (Joins.below_alloc1 _ _) hbA)⟩
                  case measure => simp [intOf]; omega
            · obtain rfl : j = t.cons.length := by omega
              have HF := Lib.hid (show prgT (p.types.take (k + 1)) = O ++ typeH t ++ Lib.join ((t.cons.map conD).take t.cons.length) [32, 124, 32] ++ [59, 32] from by
                rw [HStep.out, show (t.cons.map conD).take t.cons.length = t.cons.map conD from List.take_of_length_le (by simp)]
                unfold typeT
                simp)
              clear hjl hcf
              generalize O ++ typeH t ++ Lib.join ((t.cons.map conD).take t.cons.length) [32, 124, 32] = B at *
              have u0 : B.length + 2 ≤ 9223372036854775807 := by omega
              have u1 : ¬ (9223372036854775807 < B.length + 2) := by omega
              go_wp2
              go_roundw
              case rel => exact ⟨k + 1, by go_num, by omega, by rw [HF.out]; simp only [← str_app], below_tr B5 hbi⟩
              case measure => simp [intOf]; omega
        · rw [hp] at a1
          have HH := Lib.hid (show typeH t = [116, 121, 112, 101, 32] ++ [39, 97, 32] ++ t.name.toList ++ [32, 61, 32] from by simp [typeH, headP, hp])
          have u1 : ¬ (9223372036854775807 < O.length + 5) := by omega
          have u4 : ¬ (9223372036854775807 < O.length + 5 + 3) := by omega
          have u2 : ¬ (9223372036854775807 < O.length + 5 + 3 + t.name.size) := by omega
          have u3 : ¬ (9223372036854775807 < O.length + 5 + 3 + t.name.size + 3) := by omega
          clear hp
          go_wp2_with fail
          refine gen_world (P := fun W => Code.wp _ _ _ _ W) _ ?_
          intro W1 hW1
          have B3 : Below wr.heap.size wr W1 := by rw [hW1]; exact Joins.below_alloc1 wr _
          have hb9 := (show W1.heap[wr.heap.size]? = some (.cells #[.string t.name, .int .i64 1, .slice pc t.cons.length cc] 43 (0, 0)) from by rw [hW1]; exact pp_alloc_at wr _ rfl)
          have z9 : W1.heap.size = wr.heap.size + 1 := by rw [hW1]; simp
          clear hW1
          have f0 := (pp_blk_cell hb9 0).1
          have f1 := (pp_blk_cell hb9 1).1
          have f2 := (pp_blk_cell hb9 2).1
          simp only [List.getElem?_toArray, List.getElem?_cons_zero, List.getElem?_cons_succ] at f0 f1 f2
          go_region
          go_wp2_with fail
          refine gen_world (P := fun W => Code.wp _ _ _ _ W) _ ?_
          intro W2 hW2
          have B4 : Below W1.heap.size W1 W2 := by rw [hW2]; exact ((Below.refl _ _).alloc (Nat.le_refl _) _).drew
          clear hW2
          have B5 := below_tr hbr (below_tr B3 B4)
          have B6 := below_tr Br (below_tr B3 B4)
          have hjl : ∀ j, (O ++ typeH t ++ Lib.join ((t.cons.map conD).take j) [32, 124, 32]).length ≤ 2000000 := fun j => by
            have h1 := typeH_len q1
            have h2 := join_le ((t.cons.map conD).take j) [32, 124, 32] 9000 (by simp) (fun x hx => by
              obtain ⟨c, hc, rfl⟩ := List.mem_map.1 (List.mem_of_mem_take hx)
              exact conD_len (q6 c hc))
            have h3 : ((t.cons.map conD).take j).length ≤ 8 := by simp only [List.length_take, List.length_map]; omega
            have h4 := Nat.mul_le_mul_left (2 * 9000) h3
            simp only [List.length_append]
            omega
          have hcl8 : t.cons.length ≤ 8 := q5
          clear f0 f1 f2 hb9 a0 a1 a2 r2 q2 q3 q4 q5 u1 u2 u3 htk hmc
          generalize wr = wo at *
          go_loopw [3, 33] (fun vo i wr => ∃ j : Nat, i = .int .i64 j ∧ j ≤ t.cons.length ∧ vo = .string ⟨(O ++ typeH t ++ Lib.join ((t.cons.map conD).take j) [32, 124, 32]).toArray⟩ ∧ Below W2.heap.size W2 wr) (fun _ i _ => t.cons.length - (intOf i).toNat)
          case atStart =>
            refine ⟨0, rfl, Nat.zero_le _, ?_, Below.refl _ _⟩
            rw [HH.out, List.take_zero, Lib.join_nil]
            simp only [List.append_nil, ← List.append_assoc, ← str_app]
            rw [HS.out]
          case round =>
            obtain ⟨j, rfl, hj, rfl, hbi⟩ := hrel
            have Bi := below_tr B6 hbi
            have Ki := Kept.of_below Bi
            have hBl := hjl j
            by_cases hlj : j < t.cons.length
            · obtain ⟨bc, oc, rfl, hbc, hcc⟩ := hcf (by omega)
              have ex2 := CnEl.st wo _ bc _ _ (Kept.of_below (below_tr (below_tr B3 B4) hbi)) hbc (hcc j hlj)
              have hcq := q6 t.cons[j] (List.getElem_mem hlj)
              have hjs := join_s (t.cons.map conD) [32, 124, 32] j (by simpa using hlj)
              rw [List.getElem_map] at hjs
              clear hcc hcf hjl q6
              generalize t.cons[j] = c at *
              have HJ := Lib.hid (show O ++ typeH t ++ Lib.join ((t.cons.map conD).take (j + 1)) [32, 124, 32] = (if j = 0 then O ++ typeH t ++ Lib.join ((t.cons.map conD).take j) [32, 124, 32] else O ++ typeH t ++ Lib.join ((t.cons.map conD).take j) [32, 124, 32] ++ [32, 124, 32]) ++ conD c from by
                rw [hjs]
                split
                · next h0 => subst h0; simp [Lib.join_nil]
                · simp)
              clear hjs
              generalize O ++ typeH t ++ Lib.join ((t.cons.map conD).take j) [32, 124, 32] = B at *
              obtain ⟨⟨a0, -⟩, a1, ⟨ua, a2, ra⟩⟩ := ex2
              unfold BoolEl at a1
              have ra0 := ra
              obtain ⟨pa, ca, rfl, -, -⟩ := ra.form
              unfold isConB at hcq
              simp only [Bool.and_eq_true] at hcq
              have hcn := nm_len (.inr hcq.1)
              have HS2 := Lib.hid (show (⟨c.name.toList.toArray⟩ : ByteArray) = c.name from by rw [pr_toList])
              cases hh : c.has
              · have HC := Lib.hid (show conD c = c.name.toList from by unfold conD; rw [if_neg (by simp [hh])])
                rw [hh] at a1
                clear hcq ra ra0 hh
                by_cases hj0 : j = 0
                · have HK := Lib.hid (show O ++ typeH t ++ Lib.join ((t.cons.map conD).take (j + 1)) [32, 124, 32] = B ++ c.name.toList from by rw [HJ.out, if_pos hj0, HC.out])
                  have t0 : decide ((0 : Int) < (j : Int)) = false := by simp; omega
                  have t0' : decide (0 < j) = false := by simp; omega
                  have u1 : B.length + c.name.size ≤ 9223372036854775807 := by omega
                  have u2 : ¬ (9223372036854775807 < B.length + c.name.size) := by omega
                  clear hj0 HJ
                  go_wp2
                  go_roundw
                  case rel => exact ⟨j + 1, by go_num, by omega, by rw [HK.out]; simp only [← str_app]; rw [HS2.out], below_tr hbi (Joins.below_alloc1 _ _)⟩
                  case measure => simp [intOf]; omega
                · have HK := Lib.hid (show O ++ typeH t ++ Lib.join ((t.cons.map conD).take (j + 1)) [32, 124, 32] = B ++ [32, 124, 32] ++ c.name.toList from by rw [HJ.out, if_neg hj0, HC.out])
                  have t0 : (0 : Int) < (j : Int) := by omega
                  have t0' : 0 < j := by omega
                  have u0 : B.length + 3 ≤ 9223372036854775807 := by omega
                  have u1 : B.length + 3 + c.name.size ≤ 9223372036854775807 := by omega
                  have u2 : ¬ (9223372036854775807 < B.length + 3) := by omega
                  have u3 : ¬ (9223372036854775807 < B.length + 3 + c.name.size) := by omega
                  clear hj0 HJ
                  go_wp2
                  go_roundw
                  case rel => exact ⟨j + 1, by go_num, by omega, by rw [HK.out]; simp only [← str_app]; rw [HS2.out], below_tr hbi (Joins.below_alloc1 _ _)⟩
                  case measure => simp [intOf]; omega
              · rw [if_neg (by simp [hh])] at hcq
                simp only [Bool.and_eq_true] at hcq
                obtain ⟨hcn2, hty, -⟩ := hcq
                obtain ⟨y1, y2, y3⟩ := tyOk_parts hty
                have hTl := prTy_top hty
                have HT := fun W (hK : Kept _ W) => Lib.hid (sTyText c.arg y1 y2 (c.arg.length + 1) _ 0 W (ra0.kept TyIEl.st hK) (by omega) (by omega) (by omega))
                have HC0 := (show conD c = c.name.toList ++ [32, 111, 102, 32] ++ prTy varL (c.arg.length + 1) c.arg 0 from by unfold conD; rw [if_pos hh])
                generalize prTy varL (c.arg.length + 1) c.arg 0 = T at *
                generalize c.arg.length = la at *
                have HC := Lib.hid HC0
                rw [hh] at a1
                clear ra ra0 hh y1 y2 y3 hty HC0
                by_cases hj0 : j = 0
                · have HK := Lib.hid (show O ++ typeH t ++ Lib.join ((t.cons.map conD).take (j + 1)) [32, 124, 32] = B ++ (c.name.toList ++ [32, 111, 102, 32] ++ T) from by rw [HJ.out, if_pos hj0, HC.out])
                  have t0 : decide ((0 : Int) < (j : Int)) = false := by simp; omega
                  have t0' : decide (0 < j) = false := by simp; omega
                  have u1 : B.length + c.name.size ≤ 9223372036854775807 := by omega
                  have u2 : B.length + c.name.size + 4 ≤ 9223372036854775807 := by omega
                  have u3 : B.length + c.name.size + 4 + T.length ≤ 9223372036854775807 := by omega
                  have u4 : ¬ (9223372036854775807 < B.length + c.name.size) := by omega
                  have u5 : ¬ (9223372036854775807 < B.length + c.name.size + 4) := by omega
                  have u6 : ¬ (9223372036854775807 < B.length + c.name.size + 4 + T.length) := by omega
                  clear hj0 HJ
                  go_wp2_with (go_at_call 28; refine (HT _ (Kept.alloc _ _)).out.mono ?_; rintro e wA ⟨rfl, hbA⟩)
                  go_roundw
                  case rel => exact ⟨j + 1, by go_num, by omega, by rw [HK.out]; simp only [← List.append_assoc, ← str_app]; rw [HS2.out], below_tr hbi (below_tr (Joins.below_alloc1 _ _) hbA)⟩
                  case measure => simp [intOf]; omega
                · have HK := Lib.hid (show O ++ typeH t ++ Lib.join ((t.cons.map conD).take (j + 1)) [32, 124, 32] = B ++ [32, 124, 32] ++ (c.name.toList ++ [32, 111, 102, 32] ++ T) from by rw [HJ.out, if_neg hj0, HC.out])
                  have t0 : (0 : Int) < (j : Int) := by omega
                  have t0' : 0 < j := by omega
                  have u0 : B.length + 3 ≤ 9223372036854775807 := by omega
                  have u1 : B.length + 3 + c.name.size ≤ 9223372036854775807 := by omega
                  have u2 : B.length + 3 + c.name.size + 4 ≤ 9223372036854775807 := by omega
                  have u3 : B.length + 3 + c.name.size + 4 + T.length ≤ 9223372036854775807 := by omega
                  have u7 : ¬ (9223372036854775807 < B.length + 3) := by omega
                  have u4 : ¬ (9223372036854775807 < B.length + 3 + c.name.size) := by omega
                  have u5 : ¬ (9223372036854775807 < B.length + 3 + c.name.size + 4) := by omega
                  have u6 : ¬ (9223372036854775807 < B.length + 3 + c.name.size + 4 + T.length) := by omega
                  clear hj0 HJ
                  go_wp2_with (go_at_call 28; refine (HT _ (Kept.alloc _ _)).out.mono ?_; rintro e wA ⟨rfl, hbA⟩)
                  go_roundw
                  case rel => exact ⟨j + 1, by go_num, by omega, by rw [HK.out]; simp only [← List.append_assoc, ← str_app]; rw [HS2.out], below_tr hbi (below_tr (Joins.below_alloc1 _ _) hbA)⟩
                  case measure => simp [intOf]; omega
            · obtain rfl : j = t.cons.length := by omega
              have HF := Lib.hid (show prgT (p.types.take (k + 1)) = O ++ typeH t ++ Lib.join ((t.cons.map conD).take t.cons.length) [32, 124, 32] ++ [59, 32] from by
                rw [HStep.out, show (t.cons.map conD).take t.cons.length = t.cons.map conD from List.take_of_length_le (by simp)]
                unfold typeT
                simp)
              clear hjl hcf
              generalize O ++ typeH t ++ Lib.join ((t.cons.map conD).take t.cons.length) [32, 124, 32] = B at *
              have u0 : B.length + 2 ≤ 9223372036854775807 := by omega
              have u1 : ¬ (9223372036854775807 < B.length + 2) := by omega
              go_wp2
              go_roundw
              case rel => exact ⟨k + 1, by go_num, by omega, by rw [HF.out]; simp only [← str_app], below_tr B5 hbi⟩
              case measure => simp [intOf]; omega
        · rw [hp] at a1
          have HH := Lib.hid (show typeH t = [116, 121, 112, 101, 32] ++ [40, 39, 97, 44, 32, 39, 98, 41, 32] ++ t.name.toList ++ [32, 61, 32] from by simp [typeH, headP, hp])
          have u1 : ¬ (9223372036854775807 < O.length + 5) := by omega
          have u4 : ¬ (9223372036854775807 < O.length + 5 + 9) := by omega
          have u2 : ¬ (9223372036854775807 < O.length + 5 + 9 + t.name.size) := by omega
          have u3 : ¬ (9223372036854775807 < O.length + 5 + 9 + t.name.size + 3) := by omega
          clear hp
          go_wp2_with fail
          refine gen_world (P := fun W => Code.wp _ _ _ _ W) _ ?_
          intro W1 hW1
          have B3 : Below wr.heap.size wr W1 := by rw [hW1]; exact Joins.below_alloc1 wr _
          have hb9 := (show W1.heap[wr.heap.size]? = some (.cells #[.string t.name, .int .i64 2, .slice pc t.cons.length cc] 43 (0, 0)) from by rw [hW1]; exact pp_alloc_at wr _ rfl)
          have z9 : W1.heap.size = wr.heap.size + 1 := by rw [hW1]; simp
          clear hW1
          have f0 := (pp_blk_cell hb9 0).1
          have f1 := (pp_blk_cell hb9 1).1
          have f2 := (pp_blk_cell hb9 2).1
          simp only [List.getElem?_toArray, List.getElem?_cons_zero, List.getElem?_cons_succ] at f0 f1 f2
          go_region
          go_wp2_with fail
          refine gen_world (P := fun W => Code.wp _ _ _ _ W) _ ?_
          intro W2 hW2
          have B4 : Below W1.heap.size W1 W2 := by rw [hW2]; exact ((Below.refl _ _).alloc (Nat.le_refl _) _).drew
          clear hW2
          have B5 := below_tr hbr (below_tr B3 B4)
          have B6 := below_tr Br (below_tr B3 B4)
          have hjl : ∀ j, (O ++ typeH t ++ Lib.join ((t.cons.map conD).take j) [32, 124, 32]).length ≤ 2000000 := fun j => by
            have h1 := typeH_len q1
            have h2 := join_le ((t.cons.map conD).take j) [32, 124, 32] 9000 (by simp) (fun x hx => by
              obtain ⟨c, hc, rfl⟩ := List.mem_map.1 (List.mem_of_mem_take hx)
              exact conD_len (q6 c hc))
            have h3 : ((t.cons.map conD).take j).length ≤ 8 := by simp only [List.length_take, List.length_map]; omega
            have h4 := Nat.mul_le_mul_left (2 * 9000) h3
            simp only [List.length_append]
            omega
          have hcl8 : t.cons.length ≤ 8 := q5
          clear f0 f1 f2 hb9 a0 a1 a2 r2 q2 q3 q4 q5 u1 u2 u3 htk hmc
          generalize wr = wo at *
          go_loopw [3, 33] (fun vo i wr => ∃ j : Nat, i = .int .i64 j ∧ j ≤ t.cons.length ∧ vo = .string ⟨(O ++ typeH t ++ Lib.join ((t.cons.map conD).take j) [32, 124, 32]).toArray⟩ ∧ Below W2.heap.size W2 wr) (fun _ i _ => t.cons.length - (intOf i).toNat)
          case atStart =>
            refine ⟨0, rfl, Nat.zero_le _, ?_, Below.refl _ _⟩
            rw [HH.out, List.take_zero, Lib.join_nil]
            simp only [List.append_nil, ← List.append_assoc, ← str_app]
            rw [HS.out]
          case round =>
            obtain ⟨j, rfl, hj, rfl, hbi⟩ := hrel
            have Bi := below_tr B6 hbi
            have Ki := Kept.of_below Bi
            have hBl := hjl j
            by_cases hlj : j < t.cons.length
            · obtain ⟨bc, oc, rfl, hbc, hcc⟩ := hcf (by omega)
              have ex2 := CnEl.st wo _ bc _ _ (Kept.of_below (below_tr (below_tr B3 B4) hbi)) hbc (hcc j hlj)
              have hcq := q6 t.cons[j] (List.getElem_mem hlj)
              have hjs := join_s (t.cons.map conD) [32, 124, 32] j (by simpa using hlj)
              rw [List.getElem_map] at hjs
              clear hcc hcf hjl q6
              generalize t.cons[j] = c at *
              have HJ := Lib.hid (show O ++ typeH t ++ Lib.join ((t.cons.map conD).take (j + 1)) [32, 124, 32] = (if j = 0 then O ++ typeH t ++ Lib.join ((t.cons.map conD).take j) [32, 124, 32] else O ++ typeH t ++ Lib.join ((t.cons.map conD).take j) [32, 124, 32] ++ [32, 124, 32]) ++ conD c from by
                rw [hjs]
                split
                · next h0 => subst h0; simp [Lib.join_nil]
                · simp)
              clear hjs
              generalize O ++ typeH t ++ Lib.join ((t.cons.map conD).take j) [32, 124, 32] = B at *
              obtain ⟨⟨a0, -⟩, a1, ⟨ua, a2, ra⟩⟩ := ex2
              unfold BoolEl at a1
              have ra0 := ra
              obtain ⟨pa, ca, rfl, -, -⟩ := ra.form
              unfold isConB at hcq
              simp only [Bool.and_eq_true] at hcq
              have hcn := nm_len (.inr hcq.1)
              have HS2 := Lib.hid (show (⟨c.name.toList.toArray⟩ : ByteArray) = c.name from by rw [pr_toList])
              cases hh : c.has
              · have HC := Lib.hid (show conD c = c.name.toList from by unfold conD; rw [if_neg (by simp [hh])])
                rw [hh] at a1
                clear hcq ra ra0 hh
                by_cases hj0 : j = 0
                · have HK := Lib.hid (show O ++ typeH t ++ Lib.join ((t.cons.map conD).take (j + 1)) [32, 124, 32] = B ++ c.name.toList from by rw [HJ.out, if_pos hj0, HC.out])
                  have t0 : decide ((0 : Int) < (j : Int)) = false := by simp; omega
                  have t0' : decide (0 < j) = false := by simp; omega
                  have u1 : B.length + c.name.size ≤ 9223372036854775807 := by omega
                  have u2 : ¬ (9223372036854775807 < B.length + c.name.size) := by omega
                  clear hj0 HJ
                  go_wp2
                  go_roundw
                  case rel => exact ⟨j + 1, by go_num, by omega, by rw [HK.out]; simp only [← str_app]; rw [HS2.out], below_tr hbi (Joins.below_alloc1 _ _)⟩
                  case measure => simp [intOf]; omega
                · have HK := Lib.hid (show O ++ typeH t ++ Lib.join ((t.cons.map conD).take (j + 1)) [32, 124, 32] = B ++ [32, 124, 32] ++ c.name.toList from by rw [HJ.out, if_neg hj0, HC.out])
                  have t0 : (0 : Int) < (j : Int) := by omega
                  have t0' : 0 < j := by omega
                  have u0 : B.length + 3 ≤ 9223372036854775807 := by omega
                  have u1 : B.length + 3 + c.name.size ≤ 9223372036854775807 := by omega
                  have u2 : ¬ (9223372036854775807 < B.length + 3) := by omega
                  have u3 : ¬ (9223372036854775807 < B.length + 3 + c.name.size) := by omega
                  clear hj0 HJ
                  go_wp2
                  go_roundw
                  case rel => exact ⟨j + 1, by go_num, by omega, by rw [HK.out]; simp only [← str_app]; rw [HS2.out], below_tr hbi (Joins.below_alloc1 _ _)⟩
                  case measure => simp [intOf]; omega
              · rw [if_neg (by simp [hh])] at hcq
                simp only [Bool.and_eq_true] at hcq
                obtain ⟨hcn2, hty, -⟩ := hcq
                obtain ⟨y1, y2, y3⟩ := tyOk_parts hty
                have hTl := prTy_top hty
                have HT := fun W (hK : Kept _ W) => Lib.hid (sTyText c.arg y1 y2 (c.arg.length + 1) _ 0 W (ra0.kept TyIEl.st hK) (by omega) (by omega) (by omega))
                have HC0 := (show conD c = c.name.toList ++ [32, 111, 102, 32] ++ prTy varL (c.arg.length + 1) c.arg 0 from by unfold conD; rw [if_pos hh])
                generalize prTy varL (c.arg.length + 1) c.arg 0 = T at *
                generalize c.arg.length = la at *
                have HC := Lib.hid HC0
                rw [hh] at a1
                clear ra ra0 hh y1 y2 y3 hty HC0
                by_cases hj0 : j = 0
                · have HK := Lib.hid (show O ++ typeH t ++ Lib.join ((t.cons.map conD).take (j + 1)) [32, 124, 32] = B ++ (c.name.toList ++ [32, 111, 102, 32] ++ T) from by rw [HJ.out, if_pos hj0, HC.out])
                  have t0 : decide ((0 : Int) < (j : Int)) = false := by simp; omega
                  have t0' : decide (0 < j) = false := by simp; omega
                  have u1 : B.length + c.name.size ≤ 9223372036854775807 := by omega
                  have u2 : B.length + c.name.size + 4 ≤ 9223372036854775807 := by omega
                  have u3 : B.length + c.name.size + 4 + T.length ≤ 9223372036854775807 := by omega
                  have u4 : ¬ (9223372036854775807 < B.length + c.name.size) := by omega
                  have u5 : ¬ (9223372036854775807 < B.length + c.name.size + 4) := by omega
                  have u6 : ¬ (9223372036854775807 < B.length + c.name.size + 4 + T.length) := by omega
                  clear hj0 HJ
                  go_wp2_with (go_at_call 28; refine (HT _ (Kept.alloc _ _)).out.mono ?_; rintro e wA ⟨rfl, hbA⟩)
                  go_roundw
                  case rel => exact ⟨j + 1, by go_num, by omega, by rw [HK.out]; simp only [← List.append_assoc, ← str_app]; rw [HS2.out], below_tr hbi (below_tr (Joins.below_alloc1 _ _) hbA)⟩
                  case measure => simp [intOf]; omega
                · have HK := Lib.hid (show O ++ typeH t ++ Lib.join ((t.cons.map conD).take (j + 1)) [32, 124, 32] = B ++ [32, 124, 32] ++ (c.name.toList ++ [32, 111, 102, 32] ++ T) from by rw [HJ.out, if_neg hj0, HC.out])
                  have t0 : (0 : Int) < (j : Int) := by omega
                  have t0' : 0 < j := by omega
                  have u0 : B.length + 3 ≤ 9223372036854775807 := by omega
                  have u1 : B.length + 3 + c.name.size ≤ 9223372036854775807 := by omega
                  have u2 : B.length + 3 + c.name.size + 4 ≤ 9223372036854775807 := by omega
                  have u3 : B.length + 3 + c.name.size + 4 + T.length ≤ 9223372036854775807 := by omega
                  have u7 : ¬ (9223372036854775807 < B.length + 3) := by omega
                  have u4 : ¬ (9223372036854775807 < B.length + 3 + c.name.size) := by omega
                  have u5 : ¬ (9223372036854775807 < B.length + 3 + c.name.size + 4) := by omega
                  have u6 : ¬ (9223372036854775807 < B.length + 3 + c.name.size + 4 + T.length) := by omega
                  clear hj0 HJ
                  go_wp2_with (go_at_call 28; refine (HT _ (Kept.alloc _ _)).out.mono ?_; rintro e wA ⟨rfl, hbA⟩)
                  go_roundw
                  case rel => exact ⟨j + 1, by go_num, by omega, by rw [HK.out]; simp only [← List.append_assoc, ← str_app]; rw [HS2.out], below_tr hbi (below_tr (Joins.below_alloc1 _ _) hbA)⟩
                  case measure => simp [intOf]; omega
            · obtain rfl : j = t.cons.length := by omega
              have HF := Lib.hid (show prgT (p.types.take (k + 1)) = O ++ typeH t ++ Lib.join ((t.cons.map conD).take t.cons.length) [32, 124, 32] ++ [59, 32] from by
                rw [HStep.out, show (t.cons.map conD).take t.cons.length = t.cons.map conD from List.take_of_length_le (by simp)]
                unfold typeT
                simp)
              clear hjl hcf
              generalize O ++ typeH t ++ Lib.join ((t.cons.map conD).take t.cons.length) [32, 124, 32] = B at *
              have u0 : B.length + 2 ≤ 9223372036854775807 := by omega
              have u1 : ¬ (9223372036854775807 < B.length + 2) := by omega
              go_wp2
              go_roundw
              case rel => exact ⟨k + 1, by go_num, by omega, by rw [HF.out]; simp only [← str_app], below_tr B5 hbi⟩
              case measure => simp [intOf]; omega
      · obtain rfl : k = p.types.length := by omega
        rw [List.take_length] at hOl ⊢
        have K3 := fun W (h : Below wr.heap.size wr W) => Kept.of_below (below_tr Br h)
        clear hPl hr0 e0 e1
        generalize prgT p.types = O at *
        have u0 : O.length + X.length ≤ 9223372036854775807 := by omega
        have u1 : ¬ (9223372036854775807 < O.length + X.length) := by omega
        go_wp2_with (go_at_call 29; refine (hX2 _ Kr).out.mono ?_; rintro e w2 ⟨rfl, hb2⟩)
        go_ret
        exact ⟨by rw [HB.out]; exact ret_str (by simp only [← str_app]), below_tr Br hb2⟩
end Go.Proofs.YtaibgnfjjbncpaaGreat
namespace Go.Proofs.YtaibgnfjjbncpaaGreat
set_option linter.unusedVariables false
set_option maxRecDepth 100000
open Go.ChangeShapes Go.WideShapes Go.ChangeAt Go.RowKit

theorem sm_eq (p q : Pg) : smB p q = (pgOkB p && (pgOkB q && decide (prPgRes p = prPgRes q))) := by
  cases hp : pgOkB p
  · simp [smB, hp]
  · cases hq : pgOkB q
    · simp [smB, hp, hq]
    · rw [sm_iff hp hq]; simp
set_option maxHeartbeats 4000000 in
theorem sSameProgram_tt (p q : Pg) (v0 v1 u0 u1 : Value) (w : World) (h0 : RowRd 3 TpEl w v0 p.types) (h1 : RowRd 6 NdEl w v1 p.nodes) (k0 : RowRd 3 TpEl w u0 q.types) (k1 : RowRd 6 NdEl w u1 q.nodes) (hz : bPg p ≤ 1048576) (hz2 : bPg q ≤ 1048576) (ha : pgOkB p = true) (hb : pgOkB q = true) :
    Calls Tryz.prog 5 #[.agg #[v0, v1], .agg #[u0, u1]] w fun e w' => e = .returned (.bool (smB p q)) ∧ Below w.heap.size w w' := by
  have HP := fun W (hW : Below w.heap.size w W) => Lib.hid (sProgramOkC p v0 v1 W (h0.kept TpEl.st (Kept.of_below hW)) (h1.kept NdEl.st (Kept.of_below hW)) hz)
  have HQ := fun W (hW : Below w.heap.size w W) => Lib.hid (sProgramOkC q u0 u1 W (k0.kept TpEl.st (Kept.of_below hW)) (k1.kept NdEl.st (Kept.of_below hW)) hz2)
  have HT := fun W (hW : Below w.heap.size w W) => Lib.hid (sPrintProgramC p v0 v1 W (h0.kept TpEl.st (Kept.of_below hW)) (h1.kept NdEl.st (Kept.of_below hW)) hz)
  have HN := fun W (hW : Below w.heap.size w W) => Lib.hid (sPrintProgramC q u0 u1 W (k0.kept TpEl.st (Kept.of_below hW)) (k1.kept NdEl.st (Kept.of_below hW)) hz2)
  have HF := Lib.hid (sm_eq p q)
  generalize smB p q = r at *
  generalize pgOkB p = a at *
  generalize pgOkB q = b at *
  generalize prPgRes p = t at *
  generalize prPgRes q = s at *
  obtain ⟨p0, c0, rfl, -, -⟩ := h0.form
  obtain ⟨p1, c1, rfl, -, -⟩ := h1.form
  obtain ⟨q0, d0, rfl, -, -⟩ := k0.form
  obtain ⟨q1, d1, rfl, -, -⟩ := k1.form
  clear h0 h1 k0 k1 hz hz2
  generalize p.types.length = n0 at *
  generalize p.nodes.length = n1 at *
  generalize q.types.length = m0 at *
  generalize q.nodes.length = m1 at *
  subst ha hb
  go_enter Tryz.func5, Tryz.ntmps5
  go_wp2_with fail
  refine gen_world (P := fun W => Code.wp _ _ _ _ W) _ ?_
  intro W0 hW0
  have B0 : Below w.heap.size w W0 := by rw [hW0]; exact below_tr (Joins.below_alloc1 _ _) (Joins.below_alloc1 _ _)
  have z0 : W0.heap.size = w.heap.size + 1 + 1 := by rw [hW0]; simp
  have a0 : W0.cell? ⟨w.heap.size, 0, none⟩ = some (.slice p0 n0 c0) := by rw [hW0]; simp
  have a1 : W0.cell? ⟨w.heap.size, 1, none⟩ = some (.slice p1 n1 c1) := by rw [hW0]; simp
  have a2 : W0.cell? ⟨w.heap.size + 1, 0, none⟩ = some (.slice q0 m0 d0) := by rw [hW0]; simp
  have a3 : W0.cell? ⟨w.heap.size + 1, 1, none⟩ = some (.slice q1 m1 d1) := by rw [hW0]; simp
  clear hW0
  have hS : ∀ W, Below W0.heap.size W0 W →
      (W.cell? ⟨w.heap.size, 0, none⟩ = some (.slice p0 n0 c0) ∧ W.cell? ⟨w.heap.size, 1, none⟩ = some (.slice p1 n1 c1) ∧ W.cell? ⟨w.heap.size + 1, 0, none⟩ = some (.slice q0 m0 d0) ∧ W.cell? ⟨w.heap.size + 1, 1, none⟩ = some (.slice q1 m1 d1) ∧ Below W0.heap.size W0 W) := fun W hW =>
    ⟨(hW.cell (p := ⟨w.heap.size, 0, none⟩) (by simp only; omega)).trans a0, (hW.cell (p := ⟨w.heap.size, 1, none⟩) (by simp only; omega)).trans a1, (hW.cell (p := ⟨w.heap.size + 1, 0, none⟩) (by simp only; omega)).trans a2, (hW.cell (p := ⟨w.heap.size + 1, 1, none⟩) (by simp only; omega)).trans a3, hW⟩
  have HP2 := fun W (hW : Below W0.heap.size W0 W) => Lib.hid ((HP W (below_tr B0 hW)).out.mono (R' := fun e w' => e = .returned (.bool true) ∧ Below W0.heap.size W0 w') (by rintro e w' ⟨h1, h2⟩; exact ⟨h1, below_tr hW h2⟩))
  have HQ2 := fun W (hW : Below W0.heap.size W0 W) => Lib.hid ((HQ W (below_tr B0 hW)).out.mono (R' := fun e w' => e = .returned (.bool true) ∧ Below W0.heap.size W0 w') (by rintro e w' ⟨h1, h2⟩; exact ⟨h1, below_tr hW h2⟩))
  have HT2 := fun W (hW : Below W0.heap.size W0 W) => Lib.hid ((HT W (below_tr B0 hW)).out.mono (R' := fun e w' => e = .returned (.string t) ∧ Below W0.heap.size W0 w') (by rintro e w' ⟨h1, h2⟩; exact ⟨h1, below_tr hW h2⟩))
  have HN2 := fun W (hW : Below W0.heap.size W0 W) => Lib.hid ((HN W (below_tr B0 hW)).out.mono (R' := fun e w' => e = .returned (.string s) ∧ Below W0.heap.size W0 w') (by rintro e w' ⟨h1, h2⟩; exact ⟨h1, below_tr hW h2⟩))
  clear HP HQ HT HN
  go_region_held3 (fun W => W.cell? ⟨w.heap.size, 0, none⟩ = some (.slice p0 n0 c0) ∧ W.cell? ⟨w.heap.size, 1, none⟩ = some (.slice p1 n1 c1) ∧ W.cell? ⟨w.heap.size + 1, 0, none⟩ = some (.slice q0 m0 d0) ∧ W.cell? ⟨w.heap.size + 1, 1, none⟩ = some (.slice q1 m1 d1) ∧ Below W0.heap.size W0 W)
    (first | exact hS _ (Below.refl _ _) | exact hS _ (Below.refl _ _).drew | exact hS _ (by assumption) | exact hS _ (Below.drew (by assumption)))
    ((first
      | (go_at_call 11; with_reducible refine (HP2 _ (by first | exact Below.refl _ _ | exact (Below.refl _ _).drew | assumption | exact Below.drew (by assumption))).out.mono ?_; rintro e w1 ⟨rfl, hb1⟩)
      | (go_at_call 11; with_reducible refine (HQ2 _ (by first | exact Below.refl _ _ | exact (Below.refl _ _).drew | assumption | exact Below.drew (by assumption))).out.mono ?_; rintro e w1 ⟨rfl, hb1⟩)
      | (go_at_call 12; with_reducible refine (HT2 _ (by first | exact Below.refl _ _ | exact (Below.refl _ _).drew | assumption | exact Below.drew (by assumption))).out.mono ?_; rintro e w1 ⟨rfl, hb1⟩)
      | (go_at_call 12; with_reducible refine (HN2 _ (by first | exact Below.refl _ _ | exact (Below.refl _ _).drew | assumption | exact Below.drew (by assumption))).out.mono ?_; rintro e w1 ⟨rfl, hb1⟩)))
  have HE := Lib.hid (show (t.toList == s.toList) = decide (t = s) from by
    rw [Bool.eq_iff_iff]; simp only [beq_iff_eq, decide_eq_true_eq]; exact ⟨fun h => toL_inj h, fun h => by rw [h]⟩)
  go_wp2
  go_ret
  exact ⟨ret_bool (by rw [HF.out, HE.out]; rfl), below_tr B0 hb1⟩
end Go.Proofs.YtaibgnfjjbncpaaGreat
namespace Go.Proofs.YtaibgnfjjbncpaaGreat
set_option linter.unusedVariables false
set_option maxRecDepth 100000
open Go.ChangeShapes Go.WideShapes Go.ChangeAt Go.RowKit

set_option maxHeartbeats 1500000 in
theorem sSameProgram_ff (p q : Pg) (v0 v1 u0 u1 : Value) (w : World) (h0 : RowRd 3 TpEl w v0 p.types) (h1 : RowRd 6 NdEl w v1 p.nodes) (k0 : RowRd 3 TpEl w u0 q.types) (k1 : RowRd 6 NdEl w u1 q.nodes) (hz : bPg p ≤ 1048576) (hz2 : bPg q ≤ 1048576) (ha : pgOkB p = false) :
    Calls Tryz.prog 5 #[.agg #[v0, v1], .agg #[u0, u1]] w fun e w' => e = .returned (.bool (smB p q)) ∧ Below w.heap.size w w' := by
  have HP := fun W (hW : Below w.heap.size w W) => Lib.hid (sProgramOkC p v0 v1 W (h0.kept TpEl.st (Kept.of_below hW)) (h1.kept NdEl.st (Kept.of_below hW)) hz)
  have HQ := fun W (hW : Below w.heap.size w W) => Lib.hid (sProgramOkC q u0 u1 W (k0.kept TpEl.st (Kept.of_below hW)) (k1.kept NdEl.st (Kept.of_below hW)) hz2)
  have HT := fun W (hW : Below w.heap.size w W) => Lib.hid (sPrintProgramC p v0 v1 W (h0.kept TpEl.st (Kept.of_below hW)) (h1.kept NdEl.st (Kept.of_below hW)) hz)
  have HN := fun W (hW : Below w.heap.size w W) => Lib.hid (sPrintProgramC q u0 u1 W (k0.kept TpEl.st (Kept.of_below hW)) (k1.kept NdEl.st (Kept.of_below hW)) hz2)
  have HF := Lib.hid (sm_eq p q)
  generalize smB p q = r at *
  generalize pgOkB p = a at *
  generalize pgOkB q = b at *
  generalize prPgRes p = t at *
  generalize prPgRes q = s at *
  obtain ⟨p0, c0, rfl, -, -⟩ := h0.form
  obtain ⟨p1, c1, rfl, -, -⟩ := h1.form
  obtain ⟨q0, d0, rfl, -, -⟩ := k0.form
  obtain ⟨q1, d1, rfl, -, -⟩ := k1.form
  clear h0 h1 k0 k1 hz hz2
  generalize p.types.length = n0 at *
  generalize p.nodes.length = n1 at *
  generalize q.types.length = m0 at *
  generalize q.nodes.length = m1 at *
  subst ha
  go_enter Tryz.func5, Tryz.ntmps5
  go_wp2_with fail
  refine gen_world (P := fun W => Code.wp _ _ _ _ W) _ ?_
  intro W0 hW0
  have B0 : Below w.heap.size w W0 := by rw [hW0]; exact below_tr (Joins.below_alloc1 _ _) (Joins.below_alloc1 _ _)
  have z0 : W0.heap.size = w.heap.size + 1 + 1 := by rw [hW0]; simp
  have a0 : W0.cell? ⟨w.heap.size, 0, none⟩ = some (.slice p0 n0 c0) := by rw [hW0]; simp
  have a1 : W0.cell? ⟨w.heap.size, 1, none⟩ = some (.slice p1 n1 c1) := by rw [hW0]; simp
  have a2 : W0.cell? ⟨w.heap.size + 1, 0, none⟩ = some (.slice q0 m0 d0) := by rw [hW0]; simp
  have a3 : W0.cell? ⟨w.heap.size + 1, 1, none⟩ = some (.slice q1 m1 d1) := by rw [hW0]; simp
  clear hW0
  have hI : ∀ W, Below W0.heap.size W0 W → (W.cell? ⟨w.heap.size, 0, none⟩ = some (.slice p0 n0 c0) ∧ W.cell? ⟨w.heap.size, 1, none⟩ = some (.slice p1 n1 c1) ∧ W.cell? ⟨w.heap.size + 1, 0, none⟩ = some (.slice q0 m0 d0) ∧ W.cell? ⟨w.heap.size + 1, 1, none⟩ = some (.slice q1 m1 d1)) := fun W hW =>
    ⟨(hW.cell (p := ⟨w.heap.size, 0, none⟩) (by simp only; omega)).trans a0, (hW.cell (p := ⟨w.heap.size, 1, none⟩) (by simp only; omega)).trans a1, (hW.cell (p := ⟨w.heap.size + 1, 0, none⟩) (by simp only; omega)).trans a2, (hW.cell (p := ⟨w.heap.size + 1, 1, none⟩) (by simp only; omega)).trans a3⟩
  have HP2 := fun W (hW : Below W0.heap.size W0 W) => (HP W (below_tr B0 hW)).out
  clear HP HQ HT HN
  refine region_begin (n := 14) (S := (fun W => Below W0.heap.size W0 W ∧ (W.cell? ⟨w.heap.size, 0, none⟩ = some (.slice p0 n0 c0) ∧ W.cell? ⟨w.heap.size, 1, none⟩ = some (.slice p1 n1 c1) ∧ W.cell? ⟨w.heap.size + 1, 0, none⟩ = some (.slice q0 m0 d0) ∧ W.cell? ⟨w.heap.size + 1, 1, none⟩ = some (.slice q1 m1 d1)))) (by kernel_rfl) rfl (by kernel_rfl) ⟨(Below.refl _ _).drew, hI _ (Below.refl _ _).drew⟩ (fun hHeld => ?_)
  refine take_next (i := 0) (v := ?_) [] (ts' := [0]) rfl (by kernel_rfl) (by kernel_rfl) (by kernel_rfl) (fun _ _ _ h => h) (.inl ⟨by rfl, ?_⟩) (by assumption) (by kernel_rfl) (d := 5) rfl (by simp only [Act.put, List.setIfInBounds_toArray, List.set_cons_zero, List.set_cons_succ]; rfl) ?_
  rotate_left
  · intro w' hSw
    try dsimp only at hSw
    go_split_ands
    go_simp
    try with_reducible rfl
  refine wpAnyH_ready (rs := [1]) (by kernel_rfl) (by simp) ?_
  refine AllReadyH.cons (o := _) rfl (fun K hK => ?_) AllReadyH.nil
  go_simp
  refine (HP2 _ hHeld.1).mono ?_
  rintro e w1 ⟨rfl, hb1⟩
  dsimp only
  refine hK.out _ _ ⟨below_tr hHeld.1 hb1, hI _ (below_tr hHeld.1 hb1)⟩ (fun hHeld => ?_)
  clear hK K
  refine mask_is (n := 14) [0, 1] (by kernel_rfl) ?_
  refine take_next (i := 2) (v := ?_) [0, 1] (ts' := [0, 1, 2]) rfl (by kernel_rfl) (by kernel_rfl) (by kernel_rfl) (fun _ _ _ h => h) (.inl ⟨by rfl, ?_⟩) (by assumption) (by kernel_rfl) (d := 7) rfl (by simp only [Act.put, List.setIfInBounds_toArray, List.set_cons_zero, List.set_cons_succ]; rfl) ?_
  rotate_left
  · intro w' hSw
    try dsimp only at hSw
    go_split_ands
    go_simp
    try with_reducible rfl
  refine take_next (i := 3) (v := _) [0, 1, 2] (ts' := [0, 1, 2, 3]) rfl (by kernel_rfl) (by kernel_rfl) (by kernel_rfl) (fun _ _ _ h => h) (.inr ⟨by rfl, rfl⟩) (by assumption) (by kernel_rfl) (d := 8) rfl (by simp only [Act.put, List.setIfInBounds_toArray, List.set_cons_zero, List.set_cons_succ]; rfl) ?_
  refine take_next (i := 4) (v := _) [0, 1, 2, 3] (ts' := [0, 1, 2, 3, 4]) rfl (by kernel_rfl) (by kernel_rfl) (by kernel_rfl) (fun _ _ _ h => h) (.inr ⟨by rfl, rfl⟩) (by assumption) (by kernel_rfl) (d := 9) rfl (by simp only [Act.put, List.setIfInBounds_toArray, List.set_cons_zero, List.set_cons_succ]; rfl) ?_
  refine take_next (i := 5) (v := ?_) [0, 1, 2, 3, 4] (ts' := [0, 1, 2, 3, 4, 5]) rfl (by kernel_rfl) (by kernel_rfl) (by kernel_rfl) (fun _ _ _ h => h) (.inl ⟨by rfl, ?_⟩) (by assumption) (by kernel_rfl) (d := 10) rfl (by simp only [Act.put, List.setIfInBounds_toArray, List.set_cons_zero, List.set_cons_succ]; rfl) ?_
  rotate_left
  · intro w' hSw
    try dsimp only at hSw
    go_split_ands
    go_simp
    try with_reducible rfl
  refine take_next (i := 6) (v := ?_) [0, 1, 2, 3, 4, 5] (ts' := [0, 1, 2, 3, 4, 5, 6]) rfl (by kernel_rfl) (by kernel_rfl) (by kernel_rfl) (fun _ _ _ h => h) (.inl ⟨by rfl, ?_⟩) (by assumption) (by kernel_rfl) (d := 11) rfl (by simp only [Act.put, List.setIfInBounds_toArray, List.set_cons_zero, List.set_cons_succ]; rfl) ?_
  rotate_left
  · intro w' hSw
    try dsimp only at hSw
    go_split_ands
    go_simp
    try with_reducible rfl
  refine take_next (i := 7) (v := _) [0, 1, 2, 3, 4, 5, 6] (ts' := [0, 1, 2, 3, 4, 5, 6, 7]) rfl (by kernel_rfl) (by kernel_rfl) (by kernel_rfl) (fun _ _ _ h => h) (.inr ⟨by rfl, rfl⟩) (by assumption) (by kernel_rfl) (d := 12) rfl (by simp only [Act.put, List.setIfInBounds_toArray, List.set_cons_zero, List.set_cons_succ]; rfl) ?_
  refine take_next (i := 8) (v := _) [0, 1, 2, 3, 4, 5, 6, 7] (ts' := [0, 1, 2, 3, 4, 5, 6, 7, 8]) rfl (by kernel_rfl) (by kernel_rfl) (by kernel_rfl) (fun _ _ _ h => h) (.inr ⟨by rfl, rfl⟩) (by assumption) (by kernel_rfl) (d := 13) rfl (by simp only [Act.put, List.setIfInBounds_toArray, List.set_cons_zero, List.set_cons_succ]; rfl) ?_
  refine take_next (i := 9) (v := _) [0, 1, 2, 3, 4, 5, 6, 7, 8] (ts' := [0, 1, 2, 3, 4, 5, 6, 7, 8, 9]) rfl (by kernel_rfl) (by kernel_rfl) (by kernel_rfl) (fun _ _ _ h => h) (.inr ⟨by rfl, rfl⟩) (by assumption) (by kernel_rfl) (d := 14) rfl (by simp only [Act.put, List.setIfInBounds_toArray, List.set_cons_zero, List.set_cons_succ]; rfl) ?_
  refine take_next (i := 10) (v := _) [0, 1, 2, 3, 4, 5, 6, 7, 8, 9] (ts' := [0, 1, 2, 3, 4, 5, 6, 7, 8, 9, 10]) rfl (by kernel_rfl) (by kernel_rfl) (by kernel_rfl) (fun _ _ _ h => h) (.inr ⟨by rfl, rfl⟩) (by assumption) (by kernel_rfl) (d := 15) rfl (by simp only [Act.put, List.setIfInBounds_toArray, List.set_cons_zero, List.set_cons_succ]; rfl) ?_
  refine take_next (i := 11) (v := _) [0, 1, 2, 3, 4, 5, 6, 7, 8, 9, 10] (ts' := [0, 1, 2, 3, 4, 5, 6, 7, 8, 9, 10, 11]) rfl (by kernel_rfl) (by kernel_rfl) (by kernel_rfl) (fun _ _ _ h => h) (.inr ⟨by rfl, rfl⟩) (by assumption) (by kernel_rfl) (d := 16) rfl (by simp only [Act.put, List.setIfInBounds_toArray, List.set_cons_zero, List.set_cons_succ]; rfl) ?_
  refine take_next (i := 12) (v := ?_) [0, 1, 2, 3, 4, 5, 6, 7, 8, 9, 10, 11] (ts' := [0, 1, 2, 3, 4, 5, 6, 7, 8, 9, 10, 11, 12]) rfl (by kernel_rfl) (by kernel_rfl) (by kernel_rfl) (fun _ _ _ h => h) (.inl ⟨by rfl, ?_⟩) (by assumption) (by kernel_rfl) (d := 17) rfl (by simp only [Act.put, List.setIfInBounds_toArray, List.set_cons_zero, List.set_cons_succ]; rfl) ?_
  rotate_left
  · intro w' hSw
    try dsimp only at hSw
    go_split_ands
    go_simp
    try with_reducible rfl
  refine take_next (i := 13) (v := ?_) [0, 1, 2, 3, 4, 5, 6, 7, 8, 9, 10, 11, 12] (ts' := [0, 1, 2, 3, 4, 5, 6, 7, 8, 9, 10, 11, 12, 13]) rfl (by kernel_rfl) (by kernel_rfl) (by kernel_rfl) (fun _ _ _ h => h) (.inl ⟨by rfl, ?_⟩) (by assumption) (by kernel_rfl) (d := 4) rfl (by simp only [Act.put, List.setIfInBounds_toArray, List.set_cons_zero, List.set_cons_succ]; rfl) ?_
  rotate_left
  · intro w' hSw
    try dsimp only at hSw
    go_split_ands
    go_simp
    try with_reducible rfl
  refine wpAnyH_done (by kernel_rfl) ?_ _
  try dsimp only at hHeld
  have hHB := hHeld.1
  go_split_ands
  go_wp2
  go_ret
  exact ⟨ret_bool (by rw [HF.out]; rfl), below_tr B0 hHB⟩
set_option maxHeartbeats 1500000 in
theorem sSameProgram_tf (p q : Pg) (v0 v1 u0 u1 : Value) (w : World) (h0 : RowRd 3 TpEl w v0 p.types) (h1 : RowRd 6 NdEl w v1 p.nodes) (k0 : RowRd 3 TpEl w u0 q.types) (k1 : RowRd 6 NdEl w u1 q.nodes) (hz : bPg p ≤ 1048576) (hz2 : bPg q ≤ 1048576) (ha : pgOkB p = true) (hb : pgOkB q = false) :
    Calls Tryz.prog 5 #[.agg #[v0, v1], .agg #[u0, u1]] w fun e w' => e = .returned (.bool (smB p q)) ∧ Below w.heap.size w w' := by
  have HP := fun W (hW : Below w.heap.size w W) => Lib.hid (sProgramOkC p v0 v1 W (h0.kept TpEl.st (Kept.of_below hW)) (h1.kept NdEl.st (Kept.of_below hW)) hz)
  have HQ := fun W (hW : Below w.heap.size w W) => Lib.hid (sProgramOkC q u0 u1 W (k0.kept TpEl.st (Kept.of_below hW)) (k1.kept NdEl.st (Kept.of_below hW)) hz2)
  have HT := fun W (hW : Below w.heap.size w W) => Lib.hid (sPrintProgramC p v0 v1 W (h0.kept TpEl.st (Kept.of_below hW)) (h1.kept NdEl.st (Kept.of_below hW)) hz)
  have HN := fun W (hW : Below w.heap.size w W) => Lib.hid (sPrintProgramC q u0 u1 W (k0.kept TpEl.st (Kept.of_below hW)) (k1.kept NdEl.st (Kept.of_below hW)) hz2)
  have HF := Lib.hid (sm_eq p q)
  generalize smB p q = r at *
  generalize pgOkB p = a at *
  generalize pgOkB q = b at *
  generalize prPgRes p = t at *
  generalize prPgRes q = s at *
  obtain ⟨p0, c0, rfl, -, -⟩ := h0.form
  obtain ⟨p1, c1, rfl, -, -⟩ := h1.form
  obtain ⟨q0, d0, rfl, -, -⟩ := k0.form
  obtain ⟨q1, d1, rfl, -, -⟩ := k1.form
  clear h0 h1 k0 k1 hz hz2
  generalize p.types.length = n0 at *
  generalize p.nodes.length = n1 at *
  generalize q.types.length = m0 at *
  generalize q.nodes.length = m1 at *
  subst ha hb
  go_enter Tryz.func5, Tryz.ntmps5
  go_wp2_with fail
  refine gen_world (P := fun W => Code.wp _ _ _ _ W) _ ?_
  intro W0 hW0
  have B0 : Below w.heap.size w W0 := by rw [hW0]; exact below_tr (Joins.below_alloc1 _ _) (Joins.below_alloc1 _ _)
  have z0 : W0.heap.size = w.heap.size + 1 + 1 := by rw [hW0]; simp
  have a0 : W0.cell? ⟨w.heap.size, 0, none⟩ = some (.slice p0 n0 c0) := by rw [hW0]; simp
  have a1 : W0.cell? ⟨w.heap.size, 1, none⟩ = some (.slice p1 n1 c1) := by rw [hW0]; simp
  have a2 : W0.cell? ⟨w.heap.size + 1, 0, none⟩ = some (.slice q0 m0 d0) := by rw [hW0]; simp
  have a3 : W0.cell? ⟨w.heap.size + 1, 1, none⟩ = some (.slice q1 m1 d1) := by rw [hW0]; simp
  clear hW0
  have hI : ∀ W, Below W0.heap.size W0 W → (W.cell? ⟨w.heap.size, 0, none⟩ = some (.slice p0 n0 c0) ∧ W.cell? ⟨w.heap.size, 1, none⟩ = some (.slice p1 n1 c1) ∧ W.cell? ⟨w.heap.size + 1, 0, none⟩ = some (.slice q0 m0 d0) ∧ W.cell? ⟨w.heap.size + 1, 1, none⟩ = some (.slice q1 m1 d1)) := fun W hW =>
    ⟨(hW.cell (p := ⟨w.heap.size, 0, none⟩) (by simp only; omega)).trans a0, (hW.cell (p := ⟨w.heap.size, 1, none⟩) (by simp only; omega)).trans a1, (hW.cell (p := ⟨w.heap.size + 1, 0, none⟩) (by simp only; omega)).trans a2, (hW.cell (p := ⟨w.heap.size + 1, 1, none⟩) (by simp only; omega)).trans a3⟩
  have HP2 := fun W (hW : Below W0.heap.size W0 W) => (HP W (below_tr B0 hW)).out
  have HQ2 := fun W (hW : Below W0.heap.size W0 W) => (HQ W (below_tr B0 hW)).out
  clear HP HQ HT HN
  refine region_begin (n := 14) (S := (fun W => Below W0.heap.size W0 W ∧ (W.cell? ⟨w.heap.size, 0, none⟩ = some (.slice p0 n0 c0) ∧ W.cell? ⟨w.heap.size, 1, none⟩ = some (.slice p1 n1 c1) ∧ W.cell? ⟨w.heap.size + 1, 0, none⟩ = some (.slice q0 m0 d0) ∧ W.cell? ⟨w.heap.size + 1, 1, none⟩ = some (.slice q1 m1 d1)))) (by kernel_rfl) rfl (by kernel_rfl) ⟨(Below.refl _ _).drew, hI _ (Below.refl _ _).drew⟩ (fun hHeld => ?_)
  refine take_next (i := 0) (v := ?_) [] (ts' := [0]) rfl (by kernel_rfl) (by kernel_rfl) (by kernel_rfl) (fun _ _ _ h => h) (.inl ⟨by rfl, ?_⟩) (by assumption) (by kernel_rfl) (d := 5) rfl (by simp only [Act.put, List.setIfInBounds_toArray, List.set_cons_zero, List.set_cons_succ]; rfl) ?_
  rotate_left
  · intro w' hSw
    try dsimp only at hSw
    go_split_ands
    go_simp
    try with_reducible rfl
  refine wpAnyH_ready (rs := [1]) (by kernel_rfl) (by simp) ?_
  refine AllReadyH.cons (o := _) rfl (fun K hK => ?_) AllReadyH.nil
  go_simp
  refine (HP2 _ hHeld.1).mono ?_
  rintro e w1 ⟨rfl, hb1⟩
  dsimp only
  refine hK.out _ _ ⟨below_tr hHeld.1 hb1, hI _ (below_tr hHeld.1 hb1)⟩ (fun hHeld => ?_)
  clear hK K
  refine mask_is (n := 14) [0, 1] (by kernel_rfl) ?_
  refine take_next (i := 2) (v := ?_) [0, 1] (ts' := [0, 1, 2]) rfl (by kernel_rfl) (by kernel_rfl) (by kernel_rfl) (fun _ _ _ h => h) (.inl ⟨by rfl, ?_⟩) (by assumption) (by kernel_rfl) (d := 7) rfl (by simp only [Act.put, List.setIfInBounds_toArray, List.set_cons_zero, List.set_cons_succ]; rfl) ?_
  rotate_left
  · intro w' hSw
    try dsimp only at hSw
    go_split_ands
    go_simp
    try with_reducible rfl
  refine take_next (i := 3) (v := ?_) [0, 1, 2] (ts' := [0, 1, 2, 3]) rfl (by kernel_rfl) (by kernel_rfl) (by kernel_rfl) (fun _ _ _ h => h) (.inl ⟨by rfl, ?_⟩) (by assumption) (by kernel_rfl) (d := 8) rfl (by simp only [Act.put, List.setIfInBounds_toArray, List.set_cons_zero, List.set_cons_succ]; rfl) ?_
  rotate_left
  · intro w' hSw
    try dsimp only at hSw
    go_split_ands
    go_simp
    try with_reducible rfl
  refine wpAnyH_ready (rs := [4]) (by kernel_rfl) (by simp) ?_
  refine AllReadyH.cons (o := _) rfl (fun K hK => ?_) AllReadyH.nil
  go_simp
  refine (HQ2 _ hHeld.1).mono ?_
  rintro e w4 ⟨rfl, hb4⟩
  dsimp only
  refine hK.out _ _ ⟨below_tr hHeld.1 hb4, hI _ (below_tr hHeld.1 hb4)⟩ (fun hHeld => ?_)
  clear hK K
  refine mask_is (n := 14) [0, 1, 2, 3, 4] (by kernel_rfl) ?_
  refine take_next (i := 5) (v := ?_) [0, 1, 2, 3, 4] (ts' := [0, 1, 2, 3, 4, 5]) rfl (by kernel_rfl) (by kernel_rfl) (by kernel_rfl) (fun _ _ _ h => h) (.inl ⟨by rfl, ?_⟩) (by assumption) (by kernel_rfl) (d := 10) rfl (by simp only [Act.put, List.setIfInBounds_toArray, List.set_cons_zero, List.set_cons_succ]; rfl) ?_
  rotate_left
  · intro w' hSw
    try dsimp only at hSw
    go_split_ands
    go_simp
    try with_reducible rfl
  refine take_next (i := 6) (v := ?_) [0, 1, 2, 3, 4, 5] (ts' := [0, 1, 2, 3, 4, 5, 6]) rfl (by kernel_rfl) (by kernel_rfl) (by kernel_rfl) (fun _ _ _ h => h) (.inl ⟨by rfl, ?_⟩) (by assumption) (by kernel_rfl) (d := 11) rfl (by simp only [Act.put, List.setIfInBounds_toArray, List.set_cons_zero, List.set_cons_succ]; rfl) ?_
  rotate_left
  · intro w' hSw
    try dsimp only at hSw
    go_split_ands
    go_simp
    try with_reducible rfl
  refine take_next (i := 7) (v := _) [0, 1, 2, 3, 4, 5, 6] (ts' := [0, 1, 2, 3, 4, 5, 6, 7]) rfl (by kernel_rfl) (by kernel_rfl) (by kernel_rfl) (fun _ _ _ h => h) (.inr ⟨by rfl, rfl⟩) (by assumption) (by kernel_rfl) (d := 12) rfl (by simp only [Act.put, List.setIfInBounds_toArray, List.set_cons_zero, List.set_cons_succ]; rfl) ?_
  refine take_next (i := 8) (v := _) [0, 1, 2, 3, 4, 5, 6, 7] (ts' := [0, 1, 2, 3, 4, 5, 6, 7, 8]) rfl (by kernel_rfl) (by kernel_rfl) (by kernel_rfl) (fun _ _ _ h => h) (.inr ⟨by rfl, rfl⟩) (by assumption) (by kernel_rfl) (d := 13) rfl (by simp only [Act.put, List.setIfInBounds_toArray, List.set_cons_zero, List.set_cons_succ]; rfl) ?_
  refine take_next (i := 9) (v := _) [0, 1, 2, 3, 4, 5, 6, 7, 8] (ts' := [0, 1, 2, 3, 4, 5, 6, 7, 8, 9]) rfl (by kernel_rfl) (by kernel_rfl) (by kernel_rfl) (fun _ _ _ h => h) (.inr ⟨by rfl, rfl⟩) (by assumption) (by kernel_rfl) (d := 14) rfl (by simp only [Act.put, List.setIfInBounds_toArray, List.set_cons_zero, List.set_cons_succ]; rfl) ?_
  refine take_next (i := 10) (v := _) [0, 1, 2, 3, 4, 5, 6, 7, 8, 9] (ts' := [0, 1, 2, 3, 4, 5, 6, 7, 8, 9, 10]) rfl (by kernel_rfl) (by kernel_rfl) (by kernel_rfl) (fun _ _ _ h => h) (.inr ⟨by rfl, rfl⟩) (by assumption) (by kernel_rfl) (d := 15) rfl (by simp only [Act.put, List.setIfInBounds_toArray, List.set_cons_zero, List.set_cons_succ]; rfl) ?_
  refine take_next (i := 11) (v := _) [0, 1, 2, 3, 4, 5, 6, 7, 8, 9, 10] (ts' := [0, 1, 2, 3, 4, 5, 6, 7, 8, 9, 10, 11]) rfl (by kernel_rfl) (by kernel_rfl) (by kernel_rfl) (fun _ _ _ h => h) (.inr ⟨by rfl, rfl⟩) (by assumption) (by kernel_rfl) (d := 16) rfl (by simp only [Act.put, List.setIfInBounds_toArray, List.set_cons_zero, List.set_cons_succ]; rfl) ?_
  refine take_next (i := 12) (v := ?_) [0, 1, 2, 3, 4, 5, 6, 7, 8, 9, 10, 11] (ts' := [0, 1, 2, 3, 4, 5, 6, 7, 8, 9, 10, 11, 12]) rfl (by kernel_rfl) (by kernel_rfl) (by kernel_rfl) (fun _ _ _ h => h) (.inl ⟨by rfl, ?_⟩) (by assumption) (by kernel_rfl) (d := 17) rfl (by simp only [Act.put, List.setIfInBounds_toArray, List.set_cons_zero, List.set_cons_succ]; rfl) ?_
  rotate_left
  · intro w' hSw
    try dsimp only at hSw
    go_split_ands
    go_simp
    try with_reducible rfl
  refine take_next (i := 13) (v := ?_) [0, 1, 2, 3, 4, 5, 6, 7, 8, 9, 10, 11, 12] (ts' := [0, 1, 2, 3, 4, 5, 6, 7, 8, 9, 10, 11, 12, 13]) rfl (by kernel_rfl) (by kernel_rfl) (by kernel_rfl) (fun _ _ _ h => h) (.inl ⟨by rfl, ?_⟩) (by assumption) (by kernel_rfl) (d := 4) rfl (by simp only [Act.put, List.setIfInBounds_toArray, List.set_cons_zero, List.set_cons_succ]; rfl) ?_
  rotate_left
  · intro w' hSw
    try dsimp only at hSw
    go_split_ands
    go_simp
    try with_reducible rfl
  refine wpAnyH_done (by kernel_rfl) ?_ _
  try dsimp only at hHeld
  have hHB := hHeld.1
  go_split_ands
  go_wp2
  go_ret
  exact ⟨ret_bool (by rw [HF.out]; rfl), below_tr B0 hHB⟩
theorem sSameProgramC (p q : Pg) (v0 v1 u0 u1 : Value) (w : World) (h0 : RowRd 3 TpEl w v0 p.types) (h1 : RowRd 6 NdEl w v1 p.nodes) (k0 : RowRd 3 TpEl w u0 q.types) (k1 : RowRd 6 NdEl w u1 q.nodes) (hz : bPg p ≤ 1048576) (hz2 : bPg q ≤ 1048576) :
    Calls Tryz.prog 5 #[.agg #[v0, v1], .agg #[u0, u1]] w fun e w' => e = .returned (.bool (smB p q)) ∧ Below w.heap.size w w' := by
  cases ha : pgOkB p
  · exact sSameProgram_ff p q v0 v1 u0 u1 w h0 h1 k0 k1 hz hz2 ha
  · cases hb : pgOkB q
    · exact sSameProgram_tf p q v0 v1 u0 u1 w h0 h1 k0 k1 hz hz2 ha hb
    · exact sSameProgram_tt p q v0 v1 u0 u1 w h0 h1 k0 k1 hz hz2 ha hb
end Go.Proofs.YtaibgnfjjbncpaaGreat
