/- The model's checks of constructors and of programs. -/
import Derived.Test.YtilincaedjhnpaaGreatOkW
namespace Go.Proofs.YtilincaedjhnpaaGreat
set_option linter.unusedVariables false
set_option maxRecDepth 100000
open Go.ChangeShapes Go.WideShapes Go.ChangeAt Go.RowKit

theorem beq_boolP {b : Bool} {P : Prop} (h : P ↔ b = true) : b = propB P := by
  cases b
  · exact (propB_f (fun p => by have := h.1 p; cases this)).symm
  · exact (propB_t (h.2 rfl)).symm
set_option maxHeartbeats 4000000 in
theorem sCon (nm : ByteArray) (has : Bool) (arg : List TyI) (va : Value) (par : Int) (w : World) (hr : RowRd 3 TyIEl w va arg) (hs : nm.size ≤ maxLen) (hpar : I64 par) :
    Calls Tryz.prog 26 #[.agg #[.string nm, .bool has, va], .int .i64 par] w fun e w' => e = .returned (.bool (propB (CnOkP par ⟨nm, has, arg⟩))) ∧ Below w.heap.size w w' := by
  have hr0 := hr
  obtain ⟨a, ca, rfl, hm, hrf⟩ := hr.form
  clear hr
  unfold maxLen at hm
  cases hcb : conB nm
  · have HQ := Lib.hid (propB_f (fun h : CnOkP par ⟨nm, has, arg⟩ => by have := h.1; simp only at this; rw [hcb] at this; cases this))
    go_enter Tryz.func26, Tryz.ntmps26
    go_wp2_with fail
    refine (sConOk _ _ hs).mono ?_
    rintro e w1 ⟨rfl, rfl⟩
    go_wp2
    go_ret
    exact ⟨ret_bool HQ.out.symm, Joins.below_alloc1 w _⟩
  · have HC := Lib.hid hcb
    cases has
    · have HQ := Lib.hid (show CnOkP par ⟨nm, false, arg⟩ ↔ (arg.length : Int) = 0 from ⟨fun h => by have := h.2.1 rfl; simp only at this; rw [this]; rfl, fun h => ⟨hcb, fun _ => nil_of_len (show arg.length = 0 by omega), (fun e => by cases e)⟩⟩)
      go_enter Tryz.func26, Tryz.ntmps26
      go_wp2_with fail
      refine (sConOk _ _ hs).mono ?_
      rintro e w1 ⟨rfl, rfl⟩
      go_wp2
      go_ret
      exact ⟨ret_bool (beq_prop HQ.out), Joins.below_alloc1 w _⟩
    · go_enter Tryz.func26, Tryz.ntmps26
      go_wp2_with fail
      refine (sConOk _ _ hs).mono ?_
      rintro e w1 ⟨rfl, rfl⟩
      go_wp2
      go_loopw [23] (fun i wr => ∃ k : Nat, i = .int .i64 k ∧ k ≤ arg.length ∧ (∀ j (hj : j < k) (h : j < arg.length), arg[j].name.toList = [] → arg[j].var < par) ∧ Below (w.alloc (.cells #[.string nm, .bool true, .slice a arg.length ca] 63)).heap.size (w.alloc (.cells #[.string nm, .bool true, .slice a arg.length ca] 63)) wr) (fun i _ => arg.length - (intOf i).toNat)
      case atStart => exact ⟨0, rfl, Nat.zero_le _, fun j hj => absurd hj (by omega), Below.refl _ _⟩
      case round =>
        obtain ⟨k, rfl, hk, hok, hbel⟩ := hrel
        have HO := Lib.hid hok
        clear hok
        have hsz := hbel.size
        simp at hsz
        obtain ⟨hcl, hfr⟩ := bcell hbel
        have c2 : wr.cell? ⟨w.heap.size, 2, none⟩ = some (.slice a arg.length ca) := by rw [hcl _ _ (by simp)]; simp
        have hK : Kept w wr := (Kept.alloc _ _).trans (Kept.of_below hbel)
        clear hcl hfr
        have BB : Below w.heap.size w wr := (Joins.below_alloc1 w _).trans (hbel.mono (by simp))
        by_cases hlt : k < arg.length
        · obtain ⟨b, o, rfl, hbw, hc⟩ := hrf (by omega)
          obtain ⟨⟨e0, i0⟩, ⟨e1, i1⟩, ⟨e2, i2⟩⟩ := TyIEl.st w wr b _ _ hK hbw (hc k hlt)
          clear hc hrf
          obtain ⟨x, hx⟩ : ∃ x, x = arg[k] := ⟨_, rfl⟩
          rw [← hx] at e0 e1 e2 i0 i1 i2
          have HX := Lib.hid hx
          clear hx
          have hAl : Below (w.alloc (.cells #[.string nm, .bool true, .slice (some ⟨b, o, none⟩) arg.length ca] 63)).heap.size (w.alloc (.cells #[.string nm, .bool true, .slice (some ⟨b, o, none⟩) arg.length ca] 63)) (wr.alloc (.cells #[.int .i64 x.var, .string x.name, .int .i64 x.arity] 90)) := hbel.alloc (by simp; omega) _
          by_cases he : x.name.toList = []
          · have he1 : x.name.toList.isEmpty = true := by simp [he]
            by_cases hv : par ≤ x.var
            · have HB := Lib.hid (propB_f (fun h : CnOkP par ⟨nm, true, arg⟩ => by have := (h.2.2 rfl).1 x (by rw [HX.out]; exact List.getElem_mem _) he; omega))
              go_wp2
              go_ret
              exact ⟨ret_bool HB.out.symm, BB.alloc (by omega) _⟩
            · have hv' : x.var < par := by omega
              have HV := Lib.hid hv'
              go_wp2
              go_roundw
              case rel => exact ⟨k + 1, by go_num, by omega, fun j hj h => by
                  by_cases hjk : j = k
                  · subst hjk; rw [← HX.out]; exact fun _ => HV.out
                  · exact HO.out j (by omega) h, hAl⟩
              case measure => simp [intOf]; omega
          · have he1 : x.name.toList.isEmpty = false := by simpa using he
            have HE := Lib.hid he
            clear he
            go_wp2
            go_roundw
            case rel => exact ⟨k + 1, by go_num, by omega, fun j hj h => by
                  by_cases hjk : j = k
                  · subst hjk; rw [← HX.out]; exact fun e => absurd e HE.out
                  · exact HO.out j (by omega) h, hAl⟩
            case measure => simp [intOf]; omega
        · obtain rfl : k = arg.length := by omega
          have HQ := Lib.hid (show CnOkP par ⟨nm, true, arg⟩ ↔ tyOkB arg = true from ⟨fun h => (h.2.2 rfl).2, fun h => ⟨HC.out, (fun e => by cases e), fun _ => ⟨fun x hx => by
            obtain ⟨i, hi, rfl⟩ := List.getElem_of_mem hx
            exact HO.out i hi hi, h⟩⟩⟩)
          go_wp2_with fail
          refine (sTyOk arg _ _ (hr0.kept TyIEl.st hK)).mono ?_
          rintro e w1 ⟨rfl, hb1⟩
          go_wp2
          go_ret
          exact ⟨ret_bool (beq_boolP HQ.out), below_tr BB hb1⟩
set_option maxHeartbeats 8000000 in
theorem sProgramOk (p : Pg) (v0 v1 : Value) (w : World) (h0 : RowRd 3 TpEl w v0 p.types) (h1 : RowRd 6 NdEl w v1 p.nodes) :
    Calls Tryz.prog 14 #[.agg #[v0, v1]] w fun e w' => e = .returned (.bool (pgOkB p)) ∧ Below w.heap.size w w' := by
  have h00 := h0
  have h10 := h1
  obtain ⟨pt, ct, rfl, hmt, htf⟩ := h0.form
  obtain ⟨pn, cn, rfl, hmn, hnf⟩ := h1.form
  clear h0 h1
  unfold maxLen at hmt hmn
  by_cases g1 : p.nodes.length < 1
  · have HB := Lib.hid (show pgOkB p = false from propB_f fun h => by have := h.1; omega)
    have g1' : (p.nodes.length : Int) < 1 := by omega
    go_enter Tryz.func14, Tryz.ntmps14
    go_wp2
    go_ret
    exact ⟨ret_bool HB.out.symm, Joins.below_alloc1 w _⟩
  by_cases g2 : 600 < p.nodes.length
  · have HB := Lib.hid (show pgOkB p = false from propB_f fun h => by have := h.2.1; omega)
    have g1' : ¬ (p.nodes.length : Int) < 1 := by omega
    have g2' : 600 < (p.nodes.length : Int) := by omega
    go_enter Tryz.func14, Tryz.ntmps14
    go_wp2
    go_ret
    exact ⟨ret_bool HB.out.symm, Joins.below_alloc1 w _⟩
  by_cases g3 : 8 < p.types.length
  · have HB := Lib.hid (show pgOkB p = false from propB_f fun h => by have := h.2.2.1; omega)
    have g1' : ¬ (p.nodes.length : Int) < 1 := by omega
    have g2' : ¬ 600 < (p.nodes.length : Int) := by omega
    have g3' : 8 < (p.types.length : Int) := by omega
    go_enter Tryz.func14, Tryz.ntmps14
    go_wp2
    go_ret
    exact ⟨ret_bool HB.out.symm, Joins.below_alloc1 w _⟩
  have g1' : ¬ (p.nodes.length : Int) < 1 := by omega
  have g2' : ¬ 600 < (p.nodes.length : Int) := by omega
  have g3' : ¬ 8 < (p.types.length : Int) := by omega
  have d1 : decide ((p.nodes.length : Int) < 1) = false := by simp; omega
  have d2 : decide (600 < (p.nodes.length : Int)) = false := by simp; omega
  have d3 : decide (8 < (p.types.length : Int)) = false := by simp; omega
  have HL := Lib.hid (show 1 ≤ p.nodes.length ∧ p.nodes.length ≤ 600 ∧ p.types.length ≤ 8 by omega)
  clear g1 g2 g3
  go_enter Tryz.func14, Tryz.ntmps14
  go_wp2
  go_loopw [28] (fun i wr => ∃ k : Nat, i = .int .i64 k ∧ k ≤ p.types.length ∧ (∀ j (hj : j < k) (h : j < p.types.length), TpOkP p.types[j]) ∧ Below (w.alloc (.cells #[.slice pt p.types.length ct, .slice pn p.nodes.length cn] 31)).heap.size (w.alloc (.cells #[.slice pt p.types.length ct, .slice pn p.nodes.length cn] 31)) wr) (fun i _ => p.types.length - (intOf i).toNat)
  case atStart => exact ⟨0, rfl, Nat.zero_le _, fun j hj => absurd hj (by omega), Below.refl _ _⟩
  case round =>
    obtain ⟨k, rfl, hk, hok, hbel⟩ := hrel
    generalize wr = wo at *
    have HO := Lib.hid hok
    clear hok
    have hsz := hbel.size
    simp at hsz
    obtain ⟨hcl, hfr⟩ := bcell hbel
    have c1 : wo.cell? ⟨w.heap.size, 1, none⟩ = some (.slice pn p.nodes.length cn) := by rw [hcl _ _ (by simp)]; simp
    have hK : Kept w wo := (Kept.alloc _ _).trans (Kept.of_below hbel)
    clear hcl hfr
    have BB : Below w.heap.size w wo := (Joins.below_alloc1 w _).trans (hbel.mono (by simp))
    by_cases hlt : k < p.types.length
    · obtain ⟨b, o, rfl, hbw, hc⟩ := htf (by omega)
      obtain ⟨⟨e0, i0⟩, ⟨e1, i1⟩, ⟨v2, e2, r2⟩⟩ := TpEl.st w wo b _ _ hK hbw (hc k hlt)
      clear hc htf
      obtain ⟨x, hx⟩ : ∃ x, x = p.types[k] := ⟨_, rfl⟩
      rw [← hx] at e0 e1 i0 i1 r2
      have hmem : x ∈ p.types := by rw [hx]; exact List.getElem_mem _
      have HM := Lib.hid hmem
      have HX := Lib.hid hx
      clear hx hmem
      have r20 := r2
      obtain ⟨a2, ca2, rfl, hm2, r2f⟩ := r2.form
      clear r2
      unfold maxLen at hm2
      go_wp2_with fail
      refine (sNameOk _ _ i0).mono ?_
      rintro e w1 ⟨rfl, hb1⟩
      have hb1w : Below wo.heap.size wo w1 := below_tr (Joins.below_alloc1 wo _) hb1
      have hs1 : wo.heap.size < w1.heap.size := by have := hb1.size; simp at this; omega
      have x0 : w1.cell? ⟨wo.heap.size, 1, none⟩ = some (.int .i64 x.params) := by rw [hb1.cell (p := ⟨wo.heap.size, 1, none⟩) (by simp)]; simp
      have x2 : w1.cell? ⟨wo.heap.size, 2, none⟩ = some (.slice a2 x.cons.length ca2) := by rw [hb1.cell (p := ⟨wo.heap.size, 2, none⟩) (by simp)]; simp
      have B1 : Below w.heap.size w w1 := BB.trans (hb1w.mono (by omega))
      have hbel1 := hbel.trans (hb1w.mono (by simp; omega))
      have hK1 : Kept wo w1 := Kept.of_below hb1w
      clear e0 e1 e2 c1 hb1
      by_cases q0 : nameB x.name = true
      case neg =>
        have q0' : nameB x.name = false := by simpa using q0
        have HB := Lib.hid (show pgOkB p = false from propB_f fun h => q0 (h.2.2.2.1 x HM.out).1)
        clear q0
        go_wp2
        go_ret
        exact ⟨ret_bool HB.out.symm, B1⟩
      by_cases q1 : x.params < 0
      · have HB := Lib.hid (show pgOkB p = false from propB_f fun h => by have := (h.2.2.2.1 x HM.out).2.1; omega)
        go_wp2
        go_ret
        exact ⟨ret_bool HB.out.symm, B1⟩
      by_cases q2 : 2 < x.params
      · have HB := Lib.hid (show pgOkB p = false from propB_f fun h => by have := (h.2.2.2.1 x HM.out).2.2.1; omega)
        go_wp2
        go_ret
        exact ⟨ret_bool HB.out.symm, B1⟩
      by_cases q3 : (x.cons.length : Int) < 1
      · have HB := Lib.hid (show pgOkB p = false from propB_f fun h => by have := (h.2.2.2.1 x HM.out).2.2.2.1; omega)
        go_wp2
        go_ret
        exact ⟨ret_bool HB.out.symm, B1⟩
      by_cases q4 : 8 < (x.cons.length : Int)
      · have HB := Lib.hid (show pgOkB p = false from propB_f fun h => by have := (h.2.2.2.1 x HM.out).2.2.2.2.1; omega)
        go_wp2
        go_ret
        exact ⟨ret_bool HB.out.symm, B1⟩
      have HT := Lib.hid (show nameB x.name = true ∧ 0 ≤ x.params ∧ x.params ≤ 2 ∧ 1 ≤ x.cons.length ∧ x.cons.length ≤ 8 from ⟨q0, by omega, by omega, by omega, by omega⟩)
      have y1 : decide (x.params < 0) = false := by simp; omega
      have y2 : decide (2 < x.params) = false := by simp; omega
      have y3 : decide ((x.cons.length : Int) < 1) = false := by simp; omega
      have y4 : decide (8 < (x.cons.length : Int)) = false := by simp; omega
      have ip := i1
      obtain ⟨ip1, ip2⟩ := i1
      go_wp2
      go_loopw [61] (fun i wr => ∃ m : Nat, i = .int .i64 m ∧ m ≤ x.cons.length ∧ (∀ j (hj : j < m) (h : j < x.cons.length), CnOkP x.params x.cons[j]) ∧ Below w1.heap.size w1 wr) (fun i _ => x.cons.length - (intOf i).toNat)
      case atStart => exact ⟨0, rfl, Nat.zero_le _, fun j hj => absurd hj (by omega), Below.refl _ _⟩
      case round =>
        obtain ⟨m, rfl, hmk, hok2, hbi⟩ := hrel
        have HO2 := Lib.hid hok2
        clear hok2
        have z0 := (hbi.cell (p := ⟨wo.heap.size, 1, none⟩) hs1).trans x0
        have hs2 : wo.heap.size < wr.heap.size := Nat.lt_of_lt_of_le hs1 hbi.size
        have hne2 : wo.heap.size ≠ wr.heap.size := by omega
        have hK2 : Kept wo wr := hK1.trans (Kept.of_below hbi)
        have Bi : Below w.heap.size w wr := B1.trans (hbi.mono (by have := B1.size; omega))
        by_cases hmlt : m < x.cons.length
        · obtain ⟨b3, o3, rfl, hb3, hc3⟩ := r2f (by omega)
          obtain ⟨⟨f0, l0⟩, f1, ⟨v5, f2, r5⟩⟩ := CnEl.st wo wr b3 _ _ hK2 hb3 (hc3 m hmlt)
          unfold BoolEl at f1
          clear hc3 r2f
          obtain ⟨c, hcc⟩ : ∃ c, c = x.cons[m] := ⟨_, rfl⟩
          rw [← hcc] at f0 f1 l0 r5
          have HCC := Lib.hid hcc
          clear hcc
          obtain ⟨cnm, chas, carg⟩ := c
          simp only at f0 f1 l0 r5
          have r50 := r5
          obtain ⟨a5, ca5, rfl, -, -⟩ := r5.form
          clear r5
          go_wp2_with fail
          refine (sCon cnm chas carg _ x.params _ (r50.kept TyIEl.st (Kept.alloc _ _)) l0 ip).mono ?_
          rintro e w3 ⟨rfl, hb3w⟩
          have hb3r : Below wr.heap.size wr w3 := below_tr (Joins.below_alloc1 wr _) hb3w
          by_cases hy : CnOkP x.params ⟨cnm, chas, carg⟩
          · have hyb : propB (CnOkP x.params ⟨cnm, chas, carg⟩) = true := propB_t hy
            have HY := Lib.hid hy
            clear hy
            go_wp2
            go_roundw
            case rel => exact ⟨m + 1, by go_num, by omega, fun j hj h => by
                by_cases he : j = m
                · subst he; rw [← HCC.out]; exact HY.out
                · exact HO2.out j (by omega) h, below_tr hbi hb3r⟩
            case measure => simp [intOf]; omega
          · have hyb : propB (CnOkP x.params ⟨cnm, chas, carg⟩) = false := propB_f hy
            have HB := Lib.hid (show pgOkB p = false from propB_f fun h => hy (by rw [HCC.out]; exact (h.2.2.2.1 x HM.out).2.2.2.2.2 _ (List.getElem_mem _)))
            clear hy
            go_wp2
            go_ret
            exact ⟨ret_bool HB.out.symm, Bi.trans (hb3r.mono (by have := Bi.size; omega))⟩
        · obtain rfl : m = x.cons.length := by omega
          have hall : TpOkP x := ⟨HT.out.1, HT.out.2.1, HT.out.2.2.1, HT.out.2.2.2.1, HT.out.2.2.2.2, fun c hc => by
            obtain ⟨i, hi, rfl⟩ := List.getElem_of_mem hc
            exact HO2.out i hi hi⟩
          have HALL := Lib.hid hall
          clear hall
          go_wp2
          go_roundw
          case rel => exact ⟨k + 1, by go_num, by omega, fun j hj h => by
              by_cases he : j = k
              · subst he; rw [← HX.out]; exact HALL.out
              · exact HO.out j (by omega) h, hbel1.trans (hbi.mono (by have := hbel1.size; omega))⟩
          case measure => simp [intOf]; omega
    · obtain rfl : k = p.types.length := by omega
      have hall : ∀ t ∈ p.types, TpOkP t := fun t ht => by
        obtain ⟨i, hi, rfl⟩ := List.getElem_of_mem ht
        exact HO.out i hi hi
      have HALL := Lib.hid hall
      clear hall HO
      have hso : w.heap.size < wo.heap.size := by omega
      have c0 : wo.cell? ⟨w.heap.size, 0, none⟩ = some (.slice pt p.types.length ct) := by rw [hbel.cell (p := ⟨w.heap.size, 0, none⟩) (by simp)]; simp
      go_wp2
      go_loopw [75] (fun i wr => ∃ m : Nat, i = .int .i64 m ∧ m ≤ p.nodes.length ∧ (∀ j (hj : j < m) (h : j < p.nodes.length), NdOkP p.nodes p.nodes[j]) ∧ Below wo.heap.size wo wr) (fun i _ => p.nodes.length - (intOf i).toNat)
      case atStart => exact ⟨0, rfl, Nat.zero_le _, fun j hj => absurd hj (by omega), Below.refl _ _⟩
      case round =>
        obtain ⟨m, rfl, hmk, hok2, hbi⟩ := hrel
        have HO2 := Lib.hid hok2
        clear hok2
        have z1 := (hbi.cell (p := ⟨w.heap.size, 1, none⟩) hso).trans c1
        have z0 := (hbi.cell (p := ⟨w.heap.size, 0, none⟩) hso).trans c0
        have hs2 : w.heap.size < wr.heap.size := Nat.lt_of_lt_of_le hso hbi.size
        have hne2 : w.heap.size ≠ wr.heap.size := by omega
        have hK2 : Kept w wr := hK.trans (Kept.of_below hbi)
        have Bi : Below w.heap.size w wr := BB.trans (hbi.mono (by omega))
        by_cases hmlt : m < p.nodes.length
        · obtain ⟨b3, o3, rfl, hb3, hc3⟩ := hnf (by omega)
          obtain ⟨⟨f0, l0⟩, ⟨f1, l1⟩, ⟨f2, l2⟩, ⟨f3, l3⟩, ⟨v4, f4, r4⟩, ⟨v5, f5, r5⟩⟩ := NdEl.st w wr b3 _ _ hK2 hb3 (hc3 m hmlt)
          clear hc3 hnf
          obtain ⟨x, hx⟩ : ∃ x, x = p.nodes[m] := ⟨_, rfl⟩
          rw [← hx] at f0 f1 f2 f3 l0 l1 l2 l3 r4 r5
          have HX := Lib.hid hx
          clear hx
          have r40 := r4
          have r50 := r5
          obtain ⟨a4, ca4, rfl, -, -⟩ := r4.form
          obtain ⟨a5, ca5, rfl, -, -⟩ := r5.form
          clear r4 r5
          go_wp2_with fail
          refine (sNode _ _ x p.nodes _ _ _ ⟨_, _, _, rfl⟩ (h10.kept NdEl.st (hK2.trans (Kept.alloc _ _))) (r40.kept IntEl.st (Kept.alloc _ _)) (r50.kept PatEl.st (Kept.alloc _ _)) l3).mono ?_
          rintro e w3 ⟨rfl, hb3w⟩
          have hb3r : Below wr.heap.size wr w3 := below_tr (Joins.below_alloc1 wr _) hb3w
          by_cases hy : NdOkP p.nodes x
          · have hyb : propB (NdOkP p.nodes x) = true := propB_t hy
            have HY := Lib.hid hy
            clear hy
            go_wp2
            go_roundw
            case rel => exact ⟨m + 1, by go_num, by omega, fun j hj h => by
                by_cases he : j = m
                · subst he; rw [← HX.out]; exact HY.out
                · exact HO2.out j (by omega) h, below_tr hbi hb3r⟩
            case measure => simp [intOf]; omega
          · have hyb : propB (NdOkP p.nodes x) = false := propB_f hy
            have HB := Lib.hid (show pgOkB p = false from propB_f fun h => hy (h.2.2.2.2.1 x (by rw [HX.out]; exact List.getElem_mem _)))
            clear hy
            go_wp2
            go_ret
            exact ⟨ret_bool HB.out.symm, Bi.trans (hb3r.mono (by have := Bi.size; omega))⟩
        · obtain rfl : m = p.nodes.length := by omega
          have HQ := Lib.hid (show PgOkP p ↔ pendF (p.nodes.length + 1) (p.nodes.map Nd.kids) 0 = (p.nodes.length : Int) from ⟨fun h => h.2.2.2.2.2, fun h => ⟨HL.out.1, HL.out.2.1, HL.out.2.2, HALL.out, fun x hx => by
            obtain ⟨i, hi, rfl⟩ := List.getElem_of_mem hx
            exact HO2.out i hi hi, h⟩⟩)
          clear hnf
          have HE := fun W (hK3 : Kept wr W) => Lib.hid (sNEnd (p.nodes.length + 1) p.nodes (.slice pt p.types.length ct) _ 0 W ⟨_, _, _, rfl⟩ ((h10.kept NdEl.st hK2).kept NdEl.st hK3) (by omega) (by omega) (by omega))
          go_wp2_with fail
          go_region_held3 (fun w' => w'.cell? ⟨w.heap.size, 0, none⟩ = some (.slice pt p.types.length ct) ∧ w'.cell? ⟨w.heap.size, 1, none⟩ = some (.slice pn p.nodes.length cn) ∧ Kept wr w')
            (first | (exact ⟨z0, z1, Kept.refl _⟩) | exact ⟨z0, z1, Kept.drew _⟩ | exact ⟨(hb1.cell (p := ⟨w.heap.size, 0, none⟩) hs2).trans z0, (hb1.cell (p := ⟨w.heap.size, 1, none⟩) hs2).trans z1, (Kept.drew _).trans (Kept.of_below hb1)⟩)
            ((go_at_call 28; refine (HE _ (by first | exact Kept.drew _ | exact Kept.refl _)).out.mono ?_; rintro e w1 ⟨rfl, hb1⟩))
          go_wp2
          go_ret
          exact ⟨ret_bool (beq_prop HQ.out), Bi.drew.trans (hb1.mono (by have := Bi.size; simp; omega))⟩
theorem sProgramOkC (p : Pg) (v0 v1 : Value) (w : World) (h0 : RowRd 3 TpEl w v0 p.types) (h1 : RowRd 6 NdEl w v1 p.nodes) (hz : bPg p ≤ 1048576) :
    Calls Tryz.prog 14 #[.agg #[v0, v1]] w fun e w' => e = .returned (.bool (pgOkB p)) ∧ Below w.heap.size w w' := sProgramOk p v0 v1 w h0 h1
end Go.Proofs.YtilincaedjhnpaaGreat
