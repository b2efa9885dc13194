/- The program's check of type declarations: the code of one, of all. -/
import Derived.Test.YthghgbdpokplhaaGreatDoorCtJ
import Derived.LaidHandle
import Derived.Stop.Joined
import Derived.LaidLaws
namespace Go.Proofs.YthghgbdpokplhaaGreatDoor
set_option linter.unusedVariables false
set_option maxRecDepth 100000
open Go.ChangeShapes Go.WideShapes Go.ChangeAt Go.RowKit

set_option maxHeartbeats 4000000 in
theorem iDeclFault (ts : List Tp) (v : Value) (k : Nat) (hk : k < ts.length) (w : World) (hR : RowRd 3 TpEl w v ts) :
    Calls Tryz.prog 31 #[v, .int .i64 k] w fun e w' => e = .returned (.int .i64 (ctCode ts k)) ∧ Below w.heap.size w w' := by
  have hR0 := hR
  have hcap0 : ∀ (a : Option Addr) (c : Nat), v = .slice a ts.length c → ts.length ≤ c := fun a c e => by subst e; exact hR0.cap (by omega)
  have hTk0 : ∀ (a : Option Addr) (c : Nat), v = .slice a ts.length c → RowRd 3 TpEl w (.slice a k c) (ts.take k) := fun a c e => by subst e; exact RowRd.take hR0 k (by omega)
  obtain ⟨p, cap, rfl, hm, hRf⟩ := hR.form
  have hcap := hcap0 _ _ rfl
  have hTk := hTk0 _ _ rfl
  clear hcap0 hTk0 hR
  unfold maxLen at hm
  obtain ⟨b, o, rfl, hbw, hcT⟩ := hRf (by omega)
  have ex := hcT k hk
  have HT := Lib.hid (taken_is ts k ts[k])
  have HU := Lib.hid (unkn_is ts ts[k])
  have H11 := Lib.hid (fun h => ct11 hk h)
  have H12 := Lib.hid (fun h h2 => ct12 hk h h2)
  have H13 := Lib.hid (fun h h2 h3 => ct13 hk h h2 h3)
  have H00 := Lib.hid (fun h h2 h3 => ct00 hk h h2 h3)
  clear hcT hRf
  generalize ts[k] = x at *
  obtain ⟨⟨e0, i0⟩, ⟨e1, i1⟩, ⟨v2, e2, r2⟩⟩ := ex
  have r20 := r2
  obtain ⟨p2, c2, rfl, m2, -⟩ := r2.form
  have hk1 : (k : Int) < (ts.length : Int) := by omega
  have hk2 : (k : Int) ≤ (cap : Int) := by omega
  have hk3 : k ≤ cap := by omega
  have hk4 : (0 : Int) ≤ (k : Int) := by omega
  have hblt : b < w.heap.size := hbw
  have hbne : b ≠ w.heap.size := by omega
  have hbne2 : b ≠ w.heap.size + 1 := by omega
  clear r2
  obtain ⟨O1, hO1⟩ : ∃ O, O = (Obj.cells #[.slice (some ⟨b, o, none⟩) ts.length cap] 29) := ⟨_, rfl⟩
  obtain ⟨O2, hO2⟩ : ∃ O, O = (Obj.cells #[.string x.name, .int .i64 x.params, .slice p2 x.cons.length c2] 41) := ⟨_, rfl⟩
  obtain ⟨O3, hO3⟩ : ∃ O, O = (Obj.cells #[.func (.func 61) #[] #[.pointer (some ⟨w.heap.size, 0, none⟩)]] 119) := ⟨_, rfl⟩
  have BW : Below w.heap.size w (((w.alloc O1).alloc O2).alloc O3).drew := as_drew ((Joins.below_alloc2 w O1 O2).alloc (by simp; omega) O3)
  have cA : (((w.alloc O1).alloc O2).alloc O3).drew.cell? ⟨w.heap.size, 0, none⟩ = some (.slice (some ⟨b, o, none⟩) ts.length cap) := by
    show (((w.alloc O1).alloc O2).alloc O3).cell? _ = _
    rw [World.cell?_alloc_lt _ _ ⟨w.heap.size, 0, none⟩ (by simp; omega), World.cell?_alloc_lt _ _ ⟨w.heap.size, 0, none⟩ (by simp), hO1]; simp
  have cB : ∀ j u, O2 = (Obj.cells #[.string x.name, .int .i64 x.params, .slice p2 x.cons.length c2] 41) → (#[Value.string x.name, .int .i64 x.params, .slice p2 x.cons.length c2])[j]? = some u → (((w.alloc O1).alloc O2).alloc O3).drew.cell? ⟨w.heap.size + 1, j, none⟩ = some u := by
    intro j u hO hj
    show (((w.alloc O1).alloc O2).alloc O3).cell? _ = _
    rw [World.cell?_alloc_lt _ _ ⟨w.heap.size + 1, j, none⟩ (by simp), hO, World.cell?_alloc_at _ _ _ _ (by simp)]; exact hj
  have cB0 := cB 0 (.string x.name) hO2 rfl
  have cB2 := cB 2 (.slice p2 x.cons.length c2) hO2 rfl
  have cF : (((w.alloc O1).alloc O2).alloc O3).drew.cell? ⟨w.heap.size + 1 + 1, 0, none⟩ = some (.func (.func 61) #[] #[.pointer (some ⟨w.heap.size, 0, none⟩)]) := by
    show (((w.alloc O1).alloc O2).alloc O3).cell? _ = _
    rw [hO3, World.cell?_alloc_at _ _ _ _ (by simp)]; rfl
  have zW : w.heap.size + 1 + 1 < (((w.alloc O1).alloc O2).alloc O3).drew.heap.size := by simp
  clear cB
  go_enter Tryz.func31, Tryz.ntmps31
  go_wp2
  go_region
  go_wp2_with fail
  refine (iGiven x.name _).mono ?_
  rintro e w2 ⟨rfl, rfl⟩
  rw [← hO1, ← hO2, ← hO3]
  clear hO1 hO2 hO3
  generalize (((w.alloc O1).alloc O2).alloc O3).drew = wb at *
  have hTk1 := hTk.kept TpEl.st (Kept.of_below BW)
  have hR1 := hR0.kept TpEl.st (Kept.of_below BW)
  have hC1 := r20.kept CnEl.st (Kept.of_below BW)
  have hCont := iContainsTp 60 #[.pointer (some ⟨w.heap.size + 1, 0, none⟩)] e_iHasNameT (fun u => sameNB x.name u.name) (ts.take k) (.slice (some ⟨b, o, none⟩) k cap) wb hTk1
    (fun i hi u W' hW' hu => iHasNameT x.name (w.heap.size + 1) (ts.take k)[i] u W' ((hW'.cell (p := ⟨w.heap.size + 1, 0, none⟩) (by show w.heap.size + 1 < _; omega)).trans cB0) (by have := hW'.size; omega) hu)
  have hRep := fun (W : World) (hW : Below wb.heap.size wb W) => iRepeats ts k x (.slice (some ⟨b, o, none⟩) k cap) (.slice p2 x.cons.length c2) W (hTk1.kept TpEl.st (Kept.of_below hW)) (hC1.kept CnEl.st (Kept.of_below hW))
  have hEv := fun (W : World) (hW : Below wb.heap.size wb W) => iEveryCn 63 #[.pointer (some ⟨w.heap.size + 1 + 1, 0, none⟩)] e_iArgKnown (fun c => c.arg.all (knownB ts)) x.cons (.slice p2 x.cons.length c2) W (hC1.kept CnEl.st (Kept.of_below hW))
    (fun i hi u W' hW' hu => iArgKnown ts (.slice (some ⟨b, o, none⟩) ts.length cap) w.heap.size (w.heap.size + 1 + 1) x.cons[i] u W' (((bt hW hW').cell (p := ⟨w.heap.size + 1 + 1, 0, none⟩) zW).trans cF) (Nat.lt_of_lt_of_le zW (bt hW hW').size)
      (((bt hW hW').cell (p := ⟨w.heap.size, 0, none⟩) (by show w.heap.size < _; omega)).trans cA) (by have := (bt hW hW').size; omega) (hR1.kept TpEl.st (Kept.of_below (bt hW hW'))) hu)
  clear e0 e1 e2 hTk hR0 r20 hTk1 hR1 hC1
  generalize givenI x.name = g at *
  by_cases hg : 0 ≤ g
  · have hg1 : decide (0 ≤ g) = true := decide_eq_true hg
    have HF := Lib.hid (H11.out (by rw [HT.out, hg1]; rfl))
    clear hCont hRep hEv
    go_wp2
    go_ret
    exact ⟨ret_int' HF.out.symm, BW⟩
  · have hg1 : decide (0 ≤ g) = false := decide_eq_false hg
    rw [hg1, Bool.false_or] at HT
    clear hg
    generalize (ts.take k).any (fun u => sameNB x.name u.name) = b1 at *
    go_wp2_with fail
    refine hCont.mono ?_
    rintro e w3 ⟨rfl, hb3⟩
    have B3 := below_tr BW hb3
    have cC2 := (hb3.cell (p := ⟨w.heap.size + 1, 2, none⟩) (by show w.heap.size + 1 < _; omega)).trans cB2
    cases b1
    · have hr := hRep w3 hb3
      generalize htw : twiceCB ts k x = b2 at *
      go_wp2_with fail
      refine hr.mono ?_
      rintro e w4 ⟨rfl, hb4⟩
      have B4 := below_tr B3 hb4
      have cD2 := (hb4.cell (p := ⟨w.heap.size + 1, 2, none⟩) (by have := hb3.size; show w.heap.size + 1 < _; omega)).trans cC2
      cases b2
      · have he := hEv w4 (bt hb3 hb4)
        generalize x.cons.all (fun c => c.arg.all (knownB ts)) = b3 at *
        go_wp2_with fail
        refine he.mono ?_
        rintro e w5 ⟨rfl, hb5⟩
        have B5 := below_tr B4 hb5
        cases b3
        · have HF := Lib.hid (H13.out HT.out (by first | exact htw | rfl | exact trivial) (by rw [HU.out]; rfl))
          go_wp2
          go_ret
          exact ⟨ret_int' HF.out.symm, B5⟩
        · have HF := Lib.hid (H00.out HT.out (by first | exact htw | rfl | exact trivial) (by rw [HU.out]; rfl))
          go_wp2
          go_ret
          exact ⟨ret_int' HF.out.symm, B5⟩
      · have HF := Lib.hid (H12.out HT.out (by first | exact htw | rfl | exact trivial))
        go_wp2
        go_ret
        exact ⟨ret_int' HF.out.symm, B4⟩
    · have HF := Lib.hid (H11.out HT.out)
      go_wp2
      go_ret
      exact ⟨ret_int' HF.out.symm, B3⟩
/-- The error of a program's declarations. -/
def errV (r : Int × Int) : Value := if r.1 = 0 then .nilIface else .iface 79 (.agg #[.int .i64 r.1, .int .i64 r.2])
set_option maxHeartbeats 4000000 in
theorem iCheckTypes (q : Pg) (v0 v1 : Value) (w : World) (h0 : RowRd 3 TpEl w v0 q.types) (h1 : RowRd 6 NdEl w v1 q.nodes) (hl : q.types.length ≤ 1048576) :
    Calls Tryz.prog 18 #[.agg #[v0, v1]] w fun e w' => e = .returned (errV (ctRes q)) ∧ Below w.heap.size w w' := by
  have h00 := h0
  have h10 := h1
  have hD := fun (k : Nat) (hk : k < q.types.length) (W : World) (hK : Kept w W) => iDeclFault q.types v0 k hk W (h00.kept TpEl.st hK)
  obtain ⟨p, cap, rfl, hm, -⟩ := h0.form
  obtain ⟨pn, cn, rfl, hmn, -⟩ := h1.form
  have HNo := Lib.hid (@ct_no q)
  have HAt := Lib.hid (fun (hp : pgOkB q = true) (i : Nat) (hi : i < q.types.length) (h0 : ∀ j, j < i → ctCode q.types j = 0) (c : Int) (hc : ctCode q.types i = c) (hn : c ≠ 0) => ct_at hp hi h0 hc hn)
  have HAll := Lib.hid (@ct_all q)
  unfold maxLen at hm
  clear h0 h1
  go_enter Tryz.func18, Tryz.ntmps18
  go_wp2_with fail
  refine (iProgramOk q _ _ _ (h00.kept TpEl.st (Kept.alloc _ _)) (h10.kept NdEl.st (Kept.alloc _ _))).mono ?_
  rintro e w1 ⟨rfl, hb1⟩
  have B1 : Below w.heap.size w w1 := below_tr (Joins.below_alloc1 w _) hb1
  have z1 : w.heap.size < w1.heap.size := by have := hb1.size; simp at this; omega
  have c0 : w1.cell? ⟨w.heap.size, 0, none⟩ = some (.slice p q.types.length cap) := by rw [hb1.cell (p := ⟨w.heap.size, 0, none⟩) (by simp)]; simp
  clear hb1 h10 h00
  cases hok : pgOkB q
  · have HR := Lib.hid (HNo.out hok)
    go_wp2
    go_ret
    exact ⟨by rw [HR.out]; rfl, B1⟩
  have HAt1 := Lib.hid (HAt.out hok)
  have HAll1 := Lib.hid (HAll.out hok)
  clear HNo HAt HAll hok
  go_wp2
  go_loopw [13] (fun ii wr => ∃ k : Nat, ii = .int .i64 k ∧ k ≤ q.types.length ∧ (∀ j, j < k → ctCode q.types j = 0) ∧ Below w1.heap.size w1 wr) (fun ii _ => q.types.length - (intOf ii).toNat)
  case atStart => exact ⟨0, rfl, Nat.zero_le _, fun j h => absurd h (by omega), Below.refl _ _⟩
  case round =>
    obtain ⟨k, rfl, hk, hz0, hbel⟩ := hrel
    have HZ := Lib.hid hz0
    clear hz0
    have BB : Below w.heap.size w wr := below_tr B1 hbel
    have d0 := (hbel.cell (p := ⟨w.heap.size, 0, none⟩) z1).trans c0
    by_cases hlt : k < q.types.length
    · have hDk := hD k hlt wr (Kept.of_below BB)
      have HA := Lib.hid (HAt1.out k hlt HZ.out)
      generalize hcc : ctCode q.types k = c at *
      have HCC := Lib.hid hcc
      clear hcc
      go_wp2_with fail
      refine hDk.mono ?_
      rintro e w2 ⟨rfl, hb2⟩
      by_cases hc0 : c = 0
      · have hc1 : (c != 0) = false := by simpa using hc0
        have HS := Lib.hid (show ∀ j, j < k + 1 → ctCode q.types j = 0 from fun j hj => by
          by_cases e : j = k
          · subst e; rw [HCC.out]; exact hc0
          · exact HZ.out j (by omega))
        clear hc0
        go_wp2
        go_roundw
        case rel => exact ⟨k + 1, by go_num, by omega, HS.out, below_tr hbel hb2⟩
        case measure => simp [intOf]; omega
      · have hc1 : (c != 0) = true := by simpa using hc0
        have HR := Lib.hid (HA.out c rfl hc0)
        have HC0 := Lib.hid hc0
        clear hc0
        go_wp2
        go_ret
        exact ⟨by rw [HR.out, errV, if_neg HC0.out]; rfl, below_tr BB hb2⟩
    · obtain rfl : k = q.types.length := by omega
      have HR := Lib.hid (HAll1.out HZ.out)
      go_wp2
      go_ret
      exact ⟨by rw [HR.out]; rfl, BB⟩
/-- What the variable errors.errorType holds. -/
def ErrT (w : World) : Prop := w.cell? ⟨0, 0, none⟩ = some (.iface 147 (.agg #[.pointer (some ⟨1, 56, none⟩)]))
theorem ErrT.below {w w' : World} (h : ErrT w) (hb : Below w.heap.size w w') : ErrT w' := (hb.cell (p := ⟨0, 0, none⟩) (World.block_lt_of_cell? _ _ h)).trans h
theorem errV_zero {q : Pg} (h : (ctRes q).1 = 0) : ctRes q = (0, 0) := by
  unfold ctRes at h ⊢
  by_cases hp : pgOkB q = true
  · rw [if_pos hp] at h ⊢
    split at h
    · next i hi =>
      have := List.find?_some hi
      simp at this
      exact absurd h this
    · rfl
  · rw [if_neg hp] at h; exact absurd h (by simp)
theorem iCheckTypesC (q : Pg) (v0 v1 : Value) (w : World) (h0 : RowRd 3 TpEl w v0 q.types) (h1 : RowRd 6 NdEl w v1 q.nodes) (hz : bPg q ≤ 1048576) (hE : ErrT w) :
    Calls Tryz.prog 7 #[.agg #[v0, v1]] w fun e w' => e = .returned (.tuple #[.int .i64 (ctRes q).1, .int .i64 (ctRes q).2]) ∧ Below w.heap.size w w' := by
  have hl : q.types.length ≤ 1048576 := by have := hz; simp only [bPg] at this; have h1 := bulkL_len bTp q.types; omega
  have hC := fun (W : World) (hK : Kept w W) => iCheckTypes q v0 v1 W (h0.kept TpEl.st hK) (h1.kept NdEl.st hK) hl
  obtain ⟨p, cap, rfl, _, -⟩ := h0.form
  obtain ⟨pn, cn, rfl, _, -⟩ := h1.form
  clear h0 h1 hz hl
  have hzero := @errV_zero q
  generalize ctRes q = r at *
  obtain ⟨c, a⟩ := r
  by_cases h : c = 0
  · obtain ⟨rfl, rfl⟩ : c = 0 ∧ a = 0 := by have := hzero h; simpa using this
    have hC0 := fun (W : World) (hK : Kept w W) => (show Calls Tryz.prog 18 #[.agg #[.slice p q.types.length cap, .slice pn q.nodes.length cn]] W fun e w' => e = .returned .nilIface ∧ Below W.heap.size W w' from hC W hK)
    clear hC hzero h
    go_enter Tryz.func7, Tryz.ntmps7
    go_wp2_with fail
    refine (hC0 _ (Kept.alloc _ _)).mono ?_
    rintro e w1 ⟨rfl, hb1⟩
    go_wp2_with fail
    refine (iCodeOf_nil _).mono ?_
    rintro e w2 ⟨rfl, hb2⟩
    go_wp2
    go_ret2
    exact ⟨rfl, below_tr (below_tr (Joins.below_alloc1 w _) hb1) hb2⟩
  · have hC0 := fun (W : World) (hK : Kept w W) => (show Calls Tryz.prog 18 #[.agg #[.slice p q.types.length cap, .slice pn q.nodes.length cn]] W fun e w' => e = .returned (.iface 79 (.agg #[.int .i64 c, .int .i64 a])) ∧ Below W.heap.size W w' from
      (hC W hK).mono fun e w' h1 => ⟨by rw [h1.1, errV, if_neg h], h1.2⟩)
    clear hC hzero h
    go_enter Tryz.func7, Tryz.ntmps7
    go_wp2_with fail
    refine (hC0 _ (Kept.alloc _ _)).mono ?_
    rintro e w1 ⟨rfl, hb1⟩
    have B1 : Below w.heap.size w w1 := below_tr (Joins.below_alloc1 w _) hb1
    go_wp2_with fail
    refine (iCodeOf c a _ (hE.below B1)).mono ?_
    rintro e w2 ⟨rfl, hb2⟩
    go_wp2
    go_ret2
    exact ⟨rfl, below_tr B1 hb2⟩

theorem err_global : Tryz.prog.globalNamed "errors.errorType" = some 0 := by kernel_rfl
theorem err_rtype : (Tryz.prog.cutTypes.find? (·.1 == "internal/reflectlite.rtype")).map (·.2) = some 147 := by kernel_rfl
theorem err_row : ((List.range 235).filter fun t => Tryz.prog.rowNamed t [101, 114, 114, 111, 114]) = [56] := by kernel_rfl
theorem err_size : Tryz.prog.types.size = 235 := by kernel_rfl
theorem errT_of {W : World} (h : laidMetH Tryz.prog [("errors.errorType", Rows.laid_errors_errorType)] W) : ErrT W := by
  have h' : laidMet Tryz.prog [] W ∧ handlesMet Tryz.prog [("errors.errorType", Rows.laid_errors_errorType)] W := h
  obtain ⟨name, u, ty, e1, e2, e3, e4, e5⟩ := h'.2 _ (List.mem_singleton.2 rfl)
  have en : name = [101, 114, 114, 111, 114] := (Option.some.inj e1).symm
  subst en
  obtain rfl := Option.some.inj (err_rtype.symm.trans e2)
  have hm : ty ∈ (List.range 235).filter fun t => Tryz.prog.rowNamed t [101, 114, 114, 111, 114] := List.mem_filter.2 ⟨List.mem_range.2 (by rw [← err_size]; exact e3), e4⟩
  rw [err_row] at hm
  obtain rfl := List.mem_singleton.1 hm
  have hh : typeHandle Tryz.prog 56 = .pointer (some ⟨1, 56, none⟩) := by kernel_rfl
  rw [hh] at e5
  have := World.var?_cell err_global e5 0
  unfold ErrT
  simpa using this
end Go.Proofs.YthghgbdpokplhaaGreatDoor
