/- The model's check of a node: the kinds with a name or an operator. -/
import Derived.Test.YtilincaedjhnpaaGreatOkT
namespace Go.Proofs.YtilincaedjhnpaaGreat
set_option linter.unusedVariables false
set_option maxRecDepth 100000
open Go.ChangeShapes Go.WideShapes Go.ChangeAt Go.RowKit

set_option maxHeartbeats 8000000 in
theorem sNode_k3 (vt vn : Value) (at_ : Int) (s : ByteArray) (kids : List Int) (pats : List (List PN)) (nodes : List Nd) (uk up : Value) (w : World)
    (ht : ∃ pt nt ct, vt = .slice pt nt ct) (hn : RowRd 6 NdEl w vn nodes) (hk : RowRd 1 IntEl w uk kids) (hp : RowRd 1 PatEl w up pats) (hs : s.size ≤ maxLen) (hh : NdHead ⟨3, at_, 0, s, kids, pats⟩) :
    Calls Tryz.prog 27 #[.agg #[vt, vn], .agg #[.int .i64 3, .int .i64 at_, .int .i64 0, .string s, uk, up]] w fun e w' => e = .returned (.bool (propB (NdOkP nodes ⟨3, at_, 0, s, kids, pats⟩))) ∧ Below w.heap.size w w' := by
  have hn0 := hn
  have hp0 := hp
  obtain ⟨pt, nt, ct, rfl⟩ := ht
  obtain ⟨pn, cn, rfl, hmn, hnf⟩ := hn.form
  obtain ⟨bk, ck, rfl, hmk, hkf⟩ := hk.form
  obtain ⟨bp, cp, rfl, hmp, hpf⟩ := hp.form
  clear hn hk hp
  unfold maxLen at hmn hmk hmp
  have HH := Lib.hid hh
  simp only [NdHead] at hh
  have d1 : decide (at_ < 0) = false := by simp; omega
  have f1 : ¬ at_ < 0 := by omega
  clear hh
  go_enter Tryz.func27, Tryz.ntmps27
  go_wp2
  go_loop [46] (fun i => ∃ m : Nat, i = .int .i64 m ∧ m ≤ kids.length ∧ ∀ j (hj : j < m) (h : j < kids.length), 0 ≤ kids[j] ∧ kids[j] < nodes.length) (fun i => kids.length - (intOf i).toNat)
  case atStart => exact ⟨0, rfl, Nat.zero_le _, fun j hj => absurd hj (by omega)⟩
  case round =>
    obtain ⟨m, rfl, hm, hall⟩ := hrel
    have HA := Lib.hid hall
    clear hall
    by_cases hlt : m < kids.length
    · obtain ⟨b2, o2, rfl, hb2, hc2⟩ := hkf (by omega)
      obtain ⟨g0, j0, j1⟩ := hc2 m hlt
      rw [Nat.mul_one] at g0
      clear hc2 hkf
      obtain ⟨y, hy⟩ : ∃ y, y = kids[m] := ⟨_, rfl⟩
      rw [← hy] at g0 j0 j1
      have hmem : y ∈ kids := by rw [hy]; exact List.getElem_mem _
      have HY := Lib.hid hy
      clear hy
      by_cases h0 : y < 0
      · have HB := Lib.hid (propB_f (fun h : NdOkP nodes ⟨3, at_, 0, s, kids, pats⟩ => by have := (h.2.1 y hmem).1; omega))
        clear hmem
        go_wp2
        go_ret
        exact ⟨ret_bool HB.out.symm, Joins.below_alloc2 w _ _⟩
      · by_cases h1 : (nodes.length : Int) ≤ y
        · have HB := Lib.hid (propB_f (fun h : NdOkP nodes ⟨3, at_, 0, s, kids, pats⟩ => by have := (h.2.1 y hmem).2; omega))
          clear hmem
          go_wp2
          go_ret
          exact ⟨ret_bool HB.out.symm, Joins.below_alloc2 w _ _⟩
        · clear hmem
          go_wp2
          go_round
          case rel => exact ⟨m + 1, by go_num, by omega, fun j hj h => by
              by_cases he : j = m
              · subst he; rw [← HY.out]; exact ⟨by omega, by omega⟩
              · exact HA.out j (by omega) h⟩
          case measure => simp [intOf]; omega
    · obtain rfl : m = kids.length := by omega
      have hall : ∀ k ∈ kids, 0 ≤ k ∧ k < nodes.length := fun k hk => by
        obtain ⟨i, hi, rfl⟩ := List.getElem_of_mem hk
        exact HA.out i hi hi
      have HAll := Lib.hid hall
      clear hall HA
      have HP := Lib.hid (nd_named HH.out HAll.out (by simp [namedK]) (by decide))
      go_wp2_with fail
      refine (sNameOk _ _ hs).mono ?_
      rintro e w1 ⟨rfl, hb1⟩
      obtain ⟨hc1, hf1⟩ := bcell hb1
      have hs1 := hb1.size
      simp at hs1
      have B1 : Below w.heap.size w w1 := below_tr (Joins.below_alloc2 w _ _) hb1
      cases hx : nameB s
      · have HQ := Lib.hid (propB_f (fun h => by have := (HP.out.1 h).1; rw [hx] at this; cases this))
        clear hx
        go_wp2
        go_ret
        exact ⟨ret_bool HQ.out.symm, B1⟩
      · have c0 : w1.cell? ⟨w.heap.size + 1, 0, none⟩ = some (.int .i64 3) := by rw [hc1 _ _ (by simp)]; simp
        have c4 : w1.cell? ⟨w.heap.size + 1, 4, none⟩ = some (.slice bk kids.length ck) := by rw [hc1 _ _ (by simp)]; simp
        have c5 : w1.cell? ⟨w.heap.size + 1, 5, none⟩ = some (.slice bp pats.length cp) := by rw [hc1 _ _ (by simp)]; simp
        have p1 : w1.cell? ⟨w.heap.size, 1, none⟩ = some (.slice pn nodes.length cn) := by rw [hc1 _ _ (by simp; omega)]; simp
        have HX := Lib.hid hx
        clear hc1 hf1 hx
        by_cases hz : pats.length = 0
        · have hz1 : ((pats.length : Int) == 0) = true := by simpa using hz
          have HQ := Lib.hid (show NdOkP nodes ⟨3, at_, 0, s, kids, pats⟩ ↔ (kids.length : Int) = kidsN 3 from HP.out.trans ⟨fun h => h.2.2, fun h => ⟨HX.out, nil_of_len hz, h⟩⟩)
          clear hz
          go_wp2_with fail
          go_quiet (fail)
          go_wp2_with fail
          go_quiet ((go_at_call 53; first | exact still_more (sKids _ _) | exact still_one (sKids _ _)))
          go_wp2
          go_ret
          exact ⟨ret_bool (beq_prop HQ.out), below_drewN (below_drewN (B1) _) _⟩
        · have hz1 : ((pats.length : Int) == 0) = false := by simpa using hz
          have HQ := Lib.hid (propB_f (fun h => ne_nil_of_len hz (HP.out.1 h).2.1))
          clear hz
          go_wp2_with fail
          go_quiet (fail)
          go_wp2_with fail
          go_quiet (fail)
          go_wp2
          go_ret
          exact ⟨ret_bool HQ.out.symm, below_drewN (below_drewN (B1) _) _⟩
set_option maxHeartbeats 8000000 in
theorem sNode_k5 (vt vn : Value) (at_ : Int) (s : ByteArray) (kids : List Int) (pats : List (List PN)) (nodes : List Nd) (uk up : Value) (w : World)
    (ht : ∃ pt nt ct, vt = .slice pt nt ct) (hn : RowRd 6 NdEl w vn nodes) (hk : RowRd 1 IntEl w uk kids) (hp : RowRd 1 PatEl w up pats) (hs : s.size ≤ maxLen) (hh : NdHead ⟨5, at_, 0, s, kids, pats⟩) :
    Calls Tryz.prog 27 #[.agg #[vt, vn], .agg #[.int .i64 5, .int .i64 at_, .int .i64 0, .string s, uk, up]] w fun e w' => e = .returned (.bool (propB (NdOkP nodes ⟨5, at_, 0, s, kids, pats⟩))) ∧ Below w.heap.size w w' := by
  have hn0 := hn
  have hp0 := hp
  obtain ⟨pt, nt, ct, rfl⟩ := ht
  obtain ⟨pn, cn, rfl, hmn, hnf⟩ := hn.form
  obtain ⟨bk, ck, rfl, hmk, hkf⟩ := hk.form
  obtain ⟨bp, cp, rfl, hmp, hpf⟩ := hp.form
  clear hn hk hp
  unfold maxLen at hmn hmk hmp
  have HH := Lib.hid hh
  simp only [NdHead] at hh
  have d1 : decide (at_ < 0) = false := by simp; omega
  have f1 : ¬ at_ < 0 := by omega
  clear hh
  go_enter Tryz.func27, Tryz.ntmps27
  go_wp2
  go_loop [46] (fun i => ∃ m : Nat, i = .int .i64 m ∧ m ≤ kids.length ∧ ∀ j (hj : j < m) (h : j < kids.length), 0 ≤ kids[j] ∧ kids[j] < nodes.length) (fun i => kids.length - (intOf i).toNat)
  case atStart => exact ⟨0, rfl, Nat.zero_le _, fun j hj => absurd hj (by omega)⟩
  case round =>
    obtain ⟨m, rfl, hm, hall⟩ := hrel
    have HA := Lib.hid hall
    clear hall
    by_cases hlt : m < kids.length
    · obtain ⟨b2, o2, rfl, hb2, hc2⟩ := hkf (by omega)
      obtain ⟨g0, j0, j1⟩ := hc2 m hlt
      rw [Nat.mul_one] at g0
      clear hc2 hkf
      obtain ⟨y, hy⟩ : ∃ y, y = kids[m] := ⟨_, rfl⟩
      rw [← hy] at g0 j0 j1
      have hmem : y ∈ kids := by rw [hy]; exact List.getElem_mem _
      have HY := Lib.hid hy
      clear hy
      by_cases h0 : y < 0
      · have HB := Lib.hid (propB_f (fun h : NdOkP nodes ⟨5, at_, 0, s, kids, pats⟩ => by have := (h.2.1 y hmem).1; omega))
        clear hmem
        go_wp2
        go_ret
        exact ⟨ret_bool HB.out.symm, Joins.below_alloc2 w _ _⟩
      · by_cases h1 : (nodes.length : Int) ≤ y
        · have HB := Lib.hid (propB_f (fun h : NdOkP nodes ⟨5, at_, 0, s, kids, pats⟩ => by have := (h.2.1 y hmem).2; omega))
          clear hmem
          go_wp2
          go_ret
          exact ⟨ret_bool HB.out.symm, Joins.below_alloc2 w _ _⟩
        · clear hmem
          go_wp2
          go_round
          case rel => exact ⟨m + 1, by go_num, by omega, fun j hj h => by
              by_cases he : j = m
              · subst he; rw [← HY.out]; exact ⟨by omega, by omega⟩
              · exact HA.out j (by omega) h⟩
          case measure => simp [intOf]; omega
    · obtain rfl : m = kids.length := by omega
      have hall : ∀ k ∈ kids, 0 ≤ k ∧ k < nodes.length := fun k hk => by
        obtain ⟨i, hi, rfl⟩ := List.getElem_of_mem hk
        exact HA.out i hi hi
      have HAll := Lib.hid hall
      clear hall HA
      have HP := Lib.hid (nd_named HH.out HAll.out (by simp [namedK]) (by decide))
      go_wp2_with fail
      refine (sNameOk _ _ hs).mono ?_
      rintro e w1 ⟨rfl, hb1⟩
      obtain ⟨hc1, hf1⟩ := bcell hb1
      have hs1 := hb1.size
      simp at hs1
      have B1 : Below w.heap.size w w1 := below_tr (Joins.below_alloc2 w _ _) hb1
      cases hx : nameB s
      · have HQ := Lib.hid (propB_f (fun h => by have := (HP.out.1 h).1; rw [hx] at this; cases this))
        clear hx
        go_wp2
        go_ret
        exact ⟨ret_bool HQ.out.symm, B1⟩
      · have c0 : w1.cell? ⟨w.heap.size + 1, 0, none⟩ = some (.int .i64 5) := by rw [hc1 _ _ (by simp)]; simp
        have c4 : w1.cell? ⟨w.heap.size + 1, 4, none⟩ = some (.slice bk kids.length ck) := by rw [hc1 _ _ (by simp)]; simp
        have c5 : w1.cell? ⟨w.heap.size + 1, 5, none⟩ = some (.slice bp pats.length cp) := by rw [hc1 _ _ (by simp)]; simp
        have p1 : w1.cell? ⟨w.heap.size, 1, none⟩ = some (.slice pn nodes.length cn) := by rw [hc1 _ _ (by simp; omega)]; simp
        have HX := Lib.hid hx
        clear hc1 hf1 hx
        by_cases hz : pats.length = 0
        · have hz1 : ((pats.length : Int) == 0) = true := by simpa using hz
          have HQ := Lib.hid (show NdOkP nodes ⟨5, at_, 0, s, kids, pats⟩ ↔ (kids.length : Int) = kidsN 5 from HP.out.trans ⟨fun h => h.2.2, fun h => ⟨HX.out, nil_of_len hz, h⟩⟩)
          clear hz
          go_wp2_with fail
          go_quiet (fail)
          go_wp2_with fail
          go_quiet ((go_at_call 53; first | exact still_more (sKids _ _) | exact still_one (sKids _ _)))
          go_wp2
          go_ret
          exact ⟨ret_bool (beq_prop HQ.out), below_drewN (below_drewN (B1) _) _⟩
        · have hz1 : ((pats.length : Int) == 0) = false := by simpa using hz
          have HQ := Lib.hid (propB_f (fun h => ne_nil_of_len hz (HP.out.1 h).2.1))
          clear hz
          go_wp2_with fail
          go_quiet (fail)
          go_wp2_with fail
          go_quiet (fail)
          go_wp2
          go_ret
          exact ⟨ret_bool HQ.out.symm, below_drewN (below_drewN (B1) _) _⟩
set_option maxHeartbeats 8000000 in
theorem sNode_k7 (vt vn : Value) (at_ : Int) (s : ByteArray) (kids : List Int) (pats : List (List PN)) (nodes : List Nd) (uk up : Value) (w : World)
    (ht : ∃ pt nt ct, vt = .slice pt nt ct) (hn : RowRd 6 NdEl w vn nodes) (hk : RowRd 1 IntEl w uk kids) (hp : RowRd 1 PatEl w up pats) (hs : s.size ≤ maxLen) (hh : NdHead ⟨7, at_, 0, s, kids, pats⟩) :
    Calls Tryz.prog 27 #[.agg #[vt, vn], .agg #[.int .i64 7, .int .i64 at_, .int .i64 0, .string s, uk, up]] w fun e w' => e = .returned (.bool (propB (NdOkP nodes ⟨7, at_, 0, s, kids, pats⟩))) ∧ Below w.heap.size w w' := by
  have hn0 := hn
  have hp0 := hp
  obtain ⟨pt, nt, ct, rfl⟩ := ht
  obtain ⟨pn, cn, rfl, hmn, hnf⟩ := hn.form
  obtain ⟨bk, ck, rfl, hmk, hkf⟩ := hk.form
  obtain ⟨bp, cp, rfl, hmp, hpf⟩ := hp.form
  clear hn hk hp
  unfold maxLen at hmn hmk hmp
  have HH := Lib.hid hh
  simp only [NdHead] at hh
  have d1 : decide (at_ < 0) = false := by simp; omega
  have f1 : ¬ at_ < 0 := by omega
  clear hh
  go_enter Tryz.func27, Tryz.ntmps27
  go_wp2
  go_loop [46] (fun i => ∃ m : Nat, i = .int .i64 m ∧ m ≤ kids.length ∧ ∀ j (hj : j < m) (h : j < kids.length), 0 ≤ kids[j] ∧ kids[j] < nodes.length) (fun i => kids.length - (intOf i).toNat)
  case atStart => exact ⟨0, rfl, Nat.zero_le _, fun j hj => absurd hj (by omega)⟩
  case round =>
    obtain ⟨m, rfl, hm, hall⟩ := hrel
    have HA := Lib.hid hall
    clear hall
    by_cases hlt : m < kids.length
    · obtain ⟨b2, o2, rfl, hb2, hc2⟩ := hkf (by omega)
      obtain ⟨g0, j0, j1⟩ := hc2 m hlt
      rw [Nat.mul_one] at g0
      clear hc2 hkf
      obtain ⟨y, hy⟩ : ∃ y, y = kids[m] := ⟨_, rfl⟩
      rw [← hy] at g0 j0 j1
      have hmem : y ∈ kids := by rw [hy]; exact List.getElem_mem _
      have HY := Lib.hid hy
      clear hy
      by_cases h0 : y < 0
      · have HB := Lib.hid (propB_f (fun h : NdOkP nodes ⟨7, at_, 0, s, kids, pats⟩ => by have := (h.2.1 y hmem).1; omega))
        clear hmem
        go_wp2
        go_ret
        exact ⟨ret_bool HB.out.symm, Joins.below_alloc2 w _ _⟩
      · by_cases h1 : (nodes.length : Int) ≤ y
        · have HB := Lib.hid (propB_f (fun h : NdOkP nodes ⟨7, at_, 0, s, kids, pats⟩ => by have := (h.2.1 y hmem).2; omega))
          clear hmem
          go_wp2
          go_ret
          exact ⟨ret_bool HB.out.symm, Joins.below_alloc2 w _ _⟩
        · clear hmem
          go_wp2
          go_round
          case rel => exact ⟨m + 1, by go_num, by omega, fun j hj h => by
              by_cases he : j = m
              · subst he; rw [← HY.out]; exact ⟨by omega, by omega⟩
              · exact HA.out j (by omega) h⟩
          case measure => simp [intOf]; omega
    · obtain rfl : m = kids.length := by omega
      have hall : ∀ k ∈ kids, 0 ≤ k ∧ k < nodes.length := fun k hk => by
        obtain ⟨i, hi, rfl⟩ := List.getElem_of_mem hk
        exact HA.out i hi hi
      have HAll := Lib.hid hall
      clear hall HA
      have HP := Lib.hid (nd_named HH.out HAll.out (by simp [namedK]) (by decide))
      go_wp2_with fail
      refine (sNameOk _ _ hs).mono ?_
      rintro e w1 ⟨rfl, hb1⟩
      obtain ⟨hc1, hf1⟩ := bcell hb1
      have hs1 := hb1.size
      simp at hs1
      have B1 : Below w.heap.size w w1 := below_tr (Joins.below_alloc2 w _ _) hb1
      cases hx : nameB s
      · have HQ := Lib.hid (propB_f (fun h => by have := (HP.out.1 h).1; rw [hx] at this; cases this))
        clear hx
        go_wp2
        go_ret
        exact ⟨ret_bool HQ.out.symm, B1⟩
      · have c0 : w1.cell? ⟨w.heap.size + 1, 0, none⟩ = some (.int .i64 7) := by rw [hc1 _ _ (by simp)]; simp
        have c4 : w1.cell? ⟨w.heap.size + 1, 4, none⟩ = some (.slice bk kids.length ck) := by rw [hc1 _ _ (by simp)]; simp
        have c5 : w1.cell? ⟨w.heap.size + 1, 5, none⟩ = some (.slice bp pats.length cp) := by rw [hc1 _ _ (by simp)]; simp
        have p1 : w1.cell? ⟨w.heap.size, 1, none⟩ = some (.slice pn nodes.length cn) := by rw [hc1 _ _ (by simp; omega)]; simp
        have HX := Lib.hid hx
        clear hc1 hf1 hx
        by_cases hz : pats.length = 0
        · have hz1 : ((pats.length : Int) == 0) = true := by simpa using hz
          have HQ := Lib.hid (show NdOkP nodes ⟨7, at_, 0, s, kids, pats⟩ ↔ (kids.length : Int) = kidsN 7 from HP.out.trans ⟨fun h => h.2.2, fun h => ⟨HX.out, nil_of_len hz, h⟩⟩)
          clear hz
          go_wp2_with fail
          go_quiet (fail)
          go_wp2_with fail
          go_quiet ((go_at_call 53; first | exact still_more (sKids _ _) | exact still_one (sKids _ _)))
          go_wp2
          go_ret
          exact ⟨ret_bool (beq_prop HQ.out), below_drewN (below_drewN (B1) _) _⟩
        · have hz1 : ((pats.length : Int) == 0) = false := by simpa using hz
          have HQ := Lib.hid (propB_f (fun h => ne_nil_of_len hz (HP.out.1 h).2.1))
          clear hz
          go_wp2_with fail
          go_quiet (fail)
          go_wp2_with fail
          go_quiet (fail)
          go_wp2
          go_ret
          exact ⟨ret_bool HQ.out.symm, below_drewN (below_drewN (B1) _) _⟩
set_option maxHeartbeats 8000000 in
theorem sNode_k15 (vt vn : Value) (at_ : Int) (s : ByteArray) (kids : List Int) (pats : List (List PN)) (nodes : List Nd) (uk up : Value) (w : World)
    (ht : ∃ pt nt ct, vt = .slice pt nt ct) (hn : RowRd 6 NdEl w vn nodes) (hk : RowRd 1 IntEl w uk kids) (hp : RowRd 1 PatEl w up pats) (hs : s.size ≤ maxLen) (hh : NdHead ⟨15, at_, 0, s, kids, pats⟩) :
    Calls Tryz.prog 27 #[.agg #[vt, vn], .agg #[.int .i64 15, .int .i64 at_, .int .i64 0, .string s, uk, up]] w fun e w' => e = .returned (.bool (propB (NdOkP nodes ⟨15, at_, 0, s, kids, pats⟩))) ∧ Below w.heap.size w w' := by
  have hn0 := hn
  have hp0 := hp
  obtain ⟨pt, nt, ct, rfl⟩ := ht
  obtain ⟨pn, cn, rfl, hmn, hnf⟩ := hn.form
  obtain ⟨bk, ck, rfl, hmk, hkf⟩ := hk.form
  obtain ⟨bp, cp, rfl, hmp, hpf⟩ := hp.form
  clear hn hk hp
  unfold maxLen at hmn hmk hmp
  have HH := Lib.hid hh
  simp only [NdHead] at hh
  have d1 : decide (at_ < 0) = false := by simp; omega
  have f1 : ¬ at_ < 0 := by omega
  clear hh
  go_enter Tryz.func27, Tryz.ntmps27
  go_wp2
  go_loop [46] (fun i => ∃ m : Nat, i = .int .i64 m ∧ m ≤ kids.length ∧ ∀ j (hj : j < m) (h : j < kids.length), 0 ≤ kids[j] ∧ kids[j] < nodes.length) (fun i => kids.length - (intOf i).toNat)
  case atStart => exact ⟨0, rfl, Nat.zero_le _, fun j hj => absurd hj (by omega)⟩
  case round =>
    obtain ⟨m, rfl, hm, hall⟩ := hrel
    have HA := Lib.hid hall
    clear hall
    by_cases hlt : m < kids.length
    · obtain ⟨b2, o2, rfl, hb2, hc2⟩ := hkf (by omega)
      obtain ⟨g0, j0, j1⟩ := hc2 m hlt
      rw [Nat.mul_one] at g0
      clear hc2 hkf
      obtain ⟨y, hy⟩ : ∃ y, y = kids[m] := ⟨_, rfl⟩
      rw [← hy] at g0 j0 j1
      have hmem : y ∈ kids := by rw [hy]; exact List.getElem_mem _
      have HY := Lib.hid hy
      clear hy
      by_cases h0 : y < 0
      · have HB := Lib.hid (propB_f (fun h : NdOkP nodes ⟨15, at_, 0, s, kids, pats⟩ => by have := (h.2.1 y hmem).1; omega))
        clear hmem
        go_wp2
        go_ret
        exact ⟨ret_bool HB.out.symm, Joins.below_alloc2 w _ _⟩
      · by_cases h1 : (nodes.length : Int) ≤ y
        · have HB := Lib.hid (propB_f (fun h : NdOkP nodes ⟨15, at_, 0, s, kids, pats⟩ => by have := (h.2.1 y hmem).2; omega))
          clear hmem
          go_wp2
          go_ret
          exact ⟨ret_bool HB.out.symm, Joins.below_alloc2 w _ _⟩
        · clear hmem
          go_wp2
          go_round
          case rel => exact ⟨m + 1, by go_num, by omega, fun j hj h => by
              by_cases he : j = m
              · subst he; rw [← HY.out]; exact ⟨by omega, by omega⟩
              · exact HA.out j (by omega) h⟩
          case measure => simp [intOf]; omega
    · obtain rfl : m = kids.length := by omega
      have hall : ∀ k ∈ kids, 0 ≤ k ∧ k < nodes.length := fun k hk => by
        obtain ⟨i, hi, rfl⟩ := List.getElem_of_mem hk
        exact HA.out i hi hi
      have HAll := Lib.hid hall
      clear hall HA
      have HP := Lib.hid (nd_named HH.out HAll.out (by simp [namedK]) (by decide))
      go_wp2_with fail
      refine (sNameOk _ _ hs).mono ?_
      rintro e w1 ⟨rfl, hb1⟩
      obtain ⟨hc1, hf1⟩ := bcell hb1
      have hs1 := hb1.size
      simp at hs1
      have B1 : Below w.heap.size w w1 := below_tr (Joins.below_alloc2 w _ _) hb1
      cases hx : nameB s
      · have HQ := Lib.hid (propB_f (fun h => by have := (HP.out.1 h).1; rw [hx] at this; cases this))
        clear hx
        go_wp2
        go_ret
        exact ⟨ret_bool HQ.out.symm, B1⟩
      · have c0 : w1.cell? ⟨w.heap.size + 1, 0, none⟩ = some (.int .i64 15) := by rw [hc1 _ _ (by simp)]; simp
        have c4 : w1.cell? ⟨w.heap.size + 1, 4, none⟩ = some (.slice bk kids.length ck) := by rw [hc1 _ _ (by simp)]; simp
        have c5 : w1.cell? ⟨w.heap.size + 1, 5, none⟩ = some (.slice bp pats.length cp) := by rw [hc1 _ _ (by simp)]; simp
        have p1 : w1.cell? ⟨w.heap.size, 1, none⟩ = some (.slice pn nodes.length cn) := by rw [hc1 _ _ (by simp; omega)]; simp
        have HX := Lib.hid hx
        clear hc1 hf1 hx
        by_cases hz : pats.length = 0
        · have hz1 : ((pats.length : Int) == 0) = true := by simpa using hz
          have HQ := Lib.hid (show NdOkP nodes ⟨15, at_, 0, s, kids, pats⟩ ↔ (kids.length : Int) = kidsN 15 from HP.out.trans ⟨fun h => h.2.2, fun h => ⟨HX.out, nil_of_len hz, h⟩⟩)
          clear hz
          go_wp2_with fail
          go_quiet (fail)
          go_wp2_with fail
          go_quiet ((go_at_call 53; first | exact still_more (sKids _ _) | exact still_one (sKids _ _)))
          go_wp2
          go_ret
          exact ⟨ret_bool (beq_prop HQ.out), below_drewN (below_drewN (B1) _) _⟩
        · have hz1 : ((pats.length : Int) == 0) = false := by simpa using hz
          have HQ := Lib.hid (propB_f (fun h => ne_nil_of_len hz (HP.out.1 h).2.1))
          clear hz
          go_wp2_with fail
          go_quiet (fail)
          go_wp2_with fail
          go_quiet (fail)
          go_wp2
          go_ret
          exact ⟨ret_bool HQ.out.symm, below_drewN (below_drewN (B1) _) _⟩
set_option maxHeartbeats 8000000 in
theorem sNode_k10 (vt vn : Value) (at_ : Int) (s : ByteArray) (kids : List Int) (pats : List (List PN)) (nodes : List Nd) (uk up : Value) (w : World)
    (ht : ∃ pt nt ct, vt = .slice pt nt ct) (hn : RowRd 6 NdEl w vn nodes) (hk : RowRd 1 IntEl w uk kids) (hp : RowRd 1 PatEl w up pats) (hs : s.size ≤ maxLen) (hh : NdHead ⟨10, at_, 0, s, kids, pats⟩) :
    Calls Tryz.prog 27 #[.agg #[vt, vn], .agg #[.int .i64 10, .int .i64 at_, .int .i64 0, .string s, uk, up]] w fun e w' => e = .returned (.bool (propB (NdOkP nodes ⟨10, at_, 0, s, kids, pats⟩))) ∧ Below w.heap.size w w' := by
  have hn0 := hn
  have hp0 := hp
  obtain ⟨pt, nt, ct, rfl⟩ := ht
  obtain ⟨pn, cn, rfl, hmn, hnf⟩ := hn.form
  obtain ⟨bk, ck, rfl, hmk, hkf⟩ := hk.form
  obtain ⟨bp, cp, rfl, hmp, hpf⟩ := hp.form
  clear hn hk hp
  unfold maxLen at hmn hmk hmp
  have HH := Lib.hid hh
  simp only [NdHead] at hh
  have d1 : decide (at_ < 0) = false := by simp; omega
  have f1 : ¬ at_ < 0 := by omega
  clear hh
  go_enter Tryz.func27, Tryz.ntmps27
  go_wp2
  go_loop [46] (fun i => ∃ m : Nat, i = .int .i64 m ∧ m ≤ kids.length ∧ ∀ j (hj : j < m) (h : j < kids.length), 0 ≤ kids[j] ∧ kids[j] < nodes.length) (fun i => kids.length - (intOf i).toNat)
  case atStart => exact ⟨0, rfl, Nat.zero_le _, fun j hj => absurd hj (by omega)⟩
  case round =>
    obtain ⟨m, rfl, hm, hall⟩ := hrel
    have HA := Lib.hid hall
    clear hall
    by_cases hlt : m < kids.length
    · obtain ⟨b2, o2, rfl, hb2, hc2⟩ := hkf (by omega)
      obtain ⟨g0, j0, j1⟩ := hc2 m hlt
      rw [Nat.mul_one] at g0
      clear hc2 hkf
      obtain ⟨y, hy⟩ : ∃ y, y = kids[m] := ⟨_, rfl⟩
      rw [← hy] at g0 j0 j1
      have hmem : y ∈ kids := by rw [hy]; exact List.getElem_mem _
      have HY := Lib.hid hy
      clear hy
      by_cases h0 : y < 0
      · have HB := Lib.hid (propB_f (fun h : NdOkP nodes ⟨10, at_, 0, s, kids, pats⟩ => by have := (h.2.1 y hmem).1; omega))
        clear hmem
        go_wp2
        go_ret
        exact ⟨ret_bool HB.out.symm, Joins.below_alloc2 w _ _⟩
      · by_cases h1 : (nodes.length : Int) ≤ y
        · have HB := Lib.hid (propB_f (fun h : NdOkP nodes ⟨10, at_, 0, s, kids, pats⟩ => by have := (h.2.1 y hmem).2; omega))
          clear hmem
          go_wp2
          go_ret
          exact ⟨ret_bool HB.out.symm, Joins.below_alloc2 w _ _⟩
        · clear hmem
          go_wp2
          go_round
          case rel => exact ⟨m + 1, by go_num, by omega, fun j hj h => by
              by_cases he : j = m
              · subst he; rw [← HY.out]; exact ⟨by omega, by omega⟩
              · exact HA.out j (by omega) h⟩
          case measure => simp [intOf]; omega
    · obtain rfl : m = kids.length := by omega
      have hall : ∀ k ∈ kids, 0 ≤ k ∧ k < nodes.length := fun k hk => by
        obtain ⟨i, hi, rfl⟩ := List.getElem_of_mem hk
        exact HA.out i hi hi
      have HAll := Lib.hid hall
      clear hall HA
      have HP := Lib.hid (nd_prim HH.out HAll.out)
      go_wp2_with fail
      refine (sPrim _ _).mono ?_
      rintro e w1 ⟨rfl, hb1⟩
      obtain ⟨hc1, hf1⟩ := bcell hb1
      have hs1 := hb1.size
      simp at hs1
      have B1 : Below w.heap.size w w1 := below_tr (Joins.below_alloc2 w _ _) hb1
      cases hx : primB s
      · have HQ := Lib.hid (propB_f (fun h => by have := (HP.out.1 h).1; rw [hx] at this; cases this))
        clear hx
        go_wp2
        go_ret
        exact ⟨ret_bool HQ.out.symm, B1⟩
      · have c0 : w1.cell? ⟨w.heap.size + 1, 0, none⟩ = some (.int .i64 10) := by rw [hc1 _ _ (by simp)]; simp
        have c4 : w1.cell? ⟨w.heap.size + 1, 4, none⟩ = some (.slice bk kids.length ck) := by rw [hc1 _ _ (by simp)]; simp
        have c5 : w1.cell? ⟨w.heap.size + 1, 5, none⟩ = some (.slice bp pats.length cp) := by rw [hc1 _ _ (by simp)]; simp
        have p1 : w1.cell? ⟨w.heap.size, 1, none⟩ = some (.slice pn nodes.length cn) := by rw [hc1 _ _ (by simp; omega)]; simp
        have HX := Lib.hid hx
        clear hc1 hf1 hx
        by_cases hz : pats.length = 0
        · have hz1 : ((pats.length : Int) == 0) = true := by simpa using hz
          have HQ := Lib.hid (show NdOkP nodes ⟨10, at_, 0, s, kids, pats⟩ ↔ (kids.length : Int) = kidsN 10 from HP.out.trans ⟨fun h => h.2.2, fun h => ⟨HX.out, nil_of_len hz, h⟩⟩)
          clear hz
          go_wp2_with fail
          go_quiet (fail)
          go_wp2_with fail
          go_quiet ((go_at_call 53; first | exact still_more (sKids _ _) | exact still_one (sKids _ _)))
          go_wp2
          go_ret
          exact ⟨ret_bool (beq_prop HQ.out), below_drewN (below_drewN (B1) _) _⟩
        · have hz1 : ((pats.length : Int) == 0) = false := by simpa using hz
          have HQ := Lib.hid (propB_f (fun h => ne_nil_of_len hz (HP.out.1 h).2.1))
          clear hz
          go_wp2_with fail
          go_quiet (fail)
          go_wp2_with fail
          go_quiet (fail)
          go_wp2
          go_ret
          exact ⟨ret_bool HQ.out.symm, below_drewN (below_drewN (B1) _) _⟩
end Go.Proofs.YtilincaedjhnpaaGreat
