/- The model's check of a node: constructors and recursion. -/
import Derived.Test.YtilincaedjhnpaaGreatOkU
namespace Go.Proofs.YtilincaedjhnpaaGreat
set_option linter.unusedVariables false
set_option maxRecDepth 100000
open Go.ChangeShapes Go.WideShapes Go.ChangeAt Go.RowKit

set_option maxHeartbeats 8000000 in
theorem sNode_k8 (vt vn : Value) (at_ : Int) (s : ByteArray) (kids : List Int) (pats : List (List PN)) (nodes : List Nd) (uk up : Value) (w : World)
    (ht : ∃ pt nt ct, vt = .slice pt nt ct) (hn : RowRd 6 NdEl w vn nodes) (hk : RowRd 1 IntEl w uk kids) (hp : RowRd 1 PatEl w up pats) (hs : s.size ≤ maxLen) (hh : NdHead ⟨8, at_, 0, s, kids, pats⟩) :
    Calls Tryz.prog 27 #[.agg #[vt, vn], .agg #[.int .i64 8, .int .i64 at_, .int .i64 0, .string s, uk, up]] w fun e w' => e = .returned (.bool (propB (NdOkP nodes ⟨8, at_, 0, s, kids, pats⟩))) ∧ Below w.heap.size w w' := by
  have hn0 := hn
  have hp0 := hp
  obtain ⟨pt, nt, ct, rfl⟩ := ht
  obtain ⟨pn, cn, rfl, hmn, hnf⟩ := hn.form
  obtain ⟨bk, ck, rfl, hmk, hkf⟩ := hk.form
  obtain ⟨bp, cp, rfl, hmp, hpf⟩ := hp.form
  clear hn hk hp
  unfold maxLen at hmn hmk hmp
  have HH := Lib.hid hh
  simp only [NdHead] at hh
  have d1 : decide (at_ < 0) = false := by simp; omega
  have f1 : ¬ at_ < 0 := by omega
  clear hh
  go_enter Tryz.func27, Tryz.ntmps27
  go_wp2
  go_loop [46] (fun i => ∃ m : Nat, i = .int .i64 m ∧ m ≤ kids.length ∧ ∀ j (hj : j < m) (h : j < kids.length), 0 ≤ kids[j] ∧ kids[j] < nodes.length) (fun i => kids.length - (intOf i).toNat)
  case atStart => exact ⟨0, rfl, Nat.zero_le _, fun j hj => absurd hj (by omega)⟩
  case round =>
    obtain ⟨m, rfl, hm, hall⟩ := hrel
    have HA := Lib.hid hall
    clear hall
    by_cases hlt : m < kids.length
    · obtain ⟨b2, o2, rfl, hb2, hc2⟩ := hkf (by omega)
      obtain ⟨g0, j0, j1⟩ := hc2 m hlt
      rw [Nat.mul_one] at g0
      clear hc2 hkf
      obtain ⟨y, hy⟩ : ∃ y, y = kids[m] := ⟨_, rfl⟩
      rw [← hy] at g0 j0 j1
      have hmem : y ∈ kids := by rw [hy]; exact List.getElem_mem _
      have HY := Lib.hid hy
      clear hy
      by_cases h0 : y < 0
      · have HB := Lib.hid (propB_f (fun h : NdOkP nodes ⟨8, at_, 0, s, kids, pats⟩ => by have := (h.2.1 y hmem).1; omega))
        clear hmem
        go_wp2
        go_ret
        exact ⟨ret_bool HB.out.symm, Joins.below_alloc2 w _ _⟩
      · by_cases h1 : (nodes.length : Int) ≤ y
        · have HB := Lib.hid (propB_f (fun h : NdOkP nodes ⟨8, at_, 0, s, kids, pats⟩ => by have := (h.2.1 y hmem).2; omega))
          clear hmem
          go_wp2
          go_ret
          exact ⟨ret_bool HB.out.symm, Joins.below_alloc2 w _ _⟩
        · clear hmem
          go_wp2
          go_round
          case rel => exact ⟨m + 1, by go_num, by omega, fun j hj h => by
              by_cases he : j = m
              · subst he; rw [← HY.out]; exact ⟨by omega, by omega⟩
              · exact HA.out j (by omega) h⟩
          case measure => simp [intOf]; omega
    · obtain rfl : m = kids.length := by omega
      have hall : ∀ k ∈ kids, 0 ≤ k ∧ k < nodes.length := fun k hk => by
        obtain ⟨i, hi, rfl⟩ := List.getElem_of_mem hk
        exact HA.out i hi hi
      have HAll := Lib.hid hall
      clear hall HA
      have HP := Lib.hid (nd_rec HH.out HAll.out)
      go_wp2_with fail
      refine (sNameOk _ _ hs).mono ?_
      rintro e w1 ⟨rfl, hb1⟩
      obtain ⟨hc1, hf1⟩ := bcell hb1
      have hs1 := hb1.size
      simp at hs1
      have B1 : Below w.heap.size w w1 := below_tr (Joins.below_alloc2 w _ _) hb1
      cases hx : nameB s
      · have HQ := Lib.hid (propB_f (fun h => by have := (HP.out.1 h).1; rw [hx] at this; cases this))
        clear hx
        go_wp2
        go_ret
        exact ⟨ret_bool HQ.out.symm, B1⟩
      · have c0 : w1.cell? ⟨w.heap.size + 1, 0, none⟩ = some (.int .i64 8) := by rw [hc1 _ _ (by simp)]; simp
        have c4 : w1.cell? ⟨w.heap.size + 1, 4, none⟩ = some (.slice bk kids.length ck) := by rw [hc1 _ _ (by simp)]; simp
        have c5 : w1.cell? ⟨w.heap.size + 1, 5, none⟩ = some (.slice bp pats.length cp) := by rw [hc1 _ _ (by simp)]; simp
        have p1 : w1.cell? ⟨w.heap.size, 1, none⟩ = some (.slice pn nodes.length cn) := by rw [hc1 _ _ (by simp; omega)]; simp
        have HX := Lib.hid hx
        clear hc1 hf1 hx
        have hK1 : Kept w w1 := (Kept.al2 _ _ _).trans (Kept.of_below hb1)
        by_cases h2 : kids.length = 2
        · have h2a : ((kids.length : Int) != 2) = false := by simp [h2]
          have h2b : ((kids.length : Int) == 2) = true := by simp [h2]
          obtain ⟨b2, o2, rfl, hb2, hc2⟩ := hkf (by omega)
          obtain ⟨g0, j0, j1⟩ := IntEl.st w w1 b2 _ _ hK1 hb2 (hc2 0 (by omega))
          simp only [Nat.zero_mul, Nat.add_zero] at g0
          clear hc2 hkf
          obtain ⟨y, hy⟩ : ∃ y, y = kids[0]'(by omega) := ⟨_, rfl⟩
          have hr := HAll.out y (by rw [hy]; exact List.getElem_mem _)
          rw [← hy] at g0 j0 j1
          obtain ⟨m, rfl⟩ : ∃ m : Nat, y = m := ⟨y.toNat, by omega⟩
          have hm : m < nodes.length := by omega
          obtain ⟨bq, oq, rfl, hbq, hcq⟩ := hnf (by omega)
          obtain ⟨⟨q0, l0⟩, -⟩ := NdEl.st w w1 bq _ _ hK1 hbq (hcq m hm)
          clear hcq hnf
          obtain ⟨kk, hkk⟩ : ∃ kk, kk = nodes[m].kind := ⟨_, rfl⟩
          rw [← hkk] at q0 l0
          have hfk : firstKind nodes kids = some kk := by rw [hkk]; exact first_at (by omega) hm hy
          have HFK := Lib.hid hfk
          have dm : decide (m < nodes.length) = true := by simpa using hm
          have hk0 : 0 < kids.length := by omega
          have hr' := hr.1
          clear hy hkk hfk hr
          by_cases h5 : kk = 5
          · have h5a : (kk != 5) = false := by simp [h5]
            have h5b : (kk == 5) = true := by simp [h5]
            by_cases hz : pats.length = 0
            · have hz1 : ((pats.length : Int) == 0) = true := by simpa using hz
              have HQ := Lib.hid (show NdOkP nodes ⟨8, at_, 0, s, kids, pats⟩ ↔ (kids.length : Int) = kidsN 8 from HP.out.trans ⟨fun h => by rw [h2]; decide, fun h => ⟨HX.out, h2, by rw [HFK.out, h5], nil_of_len hz⟩⟩)
              clear hz h2 h5
              go_wp2_with fail
              go_quiet (fail)
              go_wp2_with fail
              go_quiet ((go_at_call 53; first | exact still_more (sKids _ _) | exact still_one (sKids _ _)))
              go_wp2
              go_ret
              exact ⟨ret_bool (beq_prop HQ.out), below_drewN (below_drewN B1 _) _⟩
            · have hz1 : ((pats.length : Int) == 0) = false := by simpa using hz
              have HQ := Lib.hid (propB_f (fun h => ne_nil_of_len hz (HP.out.1 h).2.2.2))
              clear hz h2 h5
              go_wp2_with fail
              go_quiet (fail)
              go_wp2_with fail
              go_quiet (fail)
              go_wp2
              go_ret
              exact ⟨ret_bool HQ.out.symm, below_drewN (below_drewN B1 _) _⟩
          · have h5a : (kk != 5) = true := by simpa using h5
            have h5b : (kk == 5) = false := by simpa using h5
            have HQ := Lib.hid (propB_f (fun h => h5 (by have := (HP.out.1 h).2.2.1; rw [HFK.out] at this; exact Option.some.inj this)))
            clear h5 h2
            go_wp2_with fail
            go_quiet (fail)
            go_wp2
            go_ret
            exact ⟨ret_bool HQ.out.symm, below_drewN B1 _⟩
        · have h2a : ((kids.length : Int) != 2) = true := by simp; omega
          have h2c : ((kids.length : Int) == 2) = false := by simp; omega
          have HQ := Lib.hid (propB_f (fun h => h2 (HP.out.1 h).2.1))
          clear h2
          go_wp2_with fail
          go_quiet (fail)
          go_wp2
          go_ret
          exact ⟨ret_bool HQ.out.symm, below_drewN B1 _⟩
set_option maxHeartbeats 8000000 in
theorem sNode_k4 (vt vn : Value) (at_ : Int) (s : ByteArray) (kids : List Int) (pats : List (List PN)) (nodes : List Nd) (uk up : Value) (w : World)
    (ht : ∃ pt nt ct, vt = .slice pt nt ct) (hn : RowRd 6 NdEl w vn nodes) (hk : RowRd 1 IntEl w uk kids) (hp : RowRd 1 PatEl w up pats) (hs : s.size ≤ maxLen) (hh : NdHead ⟨4, at_, 0, s, kids, pats⟩) :
    Calls Tryz.prog 27 #[.agg #[vt, vn], .agg #[.int .i64 4, .int .i64 at_, .int .i64 0, .string s, uk, up]] w fun e w' => e = .returned (.bool (propB (NdOkP nodes ⟨4, at_, 0, s, kids, pats⟩))) ∧ Below w.heap.size w w' := by
  have hn0 := hn
  have hp0 := hp
  obtain ⟨pt, nt, ct, rfl⟩ := ht
  obtain ⟨pn, cn, rfl, hmn, hnf⟩ := hn.form
  obtain ⟨bk, ck, rfl, hmk, hkf⟩ := hk.form
  obtain ⟨bp, cp, rfl, hmp, hpf⟩ := hp.form
  clear hn hk hp
  unfold maxLen at hmn hmk hmp
  have HH := Lib.hid hh
  simp only [NdHead] at hh
  have d1 : decide (at_ < 0) = false := by simp; omega
  have f1 : ¬ at_ < 0 := by omega
  clear hh
  go_enter Tryz.func27, Tryz.ntmps27
  go_wp2
  go_loop [46] (fun i => ∃ m : Nat, i = .int .i64 m ∧ m ≤ kids.length ∧ ∀ j (hj : j < m) (h : j < kids.length), 0 ≤ kids[j] ∧ kids[j] < nodes.length) (fun i => kids.length - (intOf i).toNat)
  case atStart => exact ⟨0, rfl, Nat.zero_le _, fun j hj => absurd hj (by omega)⟩
  case round =>
    obtain ⟨m, rfl, hm, hall⟩ := hrel
    have HA := Lib.hid hall
    clear hall
    by_cases hlt : m < kids.length
    · obtain ⟨b2, o2, rfl, hb2, hc2⟩ := hkf (by omega)
      obtain ⟨g0, j0, j1⟩ := hc2 m hlt
      rw [Nat.mul_one] at g0
      clear hc2 hkf
      obtain ⟨y, hy⟩ : ∃ y, y = kids[m] := ⟨_, rfl⟩
      rw [← hy] at g0 j0 j1
      have hmem : y ∈ kids := by rw [hy]; exact List.getElem_mem _
      have HY := Lib.hid hy
      clear hy
      by_cases h0 : y < 0
      · have HB := Lib.hid (propB_f (fun h : NdOkP nodes ⟨4, at_, 0, s, kids, pats⟩ => by have := (h.2.1 y hmem).1; omega))
        clear hmem
        go_wp2
        go_ret
        exact ⟨ret_bool HB.out.symm, Joins.below_alloc2 w _ _⟩
      · by_cases h1 : (nodes.length : Int) ≤ y
        · have HB := Lib.hid (propB_f (fun h : NdOkP nodes ⟨4, at_, 0, s, kids, pats⟩ => by have := (h.2.1 y hmem).2; omega))
          clear hmem
          go_wp2
          go_ret
          exact ⟨ret_bool HB.out.symm, Joins.below_alloc2 w _ _⟩
        · clear hmem
          go_wp2
          go_round
          case rel => exact ⟨m + 1, by go_num, by omega, fun j hj h => by
              by_cases he : j = m
              · subst he; rw [← HY.out]; exact ⟨by omega, by omega⟩
              · exact HA.out j (by omega) h⟩
          case measure => simp [intOf]; omega
    · obtain rfl : m = kids.length := by omega
      have hall : ∀ k ∈ kids, 0 ≤ k ∧ k < nodes.length := fun k hk => by
        obtain ⟨i, hi, rfl⟩ := List.getElem_of_mem hk
        exact HA.out i hi hi
      have HAll := Lib.hid hall
      clear hall HA
      have HP := Lib.hid (nd_con HH.out HAll.out)
      by_cases hz : pats.length = 0
      · have hz1 : ((pats.length : Int) == 0) = true := by simpa using hz
        by_cases h2 : kids.length = 1
        · have h2a : ((kids.length : Int) == 1) = true := by simp [h2]
          obtain ⟨b2, o2, rfl, hb2, hc2⟩ := hkf (by omega)
          obtain ⟨g0, j0, j1⟩ := IntEl.st w ((w.alloc (.cells #[.slice pt nt ct, .slice pn nodes.length cn] 31)).alloc (.cells #[.int .i64 4, .int .i64 at_, .int .i64 0, .string s, .slice (some ⟨b2, o2, none⟩) kids.length ck, .slice bp pats.length cp] 67)) b2 _ _ (Kept.al2 _ _ _) hb2 (hc2 0 (by omega))
          simp only [Nat.zero_mul, Nat.add_zero] at g0
          clear hc2 hkf
          obtain ⟨y, hy⟩ : ∃ y, y = kids[0]'(by omega) := ⟨_, rfl⟩
          have hr := HAll.out y (by rw [hy]; exact List.getElem_mem _)
          rw [← hy] at g0 j0 j1
          obtain ⟨m, rfl⟩ : ∃ m : Nat, y = m := ⟨y.toNat, by omega⟩
          have hm : m < nodes.length := by omega
          obtain ⟨bq, oq, rfl, hbq, hcq⟩ := hnf (by omega)
          obtain ⟨⟨q0, l0⟩, -⟩ := NdEl.st w ((w.alloc (.cells #[.slice pt nt ct, .slice (some ⟨bq, oq, none⟩) nodes.length cn] 31)).alloc (.cells #[.int .i64 4, .int .i64 at_, .int .i64 0, .string s, .slice (some ⟨b2, o2, none⟩) kids.length ck, .slice bp pats.length cp] 67)) bq _ _ (Kept.al2 _ _ _) hbq (hcq m hm)
          clear hcq hnf
          obtain ⟨kk, hkk⟩ : ∃ kk, kk = nodes[m].kind := ⟨_, rfl⟩
          rw [← hkk] at q0 l0
          have hfk : firstKind nodes kids = some kk := by rw [hkk]; exact first_at (by omega) hm hy
          have HFK := Lib.hid hfk
          have dm : decide (m < nodes.length) = true := by simpa using hm
          have hk0 : 0 < kids.length := by omega
          have hr' := hr.1
          clear hy hkk hfk hr
          by_cases h5 : kk = 11
          · have h5a : (kk == 11) = true := by simp [h5]
            have HW := Lib.hid (show (decide (kids.length = 1) && decide (firstKind nodes kids = some 11)) = true from by rw [HFK.out, h5]; simp [h2])
            clear h2 h5
            have HQ := Lib.hid (show propB (NdOkP nodes ⟨4, at_, 0, s, kids, pats⟩) = conOkB s (kids.length : Int) true from by
              by_cases hb : conOkB s (kids.length : Int) true = true
              · rw [hb]; exact propB_t (HP.out.2 ⟨nil_of_len hz, by rw [HW.out]; exact hb⟩)
              · rw [Bool.not_eq_true] at hb; rw [hb]; exact propB_f (fun h => by have := (HP.out.1 h).2; rw [HW.out, hb] at this; cases this))
            clear hz
            go_wp2_with fail
            go_quiet ((go_at_call 51; first | exact still_more (sConOk4 _ _ _ _ hs (by omega)) | exact still_one (sConOk4 _ _ _ _ hs (by omega))))
            go_wp2
            go_ret
            exact ⟨ret_bool HQ.out.symm, below_drewN (Joins.below_alloc2 w _ _) _⟩
          · have h5a : (kk == 11) = false := by simpa using h5
            have HW := Lib.hid (show (decide (kids.length = 1) && decide (firstKind nodes kids = some 11)) = false from by rw [HFK.out]; simp [h5])
            clear h2 h5
            have HQ := Lib.hid (show propB (NdOkP nodes ⟨4, at_, 0, s, kids, pats⟩) = conOkB s (kids.length : Int) false from by
              by_cases hb : conOkB s (kids.length : Int) false = true
              · rw [hb]; exact propB_t (HP.out.2 ⟨nil_of_len hz, by rw [HW.out]; exact hb⟩)
              · rw [Bool.not_eq_true] at hb; rw [hb]; exact propB_f (fun h => by have := (HP.out.1 h).2; rw [HW.out, hb] at this; cases this))
            clear hz
            go_wp2_with fail
            go_quiet ((go_at_call 51; first | exact still_more (sConOk4 _ _ _ _ hs (by omega)) | exact still_one (sConOk4 _ _ _ _ hs (by omega))))
            go_wp2
            go_ret
            exact ⟨ret_bool HQ.out.symm, below_drewN (Joins.below_alloc2 w _ _) _⟩
        · have h2a : ((kids.length : Int) == 1) = false := by simp; omega
          have HW := Lib.hid (show (decide (kids.length = 1) && decide (firstKind nodes kids = some 11)) = false from by simp [h2])
          clear h2
          have HQ := Lib.hid (show propB (NdOkP nodes ⟨4, at_, 0, s, kids, pats⟩) = conOkB s (kids.length : Int) false from by
            by_cases hb : conOkB s (kids.length : Int) false = true
            · rw [hb]; exact propB_t (HP.out.2 ⟨nil_of_len hz, by rw [HW.out]; exact hb⟩)
            · rw [Bool.not_eq_true] at hb; rw [hb]; exact propB_f (fun h => by have := (HP.out.1 h).2; rw [HW.out, hb] at this; cases this))
          clear hz
          go_wp2_with fail
          go_quiet ((go_at_call 51; first | exact still_more (sConOk4 _ _ _ _ hs (by omega)) | exact still_one (sConOk4 _ _ _ _ hs (by omega))))
          go_wp2
          go_ret
          exact ⟨ret_bool HQ.out.symm, below_drewN (Joins.below_alloc2 w _ _) _⟩
      · have hz1 : ((pats.length : Int) == 0) = false := by simpa using hz
        have HQ := Lib.hid (propB_f (fun h => ne_nil_of_len hz (HP.out.1 h).1))
        clear hz
        go_wp2_with fail
        go_quiet (fail)
        go_wp2
        go_ret
        exact ⟨ret_bool HQ.out.symm, below_drewN (Joins.below_alloc2 w _ _) _⟩
end Go.Proofs.YtilincaedjhnpaaGreat
