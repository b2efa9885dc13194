/- The model's check of a node: the kinds without a text. -/
import Derived.Test.YtilincaedjhnpaaGreatOkR
namespace Go.Proofs.YtilincaedjhnpaaGreat
set_option linter.unusedVariables false
set_option maxRecDepth 100000
open Go.ChangeShapes Go.WideShapes Go.ChangeAt Go.RowKit

set_option maxHeartbeats 8000000 in
theorem sNode_int (vt vn : Value) (at_ n : Int) (s : ByteArray) (kids : List Int) (pats : List (List PN)) (nodes : List Nd) (uk up : Value) (w : World)
    (ht : ∃ pt nt ct, vt = .slice pt nt ct) (hn : RowRd 6 NdEl w vn nodes) (hk : RowRd 1 IntEl w uk kids) (hp : RowRd 1 PatEl w up pats) (hs : s.size ≤ maxLen) (hh : NdHead ⟨1, at_, n, s, kids, pats⟩) :
    Calls Tryz.prog 27 #[.agg #[vt, vn], .agg #[.int .i64 1, .int .i64 at_, .int .i64 n, .string s, uk, up]] w fun e w' => e = .returned (.bool (propB (NdOkP nodes ⟨1, at_, n, s, kids, pats⟩))) ∧ Below w.heap.size w w' := by
  have hn0 := hn
  have hp0 := hp
  obtain ⟨pt, nt, ct, rfl⟩ := ht
  obtain ⟨pn, cn, rfl, hmn, hnf⟩ := hn.form
  obtain ⟨bk, ck, rfl, hmk, hkf⟩ := hk.form
  obtain ⟨bp, cp, rfl, hmp, hpf⟩ := hp.form
  clear hn hk hp
  unfold maxLen at hmn hmk hmp
  have HH := Lib.hid hh
  simp only [NdHead] at hh
  have d1 : decide (at_ < 0) = false := by simp; omega
  have d2 : decide (n < 0) = false := by simp; omega
  have d3 : decide (4611686018427387903 < n) = false := by simp; omega
  have f1 : ¬ at_ < 0 := by omega
  have f2 : ¬ n < 0 := by omega
  have f3 : ¬ 4611686018427387903 < n := by omega
  clear hh
  go_enter Tryz.func27, Tryz.ntmps27
  go_wp2
  go_loop [46] (fun i => ∃ m : Nat, i = .int .i64 m ∧ m ≤ kids.length ∧ ∀ j (hj : j < m) (h : j < kids.length), 0 ≤ kids[j] ∧ kids[j] < nodes.length) (fun i => kids.length - (intOf i).toNat)
  case atStart => exact ⟨0, rfl, Nat.zero_le _, fun j hj => absurd hj (by omega)⟩
  case round =>
    obtain ⟨m, rfl, hm, hall⟩ := hrel
    have HA := Lib.hid hall
    clear hall
    by_cases hlt : m < kids.length
    · obtain ⟨b2, o2, rfl, hb2, hc2⟩ := hkf (by omega)
      obtain ⟨g0, j0, j1⟩ := hc2 m hlt
      rw [Nat.mul_one] at g0
      clear hc2 hkf
      obtain ⟨y, hy⟩ : ∃ y, y = kids[m] := ⟨_, rfl⟩
      rw [← hy] at g0 j0 j1
      have hmem : y ∈ kids := by rw [hy]; exact List.getElem_mem _
      have HY := Lib.hid hy
      clear hy
      by_cases h0 : y < 0
      · have HB := Lib.hid (propB_f (fun h : NdOkP nodes ⟨1, at_, n, s, kids, pats⟩ => by have := (h.2.1 y hmem).1; omega))
        clear hmem
        go_wp2
        go_ret
        exact ⟨ret_bool HB.out.symm, Joins.below_alloc2 w _ _⟩
      · by_cases h1 : (nodes.length : Int) ≤ y
        · have HB := Lib.hid (propB_f (fun h : NdOkP nodes ⟨1, at_, n, s, kids, pats⟩ => by have := (h.2.1 y hmem).2; omega))
          clear hmem
          go_wp2
          go_ret
          exact ⟨ret_bool HB.out.symm, Joins.below_alloc2 w _ _⟩
        · clear hmem
          go_wp2
          go_round
          case rel => exact ⟨m + 1, by go_num, by omega, fun j hj h => by
              by_cases he : j = m
              · subst he; rw [← HY.out]; exact ⟨by omega, by omega⟩
              · exact HA.out j (by omega) h⟩
          case measure => simp [intOf]; omega
    · obtain rfl : m = kids.length := by omega
      have hall : ∀ k ∈ kids, 0 ≤ k ∧ k < nodes.length := fun k hk => by
        obtain ⟨i, hi, rfl⟩ := List.getElem_of_mem hk
        exact HA.out i hi hi
      have HAll := Lib.hid hall
      clear hall HA
      have HP := Lib.hid (nd_plain HH.out HAll.out (by simp [namedK]) (by decide) (by decide) (by decide) (by decide))
      by_cases he : s.toList = []
      · have he1 : s.toList.isEmpty = true := by simp [he]
        by_cases hz : pats.length = 0
        · have hz1 : ((pats.length : Int) == 0) = true := by simpa using hz
          have HQ := Lib.hid (show NdOkP nodes ⟨1, at_, n, s, kids, pats⟩ ↔ (kids.length : Int) = kidsN 1 from HP.out.trans ⟨fun h => h.2.2, fun h => ⟨he, nil_of_len hz, h⟩⟩)
          clear hz
          go_wp2_with fail
          go_quiet (fail)
          go_wp2_with fail
          go_quiet ((go_at_call 53; first | exact still_more (sKids _ _) | exact still_one (sKids _ _)))
          go_wp2
          go_ret
          exact ⟨ret_bool (beq_prop HQ.out), below_drewN (below_drewN (Joins.below_alloc2 w _ _) _) _⟩
        · have hz1 : ((pats.length : Int) == 0) = false := by simpa using hz
          have HQ := Lib.hid (propB_f (fun h => ne_nil_of_len hz (HP.out.1 h).2.1))
          clear hz
          go_wp2_with fail
          go_quiet (fail)
          go_wp2_with fail
          go_quiet (fail)
          go_wp2
          go_ret
          exact ⟨ret_bool HQ.out.symm, below_drewN (below_drewN (Joins.below_alloc2 w _ _) _) _⟩
      · have he1 : s.toList.isEmpty = false := by simpa using he
        have HQ := Lib.hid (propB_f (fun h => he (HP.out.1 h).1))
        clear he
        go_wp2
        go_ret
        exact ⟨ret_bool HQ.out.symm, Joins.below_alloc2 w _ _⟩
set_option maxHeartbeats 8000000 in
theorem sNode_plain (vt vn : Value) (kd at_ : Int) (s : ByteArray) (kids : List Int) (pats : List (List PN)) (nodes : List Nd) (uk up : Value) (w : World)
    (ht : ∃ pt nt ct, vt = .slice pt nt ct) (hn : RowRd 6 NdEl w vn nodes) (hk : RowRd 1 IntEl w uk kids) (hp : RowRd 1 PatEl w up pats) (hs : s.size ≤ maxLen) (hh : NdHead ⟨kd, at_, 0, s, kids, pats⟩) (hk1 : kd ≠ 1) (hgn : ¬ namedK kd ∧ kd ≠ 10 ∧ kd ≠ 2 ∧ kd ≠ 4 ∧ kd ≠ 13) :
    Calls Tryz.prog 27 #[.agg #[vt, vn], .agg #[.int .i64 kd, .int .i64 at_, .int .i64 0, .string s, uk, up]] w fun e w' => e = .returned (.bool (propB (NdOkP nodes ⟨kd, at_, 0, s, kids, pats⟩))) ∧ Below w.heap.size w w' := by
  have hn0 := hn
  have hp0 := hp
  obtain ⟨pt, nt, ct, rfl⟩ := ht
  obtain ⟨pn, cn, rfl, hmn, hnf⟩ := hn.form
  obtain ⟨bk, ck, rfl, hmk, hkf⟩ := hk.form
  obtain ⟨bp, cp, rfl, hmp, hpf⟩ := hp.form
  clear hn hk hp
  unfold maxLen at hmn hmk hmp
  have HH := Lib.hid hh
  simp only [NdHead] at hh
  have d1 : decide (at_ < 0) = false := by simp; omega
  have f1 : ¬ at_ < 0 := by omega
  have d4 : decide (kd < 1) = false := by simp; omega
  have d5 : decide (19 < kd) = false := by simp; omega
  have f4 : ¬ kd < 1 := by omega
  have f5 : ¬ 19 < kd := by omega
  have b1 : (kd == 1) = false := by simp; omega
  have b1n : (kd != 1) = true := by simp; omega
  clear hh
  go_enter Tryz.func27, Tryz.ntmps27
  go_wp2
  go_loop [46] (fun i => ∃ m : Nat, i = .int .i64 m ∧ m ≤ kids.length ∧ ∀ j (hj : j < m) (h : j < kids.length), 0 ≤ kids[j] ∧ kids[j] < nodes.length) (fun i => kids.length - (intOf i).toNat)
  case atStart => exact ⟨0, rfl, Nat.zero_le _, fun j hj => absurd hj (by omega)⟩
  case round =>
    obtain ⟨m, rfl, hm, hall⟩ := hrel
    have HA := Lib.hid hall
    clear hall
    by_cases hlt : m < kids.length
    · obtain ⟨b2, o2, rfl, hb2, hc2⟩ := hkf (by omega)
      obtain ⟨g0, j0, j1⟩ := hc2 m hlt
      rw [Nat.mul_one] at g0
      clear hc2 hkf
      obtain ⟨y, hy⟩ : ∃ y, y = kids[m] := ⟨_, rfl⟩
      rw [← hy] at g0 j0 j1
      have hmem : y ∈ kids := by rw [hy]; exact List.getElem_mem _
      have HY := Lib.hid hy
      clear hy
      by_cases h0 : y < 0
      · have HB := Lib.hid (propB_f (fun h : NdOkP nodes ⟨kd, at_, 0, s, kids, pats⟩ => by have := (h.2.1 y hmem).1; omega))
        clear hmem
        go_wp2
        go_ret
        exact ⟨ret_bool HB.out.symm, Joins.below_alloc2 w _ _⟩
      · by_cases h1 : (nodes.length : Int) ≤ y
        · have HB := Lib.hid (propB_f (fun h : NdOkP nodes ⟨kd, at_, 0, s, kids, pats⟩ => by have := (h.2.1 y hmem).2; omega))
          clear hmem
          go_wp2
          go_ret
          exact ⟨ret_bool HB.out.symm, Joins.below_alloc2 w _ _⟩
        · clear hmem
          go_wp2
          go_round
          case rel => exact ⟨m + 1, by go_num, by omega, fun j hj h => by
              by_cases he : j = m
              · subst he; rw [← HY.out]; exact ⟨by omega, by omega⟩
              · exact HA.out j (by omega) h⟩
          case measure => simp [intOf]; omega
    · obtain rfl : m = kids.length := by omega
      have hall : ∀ k ∈ kids, 0 ≤ k ∧ k < nodes.length := fun k hk => by
        obtain ⟨i, hi, rfl⟩ := List.getElem_of_mem hk
        exact HA.out i hi hi
      have HAll := Lib.hid hall
      clear hall HA
      have HP := Lib.hid (nd_plain HH.out HAll.out hgn.1 hgn.2.1 hgn.2.2.1 hgn.2.2.2.1 hgn.2.2.2.2)
      obtain ⟨g1, g2, g3, g4, g5⟩ := hgn
      have gs : kd ≠ 3 ∧ kd ≠ 5 ∧ kd ≠ 7 ∧ kd ≠ 8 ∧ kd ≠ 15 := by unfold namedK at g1; omega
      obtain ⟨s3, s5, s7, s8, s15⟩ := gs
      have k3 : (kd == 3) = false := by simpa using s3
      have m3 : (kd != 3) = true := by simpa using s3
      have k5 : (kd == 5) = false := by simpa using s5
      have m5 : (kd != 5) = true := by simpa using s5
      have k7 : (kd == 7) = false := by simpa using s7
      have m7 : (kd != 7) = true := by simpa using s7
      have k8 : (kd == 8) = false := by simpa using s8
      have m8 : (kd != 8) = true := by simpa using s8
      have k15 : (kd == 15) = false := by simpa using s15
      have m15 : (kd != 15) = true := by simpa using s15
      have k10 : (kd == 10) = false := by simpa using g2
      have m10 : (kd != 10) = true := by simpa using g2
      have k2 : (kd == 2) = false := by simpa using g3
      have m2 : (kd != 2) = true := by simpa using g3
      have k4 : (kd == 4) = false := by simpa using g4
      have m4 : (kd != 4) = true := by simpa using g4
      have k13 : (kd == 13) = false := by simpa using g5
      have m13 : (kd != 13) = true := by simpa using g5
      clear g1 g2 g3 g4 g5 s3 s5 s7 s8 s15
      by_cases he : s.toList = []
      · have he1 : s.toList.isEmpty = true := by simp [he]
        by_cases hz : pats.length = 0
        · have hz1 : ((pats.length : Int) == 0) = true := by simpa using hz
          have HQ := Lib.hid (show NdOkP nodes ⟨kd, at_, 0, s, kids, pats⟩ ↔ (kids.length : Int) = kidsN kd from HP.out.trans ⟨fun h => h.2.2, fun h => ⟨he, nil_of_len hz, h⟩⟩)
          clear hz
          go_wp2_with fail
          go_quiet (fail)
          go_wp2_with fail
          go_quiet ((go_at_call 53; first | exact still_more (sKids _ _) | exact still_one (sKids _ _)))
          go_wp2
          go_ret
          exact ⟨ret_bool (beq_prop HQ.out), below_drewN (below_drewN (Joins.below_alloc2 w _ _) _) _⟩
        · have hz1 : ((pats.length : Int) == 0) = false := by simpa using hz
          have HQ := Lib.hid (propB_f (fun h => ne_nil_of_len hz (HP.out.1 h).2.1))
          clear hz
          go_wp2_with fail
          go_quiet (fail)
          go_wp2_with fail
          go_quiet (fail)
          go_wp2
          go_ret
          exact ⟨ret_bool HQ.out.symm, below_drewN (below_drewN (Joins.below_alloc2 w _ _) _) _⟩
      · have he1 : s.toList.isEmpty = false := by simpa using he
        have HQ := Lib.hid (propB_f (fun h => he (HP.out.1 h).1))
        clear he
        go_wp2
        go_ret
        exact ⟨ret_bool HQ.out.symm, Joins.below_alloc2 w _ _⟩
set_option maxHeartbeats 8000000 in
theorem sNode_str (vt vn : Value) (at_ : Int) (s : ByteArray) (kids : List Int) (pats : List (List PN)) (nodes : List Nd) (uk up : Value) (w : World)
    (ht : ∃ pt nt ct, vt = .slice pt nt ct) (hn : RowRd 6 NdEl w vn nodes) (hk : RowRd 1 IntEl w uk kids) (hp : RowRd 1 PatEl w up pats) (hs : s.size ≤ maxLen) (hh : NdHead ⟨2, at_, 0, s, kids, pats⟩) :
    Calls Tryz.prog 27 #[.agg #[vt, vn], .agg #[.int .i64 2, .int .i64 at_, .int .i64 0, .string s, uk, up]] w fun e w' => e = .returned (.bool (propB (NdOkP nodes ⟨2, at_, 0, s, kids, pats⟩))) ∧ Below w.heap.size w w' := by
  have hn0 := hn
  have hp0 := hp
  obtain ⟨pt, nt, ct, rfl⟩ := ht
  obtain ⟨pn, cn, rfl, hmn, hnf⟩ := hn.form
  obtain ⟨bk, ck, rfl, hmk, hkf⟩ := hk.form
  obtain ⟨bp, cp, rfl, hmp, hpf⟩ := hp.form
  clear hn hk hp
  unfold maxLen at hmn hmk hmp
  have HH := Lib.hid hh
  simp only [NdHead] at hh
  have d1 : decide (at_ < 0) = false := by simp; omega
  have f1 : ¬ at_ < 0 := by omega
  clear hh
  go_enter Tryz.func27, Tryz.ntmps27
  go_wp2
  go_loop [46] (fun i => ∃ m : Nat, i = .int .i64 m ∧ m ≤ kids.length ∧ ∀ j (hj : j < m) (h : j < kids.length), 0 ≤ kids[j] ∧ kids[j] < nodes.length) (fun i => kids.length - (intOf i).toNat)
  case atStart => exact ⟨0, rfl, Nat.zero_le _, fun j hj => absurd hj (by omega)⟩
  case round =>
    obtain ⟨m, rfl, hm, hall⟩ := hrel
    have HA := Lib.hid hall
    clear hall
    by_cases hlt : m < kids.length
    · obtain ⟨b2, o2, rfl, hb2, hc2⟩ := hkf (by omega)
      obtain ⟨g0, j0, j1⟩ := hc2 m hlt
      rw [Nat.mul_one] at g0
      clear hc2 hkf
      obtain ⟨y, hy⟩ : ∃ y, y = kids[m] := ⟨_, rfl⟩
      rw [← hy] at g0 j0 j1
      have hmem : y ∈ kids := by rw [hy]; exact List.getElem_mem _
      have HY := Lib.hid hy
      clear hy
      by_cases h0 : y < 0
      · have HB := Lib.hid (propB_f (fun h : NdOkP nodes ⟨2, at_, 0, s, kids, pats⟩ => by have := (h.2.1 y hmem).1; omega))
        clear hmem
        go_wp2
        go_ret
        exact ⟨ret_bool HB.out.symm, Joins.below_alloc2 w _ _⟩
      · by_cases h1 : (nodes.length : Int) ≤ y
        · have HB := Lib.hid (propB_f (fun h : NdOkP nodes ⟨2, at_, 0, s, kids, pats⟩ => by have := (h.2.1 y hmem).2; omega))
          clear hmem
          go_wp2
          go_ret
          exact ⟨ret_bool HB.out.symm, Joins.below_alloc2 w _ _⟩
        · clear hmem
          go_wp2
          go_round
          case rel => exact ⟨m + 1, by go_num, by omega, fun j hj h => by
              by_cases he : j = m
              · subst he; rw [← HY.out]; exact ⟨by omega, by omega⟩
              · exact HA.out j (by omega) h⟩
          case measure => simp [intOf]; omega
    · obtain rfl : m = kids.length := by omega
      have hall : ∀ k ∈ kids, 0 ≤ k ∧ k < nodes.length := fun k hk => by
        obtain ⟨i, hi, rfl⟩ := List.getElem_of_mem hk
        exact HA.out i hi hi
      have HAll := Lib.hid hall
      clear hall HA
      have HP := Lib.hid (nd_str HH.out HAll.out)
      by_cases hz : pats.length = 0
      · have hz1 : ((pats.length : Int) == 0) = true := by simpa using hz
        have HQ := Lib.hid (show NdOkP nodes ⟨2, at_, 0, s, kids, pats⟩ ↔ (kids.length : Int) = kidsN 2 from HP.out.trans ⟨fun h => h.2, fun h => ⟨nil_of_len hz, h⟩⟩)
        clear hz
        go_wp2_with fail
        go_quiet (fail)
        go_wp2_with fail
        go_quiet ((go_at_call 53; first | exact still_more (sKids _ _) | exact still_one (sKids _ _)))
        go_wp2
        go_ret
        exact ⟨ret_bool (beq_prop HQ.out), below_drewN (below_drewN (Joins.below_alloc2 w _ _) _) _⟩
      · have hz1 : ((pats.length : Int) == 0) = false := by simpa using hz
        have HQ := Lib.hid (propB_f (fun h => ne_nil_of_len hz (HP.out.1 h).1))
        clear hz
        go_wp2_with fail
        go_quiet (fail)
        go_wp2_with fail
        go_quiet (fail)
        go_wp2
        go_ret
        exact ⟨ret_bool HQ.out.symm, below_drewN (below_drewN (Joins.below_alloc2 w _ _) _) _⟩
end Go.Proofs.YtilincaedjhnpaaGreat
