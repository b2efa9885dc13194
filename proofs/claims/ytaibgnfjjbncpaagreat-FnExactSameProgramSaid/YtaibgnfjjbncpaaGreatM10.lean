/- Texts of this proof, merged: OkT, OkU, OkV, OkW, OkX. -/
import Derived.Test.YtaibgnfjjbncpaaGreatM9
namespace Go.Proofs.YtaibgnfjjbncpaaGreat
set_option linter.unusedVariables false
set_option maxRecDepth 100000
open Go.ChangeShapes Go.WideShapes Go.ChangeAt Go.RowKit

set_option maxHeartbeats 8000000 in
theorem sNode_int (vt vn : Value) (at_ n : Int) (s : ByteArray) (kids : List Int) (pats : List (List PN)) (nodes : List Nd) (uk up : Value) (w : World)
    (ht : ∃ pt nt ct, vt = .slice pt nt ct) (hn : RowRd 6 NdEl w vn nodes) (hk : RowRd 1 IntEl w uk kids) (hp : RowRd 1 PatEl w up pats) (hs : s.size ≤ maxLen) (hh : NdHead ⟨1, at_, n, s, kids, pats⟩) :
    Calls Tryz.prog 26 #[.agg #[vt, vn], .agg #[.int .i64 1, .int .i64 at_, .int .i64 n, .string s, uk, up]] w fun e w' => e = .returned (.bool (propB (NdOkP nodes ⟨1, at_, n, s, kids, pats⟩))) ∧ Below w.heap.size w w' := by
  have hn0 := hn
  have hp0 := hp
  obtain ⟨pt, nt, ct, rfl⟩ := ht
  obtain ⟨pn, cn, rfl, hmn, hnf⟩ := hn.form
  obtain ⟨bk, ck, rfl, hmk, hkf⟩ := hk.form
  obtain ⟨bp, cp, rfl, hmp, hpf⟩ := hp.form
  clear hn hk hp
  unfold maxLen at hmn hmk hmp
  have HH := Lib.hid hh
  simp only [NdHead] at hh
  have d1 : decide (at_ < 0) = false := by simp; omega
  have d2 : decide (n < 0) = false := by simp; omega
  have d3 : decide (4611686018427387903 < n) = false := by simp; omega
  have f1 : ¬ at_ < 0 := by omega
  have f2 : ¬ n < 0 := by omega
  have f3 : ¬ 4611686018427387903 < n := by omega
  clear hh
  go_enter Tryz.func26, Tryz.ntmps26
  go_wp2
  go_loop [46] (fun i => ∃ m : Nat, i = .int .i64 m ∧ m ≤ kids.length ∧ ∀ j (hj : j < m) (h : j < kids.length), 0 ≤ kids[j] ∧ kids[j] < nodes.length) (fun i => kids.length - (intOf i).toNat)
  case atStart => exact ⟨0, rfl, Nat.zero_le _, fun j hj => absurd hj (by omega)⟩
  case round =>
    obtain ⟨m, rfl, hm, hall⟩ := hrel
    have HA := Lib.hid hall
    clear hall
    by_cases hlt : m < kids.length
    · obtain ⟨b2, o2, rfl, hb2, hc2⟩ := hkf (by omega)
      obtain ⟨g0, j0, j1⟩ := hc2 m hlt
      rw [Nat.mul_one] at g0
      clear hc2 hkf
      obtain ⟨y, hy⟩ : ∃ y, y = kids[m] := ⟨_, rfl⟩
      rw [← hy] at g0 j0 j1
      have hmem : y ∈ kids := by rw [hy]; exact List.getElem_mem _
      have HY := Lib.hid hy
      clear hy
      by_cases h0 : y < 0
      · have HB := Lib.hid (propB_f (fun h : NdOkP nodes ⟨1, at_, n, s, kids, pats⟩ => by have := (h.2.1 y hmem).1; omega))
        clear hmem
        go_wp2
        go_ret
        exact ⟨ret_bool HB.out.symm, Joins.below_alloc2 w _ _⟩
      · by_cases h1 : (nodes.length : Int) ≤ y
        · have HB := Lib.hid (propB_f (fun h : NdOkP nodes ⟨1, at_, n, s, kids, pats⟩ => by have := (h.2.1 y hmem).2; omega))
          clear hmem
          go_wp2
          go_ret
          exact ⟨ret_bool HB.out.symm, Joins.below_alloc2 w _ _⟩
        · clear hmem
          go_wp2
          go_round
          case rel => exact ⟨m + 1, by go_num, by omega, fun j hj h => by
              by_cases he : j = m
              · subst he; rw [← HY.out]; exact ⟨by omega, by omega⟩
              · exact HA.out j (by omega) h⟩
          case measure => simp [intOf]; omega
    · obtain rfl : m = kids.length := by omega
      have hall : ∀ k ∈ kids, 0 ≤ k ∧ k < nodes.length := fun k hk => by
        obtain ⟨i, hi, rfl⟩ := List.getElem_of_mem hk
        exact HA.out i hi hi
      have HAll := Lib.hid hall
      clear hall HA
      have HP := Lib.hid (nd_plain HH.out HAll.out (by simp [namedK]) (by decide) (by decide) (by decide) (by decide))
      by_cases he : s.toList = []
      · have he1 : s.toList.isEmpty = true := by simp [he]
        by_cases hz : pats.length = 0
        · have hz1 : ((pats.length : Int) == 0) = true := by simpa using hz
          have HQ := Lib.hid (show NdOkP nodes ⟨1, at_, n, s, kids, pats⟩ ↔ (kids.length : Int) = kidsN 1 from HP.out.trans ⟨fun h => h.2.2, fun h => ⟨he, nil_of_len hz, h⟩⟩)
          clear hz
          go_wp2_with fail
          go_quiet (fail)
          go_wp2_with fail
          go_quiet ((go_at_call 57; first | exact still_more (sKids _ _) | exact still_one (sKids _ _)))
          go_wp2
          go_ret
          exact ⟨ret_bool (beq_prop HQ.out), below_drewN (below_drewN (Joins.below_alloc2 w _ _) _) _⟩
        · have hz1 : ((pats.length : Int) == 0) = false := by simpa using hz
          have HQ := Lib.hid (propB_f (fun h => ne_nil_of_len hz (HP.out.1 h).2.1))
          clear hz
          go_wp2_with fail
          go_quiet (fail)
          go_wp2_with fail
          go_quiet (fail)
          go_wp2
          go_ret
          exact ⟨ret_bool HQ.out.symm, below_drewN (below_drewN (Joins.below_alloc2 w _ _) _) _⟩
      · have he1 : s.toList.isEmpty = false := by simpa using he
        have HQ := Lib.hid (propB_f (fun h => he (HP.out.1 h).1))
        clear he
        go_wp2
        go_ret
        exact ⟨ret_bool HQ.out.symm, Joins.below_alloc2 w _ _⟩
set_option maxHeartbeats 8000000 in
theorem sNode_plain (vt vn : Value) (kd at_ : Int) (s : ByteArray) (kids : List Int) (pats : List (List PN)) (nodes : List Nd) (uk up : Value) (w : World)
    (ht : ∃ pt nt ct, vt = .slice pt nt ct) (hn : RowRd 6 NdEl w vn nodes) (hk : RowRd 1 IntEl w uk kids) (hp : RowRd 1 PatEl w up pats) (hs : s.size ≤ maxLen) (hh : NdHead ⟨kd, at_, 0, s, kids, pats⟩) (hk1 : kd ≠ 1) (hgn : ¬ namedK kd ∧ kd ≠ 10 ∧ kd ≠ 2 ∧ kd ≠ 4 ∧ kd ≠ 13) :
    Calls Tryz.prog 26 #[.agg #[vt, vn], .agg #[.int .i64 kd, .int .i64 at_, .int .i64 0, .string s, uk, up]] w fun e w' => e = .returned (.bool (propB (NdOkP nodes ⟨kd, at_, 0, s, kids, pats⟩))) ∧ Below w.heap.size w w' := by
  have hn0 := hn
  have hp0 := hp
  obtain ⟨pt, nt, ct, rfl⟩ := ht
  obtain ⟨pn, cn, rfl, hmn, hnf⟩ := hn.form
  obtain ⟨bk, ck, rfl, hmk, hkf⟩ := hk.form
  obtain ⟨bp, cp, rfl, hmp, hpf⟩ := hp.form
  clear hn hk hp
  unfold maxLen at hmn hmk hmp
  have HH := Lib.hid hh
  simp only [NdHead] at hh
  have d1 : decide (at_ < 0) = false := by simp; omega
  have f1 : ¬ at_ < 0 := by omega
  have d4 : decide (kd < 1) = false := by simp; omega
  have d5 : decide (19 < kd) = false := by simp; omega
  have f4 : ¬ kd < 1 := by omega
  have f5 : ¬ 19 < kd := by omega
  have b1 : (kd == 1) = false := by simp; omega
  have b1n : (kd != 1) = true := by simp; omega
  clear hh
  go_enter Tryz.func26, Tryz.ntmps26
  go_wp2
  go_loop [46] (fun i => ∃ m : Nat, i = .int .i64 m ∧ m ≤ kids.length ∧ ∀ j (hj : j < m) (h : j < kids.length), 0 ≤ kids[j] ∧ kids[j] < nodes.length) (fun i => kids.length - (intOf i).toNat)
  case atStart => exact ⟨0, rfl, Nat.zero_le _, fun j hj => absurd hj (by omega)⟩
  case round =>
    obtain ⟨m, rfl, hm, hall⟩ := hrel
    have HA := Lib.hid hall
    clear hall
    by_cases hlt : m < kids.length
    · obtain ⟨b2, o2, rfl, hb2, hc2⟩ := hkf (by omega)
      obtain ⟨g0, j0, j1⟩ := hc2 m hlt
      rw [Nat.mul_one] at g0
      clear hc2 hkf
      obtain ⟨y, hy⟩ : ∃ y, y = kids[m] := ⟨_, rfl⟩
      rw [← hy] at g0 j0 j1
      have hmem : y ∈ kids := by rw [hy]; exact List.getElem_mem _
      have HY := Lib.hid hy
      clear hy
      by_cases h0 : y < 0
      · have HB := Lib.hid (propB_f (fun h : NdOkP nodes ⟨kd, at_, 0, s, kids, pats⟩ => by have := (h.2.1 y hmem).1; omega))
        clear hmem
        go_wp2
        go_ret
        exact ⟨ret_bool HB.out.symm, Joins.below_alloc2 w _ _⟩
      · by_cases h1 : (nodes.length : Int) ≤ y
        · have HB := Lib.hid (propB_f (fun h : NdOkP nodes ⟨kd, at_, 0, s, kids, pats⟩ => by have := (h.2.1 y hmem).2; omega))
          clear hmem
          go_wp2
          go_ret
          exact ⟨ret_bool HB.out.symm, Joins.below_alloc2 w _ _⟩
        · clear hmem
          go_wp2
          go_round
          case rel => exact ⟨m + 1, by go_num, by omega, fun j hj h => by
              by_cases he : j = m
              · subst he; rw [← HY.out]; exact ⟨by omega, by omega⟩
              · exact HA.out j (by omega) h⟩
          case measure => simp [intOf]; omega
    · obtain rfl : m = kids.length := by omega
      have hall : ∀ k ∈ kids, 0 ≤ k ∧ k < nodes.length := fun k hk => by
        obtain ⟨i, hi, rfl⟩ := List.getElem_of_mem hk
        exact HA.out i hi hi
      have HAll := Lib.hid hall
      clear hall HA
      have HP := Lib.hid (nd_plain HH.out HAll.out hgn.1 hgn.2.1 hgn.2.2.1 hgn.2.2.2.1 hgn.2.2.2.2)
      obtain ⟨g1, g2, g3, g4, g5⟩ := hgn
      have gs : kd ≠ 3 ∧ kd ≠ 5 ∧ kd ≠ 7 ∧ kd ≠ 8 ∧ kd ≠ 15 := by unfold namedK at g1; omega
      obtain ⟨s3, s5, s7, s8, s15⟩ := gs
      have k3 : (kd == 3) = false := by simpa using s3
      have m3 : (kd != 3) = true := by simpa using s3
      have k5 : (kd == 5) = false := by simpa using s5
      have m5 : (kd != 5) = true := by simpa using s5
      have k7 : (kd == 7) = false := by simpa using s7
      have m7 : (kd != 7) = true := by simpa using s7
      have k8 : (kd == 8) = false := by simpa using s8
      have m8 : (kd != 8) = true := by simpa using s8
      have k15 : (kd == 15) = false := by simpa using s15
      have m15 : (kd != 15) = true := by simpa using s15
      have k10 : (kd == 10) = false := by simpa using g2
      have m10 : (kd != 10) = true := by simpa using g2
      have k2 : (kd == 2) = false := by simpa using g3
      have m2 : (kd != 2) = true := by simpa using g3
      have k4 : (kd == 4) = false := by simpa using g4
      have m4 : (kd != 4) = true := by simpa using g4
      have k13 : (kd == 13) = false := by simpa using g5
      have m13 : (kd != 13) = true := by simpa using g5
      clear g1 g2 g3 g4 g5 s3 s5 s7 s8 s15
      by_cases he : s.toList = []
      · have he1 : s.toList.isEmpty = true := by simp [he]
        by_cases hz : pats.length = 0
        · have hz1 : ((pats.length : Int) == 0) = true := by simpa using hz
          have HQ := Lib.hid (show NdOkP nodes ⟨kd, at_, 0, s, kids, pats⟩ ↔ (kids.length : Int) = kidsN kd from HP.out.trans ⟨fun h => h.2.2, fun h => ⟨he, nil_of_len hz, h⟩⟩)
          clear hz
          go_wp2_with fail
          go_quiet (fail)
          go_wp2_with fail
          go_quiet ((go_at_call 57; first | exact still_more (sKids _ _) | exact still_one (sKids _ _)))
          go_wp2
          go_ret
          exact ⟨ret_bool (beq_prop HQ.out), below_drewN (below_drewN (Joins.below_alloc2 w _ _) _) _⟩
        · have hz1 : ((pats.length : Int) == 0) = false := by simpa using hz
          have HQ := Lib.hid (propB_f (fun h => ne_nil_of_len hz (HP.out.1 h).2.1))
          clear hz
          go_wp2_with fail
          go_quiet (fail)
          go_wp2_with fail
          go_quiet (fail)
          go_wp2
          go_ret
          exact ⟨ret_bool HQ.out.symm, below_drewN (below_drewN (Joins.below_alloc2 w _ _) _) _⟩
      · have he1 : s.toList.isEmpty = false := by simpa using he
        have HQ := Lib.hid (propB_f (fun h => he (HP.out.1 h).1))
        clear he
        go_wp2
        go_ret
        exact ⟨ret_bool HQ.out.symm, Joins.below_alloc2 w _ _⟩
set_option maxHeartbeats 8000000 in
theorem sNode_str (vt vn : Value) (at_ : Int) (s : ByteArray) (kids : List Int) (pats : List (List PN)) (nodes : List Nd) (uk up : Value) (w : World)
    (ht : ∃ pt nt ct, vt = .slice pt nt ct) (hn : RowRd 6 NdEl w vn nodes) (hk : RowRd 1 IntEl w uk kids) (hp : RowRd 1 PatEl w up pats) (hs : s.size ≤ maxLen) (hh : NdHead ⟨2, at_, 0, s, kids, pats⟩) :
    Calls Tryz.prog 26 #[.agg #[vt, vn], .agg #[.int .i64 2, .int .i64 at_, .int .i64 0, .string s, uk, up]] w fun e w' => e = .returned (.bool (propB (NdOkP nodes ⟨2, at_, 0, s, kids, pats⟩))) ∧ Below w.heap.size w w' := by
  have hn0 := hn
  have hp0 := hp
  obtain ⟨pt, nt, ct, rfl⟩ := ht
  obtain ⟨pn, cn, rfl, hmn, hnf⟩ := hn.form
  obtain ⟨bk, ck, rfl, hmk, hkf⟩ := hk.form
  obtain ⟨bp, cp, rfl, hmp, hpf⟩ := hp.form
  clear hn hk hp
  unfold maxLen at hmn hmk hmp
  have HH := Lib.hid hh
  simp only [NdHead] at hh
  have d1 : decide (at_ < 0) = false := by simp; omega
  have f1 : ¬ at_ < 0 := by omega
  clear hh
  go_enter Tryz.func26, Tryz.ntmps26
  go_wp2
  go_loop [46] (fun i => ∃ m : Nat, i = .int .i64 m ∧ m ≤ kids.length ∧ ∀ j (hj : j < m) (h : j < kids.length), 0 ≤ kids[j] ∧ kids[j] < nodes.length) (fun i => kids.length - (intOf i).toNat)
  case atStart => exact ⟨0, rfl, Nat.zero_le _, fun j hj => absurd hj (by omega)⟩
  case round =>
    obtain ⟨m, rfl, hm, hall⟩ := hrel
    have HA := Lib.hid hall
    clear hall
    by_cases hlt : m < kids.length
    · obtain ⟨b2, o2, rfl, hb2, hc2⟩ := hkf (by omega)
      obtain ⟨g0, j0, j1⟩ := hc2 m hlt
      rw [Nat.mul_one] at g0
      clear hc2 hkf
      obtain ⟨y, hy⟩ : ∃ y, y = kids[m] := ⟨_, rfl⟩
      rw [← hy] at g0 j0 j1
      have hmem : y ∈ kids := by rw [hy]; exact List.getElem_mem _
      have HY := Lib.hid hy
      clear hy
      by_cases h0 : y < 0
      · have HB := Lib.hid (propB_f (fun h : NdOkP nodes ⟨2, at_, 0, s, kids, pats⟩ => by have := (h.2.1 y hmem).1; omega))
        clear hmem
        go_wp2
        go_ret
        exact ⟨ret_bool HB.out.symm, Joins.below_alloc2 w _ _⟩
      · by_cases h1 : (nodes.length : Int) ≤ y
        · have HB := Lib.hid (propB_f (fun h : NdOkP nodes ⟨2, at_, 0, s, kids, pats⟩ => by have := (h.2.1 y hmem).2; omega))
          clear hmem
          go_wp2
          go_ret
          exact ⟨ret_bool HB.out.symm, Joins.below_alloc2 w _ _⟩
        · clear hmem
          go_wp2
          go_round
          case rel => exact ⟨m + 1, by go_num, by omega, fun j hj h => by
              by_cases he : j = m
              · subst he; rw [← HY.out]; exact ⟨by omega, by omega⟩
              · exact HA.out j (by omega) h⟩
          case measure => simp [intOf]; omega
    · obtain rfl : m = kids.length := by omega
      have hall : ∀ k ∈ kids, 0 ≤ k ∧ k < nodes.length := fun k hk => by
        obtain ⟨i, hi, rfl⟩ := List.getElem_of_mem hk
        exact HA.out i hi hi
      have HAll := Lib.hid hall
      clear hall HA
      have HP := Lib.hid (nd_str HH.out HAll.out)
      by_cases hz : pats.length = 0
      · have hz1 : ((pats.length : Int) == 0) = true := by simpa using hz
        have HQ := Lib.hid (show NdOkP nodes ⟨2, at_, 0, s, kids, pats⟩ ↔ (kids.length : Int) = kidsN 2 from HP.out.trans ⟨fun h => h.2, fun h => ⟨nil_of_len hz, h⟩⟩)
        clear hz
        go_wp2_with fail
        go_quiet (fail)
        go_wp2_with fail
        go_quiet ((go_at_call 57; first | exact still_more (sKids _ _) | exact still_one (sKids _ _)))
        go_wp2
        go_ret
        exact ⟨ret_bool (beq_prop HQ.out), below_drewN (below_drewN (Joins.below_alloc2 w _ _) _) _⟩
      · have hz1 : ((pats.length : Int) == 0) = false := by simpa using hz
        have HQ := Lib.hid (propB_f (fun h => ne_nil_of_len hz (HP.out.1 h).1))
        clear hz
        go_wp2_with fail
        go_quiet (fail)
        go_wp2_with fail
        go_quiet (fail)
        go_wp2
        go_ret
        exact ⟨ret_bool HQ.out.symm, below_drewN (below_drewN (Joins.below_alloc2 w _ _) _) _⟩
end Go.Proofs.YtaibgnfjjbncpaaGreat
namespace Go.Proofs.YtaibgnfjjbncpaaGreat
set_option linter.unusedVariables false
set_option maxRecDepth 100000
open Go.ChangeShapes Go.WideShapes Go.ChangeAt Go.RowKit

set_option maxHeartbeats 8000000 in
theorem sNode_k3 (vt vn : Value) (at_ : Int) (s : ByteArray) (kids : List Int) (pats : List (List PN)) (nodes : List Nd) (uk up : Value) (w : World)
    (ht : ∃ pt nt ct, vt = .slice pt nt ct) (hn : RowRd 6 NdEl w vn nodes) (hk : RowRd 1 IntEl w uk kids) (hp : RowRd 1 PatEl w up pats) (hs : s.size ≤ maxLen) (hh : NdHead ⟨3, at_, 0, s, kids, pats⟩) :
    Calls Tryz.prog 26 #[.agg #[vt, vn], .agg #[.int .i64 3, .int .i64 at_, .int .i64 0, .string s, uk, up]] w fun e w' => e = .returned (.bool (propB (NdOkP nodes ⟨3, at_, 0, s, kids, pats⟩))) ∧ Below w.heap.size w w' := by
  have hn0 := hn
  have hp0 := hp
  obtain ⟨pt, nt, ct, rfl⟩ := ht
  obtain ⟨pn, cn, rfl, hmn, hnf⟩ := hn.form
  obtain ⟨bk, ck, rfl, hmk, hkf⟩ := hk.form
  obtain ⟨bp, cp, rfl, hmp, hpf⟩ := hp.form
  clear hn hk hp
  unfold maxLen at hmn hmk hmp
  have HH := Lib.hid hh
  simp only [NdHead] at hh
  have d1 : decide (at_ < 0) = false := by simp; omega
  have f1 : ¬ at_ < 0 := by omega
  clear hh
  go_enter Tryz.func26, Tryz.ntmps26
  go_wp2
  go_loop [46] (fun i => ∃ m : Nat, i = .int .i64 m ∧ m ≤ kids.length ∧ ∀ j (hj : j < m) (h : j < kids.length), 0 ≤ kids[j] ∧ kids[j] < nodes.length) (fun i => kids.length - (intOf i).toNat)
  case atStart => exact ⟨0, rfl, Nat.zero_le _, fun j hj => absurd hj (by omega)⟩
  case round =>
    obtain ⟨m, rfl, hm, hall⟩ := hrel
    have HA := Lib.hid hall
    clear hall
    by_cases hlt : m < kids.length
    · obtain ⟨b2, o2, rfl, hb2, hc2⟩ := hkf (by omega)
      obtain ⟨g0, j0, j1⟩ := hc2 m hlt
      rw [Nat.mul_one] at g0
      clear hc2 hkf
      obtain ⟨y, hy⟩ : ∃ y, y = kids[m] := ⟨_, rfl⟩
      rw [← hy] at g0 j0 j1
      have hmem : y ∈ kids := by rw [hy]; exact List.getElem_mem _
      have HY := Lib.hid hy
      clear hy
      by_cases h0 : y < 0
      · have HB := Lib.hid (propB_f (fun h : NdOkP nodes ⟨3, at_, 0, s, kids, pats⟩ => by have := (h.2.1 y hmem).1; omega))
        clear hmem
        go_wp2
        go_ret
        exact ⟨ret_bool HB.out.symm, Joins.below_alloc2 w _ _⟩
      · by_cases h1 : (nodes.length : Int) ≤ y
        · have HB := Lib.hid (propB_f (fun h : NdOkP nodes ⟨3, at_, 0, s, kids, pats⟩ => by have := (h.2.1 y hmem).2; omega))
          clear hmem
          go_wp2
          go_ret
          exact ⟨ret_bool HB.out.symm, Joins.below_alloc2 w _ _⟩
        · clear hmem
          go_wp2
          go_round
          case rel => exact ⟨m + 1, by go_num, by omega, fun j hj h => by
              by_cases he : j = m
              · subst he; rw [← HY.out]; exact ⟨by omega, by omega⟩
              · exact HA.out j (by omega) h⟩
          case measure => simp [intOf]; omega
    · obtain rfl : m = kids.length := by omega
      have hall : ∀ k ∈ kids, 0 ≤ k ∧ k < nodes.length := fun k hk => by
        obtain ⟨i, hi, rfl⟩ := List.getElem_of_mem hk
        exact HA.out i hi hi
      have HAll := Lib.hid hall
      clear hall HA
      have HP := Lib.hid (nd_named HH.out HAll.out (by simp [namedK]) (by decide))
      go_wp2_with fail
      refine (sNameOk _ _ hs).mono ?_
      rintro e w1 ⟨rfl, hb1⟩
      obtain ⟨hc1, hf1⟩ := bcell hb1
      have hs1 := hb1.size
      simp at hs1
      have B1 : Below w.heap.size w w1 := below_tr (Joins.below_alloc2 w _ _) hb1
      cases hx : nameB s
      · have HQ := Lib.hid (propB_f (fun h => by have := (HP.out.1 h).1; rw [hx] at this; cases this))
        clear hx
        go_wp2
        go_ret
        exact ⟨ret_bool HQ.out.symm, B1⟩
      · have c0 : w1.cell? ⟨w.heap.size + 1, 0, none⟩ = some (.int .i64 3) := by rw [hc1 _ _ (by simp)]; simp
        have c4 : w1.cell? ⟨w.heap.size + 1, 4, none⟩ = some (.slice bk kids.length ck) := by rw [hc1 _ _ (by simp)]; simp
        have c5 : w1.cell? ⟨w.heap.size + 1, 5, none⟩ = some (.slice bp pats.length cp) := by rw [hc1 _ _ (by simp)]; simp
        have p1 : w1.cell? ⟨w.heap.size, 1, none⟩ = some (.slice pn nodes.length cn) := by rw [hc1 _ _ (by simp; omega)]; simp
        have HX := Lib.hid hx
        clear hc1 hf1 hx
        by_cases hz : pats.length = 0
        · have hz1 : ((pats.length : Int) == 0) = true := by simpa using hz
          have HQ := Lib.hid (show NdOkP nodes ⟨3, at_, 0, s, kids, pats⟩ ↔ (kids.length : Int) = kidsN 3 from HP.out.trans ⟨fun h => h.2.2, fun h => ⟨HX.out, nil_of_len hz, h⟩⟩)
          clear hz
          go_wp2_with fail
          go_quiet (fail)
          go_wp2_with fail
          go_quiet ((go_at_call 57; first | exact still_more (sKids _ _) | exact still_one (sKids _ _)))
          go_wp2
          go_ret
          exact ⟨ret_bool (beq_prop HQ.out), below_drewN (below_drewN (B1) _) _⟩
        · have hz1 : ((pats.length : Int) == 0) = false := by simpa using hz
          have HQ := Lib.hid (propB_f (fun h => ne_nil_of_len hz (HP.out.1 h).2.1))
          clear hz
          go_wp2_with fail
          go_quiet (fail)
          go_wp2_with fail
          go_quiet (fail)
          go_wp2
          go_ret
          exact ⟨ret_bool HQ.out.symm, below_drewN (below_drewN (B1) _) _⟩
set_option maxHeartbeats 8000000 in
theorem sNode_k5 (vt vn : Value) (at_ : Int) (s : ByteArray) (kids : List Int) (pats : List (List PN)) (nodes : List Nd) (uk up : Value) (w : World)
    (ht : ∃ pt nt ct, vt = .slice pt nt ct) (hn : RowRd 6 NdEl w vn nodes) (hk : RowRd 1 IntEl w uk kids) (hp : RowRd 1 PatEl w up pats) (hs : s.size ≤ maxLen) (hh : NdHead ⟨5, at_, 0, s, kids, pats⟩) :
    Calls Tryz.prog 26 #[.agg #[vt, vn], .agg #[.int .i64 5, .int .i64 at_, .int .i64 0, .string s, uk, up]] w fun e w' => e = .returned (.bool (propB (NdOkP nodes ⟨5, at_, 0, s, kids, pats⟩))) ∧ Below w.heap.size w w' := by
  have hn0 := hn
  have hp0 := hp
  obtain ⟨pt, nt, ct, rfl⟩ := ht
  obtain ⟨pn, cn, rfl, hmn, hnf⟩ := hn.form
  obtain ⟨bk, ck, rfl, hmk, hkf⟩ := hk.form
  obtain ⟨bp, cp, rfl, hmp, hpf⟩ := hp.form
  clear hn hk hp
  unfold maxLen at hmn hmk hmp
  have HH := Lib.hid hh
  simp only [NdHead] at hh
  have d1 : decide (at_ < 0) = false := by simp; omega
  have f1 : ¬ at_ < 0 := by omega
  clear hh
  go_enter Tryz.func26, Tryz.ntmps26
  go_wp2
  go_loop [46] (fun i => ∃ m : Nat, i = .int .i64 m ∧ m ≤ kids.length ∧ ∀ j (hj : j < m) (h : j < kids.length), 0 ≤ kids[j] ∧ kids[j] < nodes.length) (fun i => kids.length - (intOf i).toNat)
  case atStart => exact ⟨0, rfl, Nat.zero_le _, fun j hj => absurd hj (by omega)⟩
  case round =>
    obtain ⟨m, rfl, hm, hall⟩ := hrel
    have HA := Lib.hid hall
    clear hall
    by_cases hlt : m < kids.length
    · obtain ⟨b2, o2, rfl, hb2, hc2⟩ := hkf (by omega)
      obtain ⟨g0, j0, j1⟩ := hc2 m hlt
      rw [Nat.mul_one] at g0
      clear hc2 hkf
      obtain ⟨y, hy⟩ : ∃ y, y = kids[m] := ⟨_, rfl⟩
      rw [← hy] at g0 j0 j1
      have hmem : y ∈ kids := by rw [hy]; exact List.getElem_mem _
      have HY := Lib.hid hy
      clear hy
      by_cases h0 : y < 0
      · have HB := Lib.hid (propB_f (fun h : NdOkP nodes ⟨5, at_, 0, s, kids, pats⟩ => by have := (h.2.1 y hmem).1; omega))
        clear hmem
        go_wp2
        go_ret
        exact ⟨ret_bool HB.out.symm, Joins.below_alloc2 w _ _⟩
      · by_cases h1 : (nodes.length : Int) ≤ y
        · have HB := Lib.hid (propB_f (fun h : NdOkP nodes ⟨5, at_, 0, s, kids, pats⟩ => by have := (h.2.1 y hmem).2; omega))
          clear hmem
          go_wp2
          go_ret
          exact ⟨ret_bool HB.out.symm, Joins.below_alloc2 w _ _⟩
        · clear hmem
          go_wp2
          go_round
          case rel => exact ⟨m + 1, by go_num, by omega, fun j hj h => by
              by_cases he : j = m
              · subst he; rw [← HY.out]; exact ⟨by omega, by omega⟩
              · exact HA.out j (by omega) h⟩
          case measure => simp [intOf]; omega
    · obtain rfl : m = kids.length := by omega
      have hall : ∀ k ∈ kids, 0 ≤ k ∧ k < nodes.length := fun k hk => by
        obtain ⟨i, hi, rfl⟩ := List.getElem_of_mem hk
        exact HA.out i hi hi
      have HAll := Lib.hid hall
      clear hall HA
      have HP := Lib.hid (nd_named HH.out HAll.out (by simp [namedK]) (by decide))
      go_wp2_with fail
      refine (sNameOk _ _ hs).mono ?_
      rintro e w1 ⟨rfl, hb1⟩
      obtain ⟨hc1, hf1⟩ := bcell hb1
      have hs1 := hb1.size
      simp at hs1
      have B1 : Below w.heap.size w w1 := below_tr (Joins.below_alloc2 w _ _) hb1
      cases hx : nameB s
      · have HQ := Lib.hid (propB_f (fun h => by have := (HP.out.1 h).1; rw [hx] at this; cases this))
        clear hx
        go_wp2
        go_ret
        exact ⟨ret_bool HQ.out.symm, B1⟩
      · have c0 : w1.cell? ⟨w.heap.size + 1, 0, none⟩ = some (.int .i64 5) := by rw [hc1 _ _ (by simp)]; simp
        have c4 : w1.cell? ⟨w.heap.size + 1, 4, none⟩ = some (.slice bk kids.length ck) := by rw [hc1 _ _ (by simp)]; simp
        have c5 : w1.cell? ⟨w.heap.size + 1, 5, none⟩ = some (.slice bp pats.length cp) := by rw [hc1 _ _ (by simp)]; simp
        have p1 : w1.cell? ⟨w.heap.size, 1, none⟩ = some (.slice pn nodes.length cn) := by rw [hc1 _ _ (by simp; omega)]; simp
        have HX := Lib.hid hx
        clear hc1 hf1 hx
        by_cases hz : pats.length = 0
        · have hz1 : ((pats.length : Int) == 0) = true := by simpa using hz
          have HQ := Lib.hid (show NdOkP nodes ⟨5, at_, 0, s, kids, pats⟩ ↔ (kids.length : Int) = kidsN 5 from HP.out.trans ⟨fun h => h.2.2, fun h => ⟨HX.out, nil_of_len hz, h⟩⟩)
          clear hz
          go_wp2_with fail
          go_quiet (fail)
          go_wp2_with fail
          go_quiet ((go_at_call 57; first | exact still_more (sKids _ _) | exact still_one (sKids _ _)))
          go_wp2
          go_ret
          exact ⟨ret_bool (beq_prop HQ.out), below_drewN (below_drewN (B1) _) _⟩
        · have hz1 : ((pats.length : Int) == 0) = false := by simpa using hz
          have HQ := Lib.hid (propB_f (fun h => ne_nil_of_len hz (HP.out.1 h).2.1))
          clear hz
          go_wp2_with fail
          go_quiet (fail)
          go_wp2_with fail
          go_quiet (fail)
          go_wp2
          go_ret
          exact ⟨ret_bool HQ.out.symm, below_drewN (below_drewN (B1) _) _⟩
set_option maxHeartbeats 8000000 in
theorem sNode_k7 (vt vn : Value) (at_ : Int) (s : ByteArray) (kids : List Int) (pats : List (List PN)) (nodes : List Nd) (uk up : Value) (w : World)
    (ht : ∃ pt nt ct, vt = .slice pt nt ct) (hn : RowRd 6 NdEl w vn nodes) (hk : RowRd 1 IntEl w uk kids) (hp : RowRd 1 PatEl w up pats) (hs : s.size ≤ maxLen) (hh : NdHead ⟨7, at_, 0, s, kids, pats⟩) :
    Calls Tryz.prog 26 #[.agg #[vt, vn], .agg #[.int .i64 7, .int .i64 at_, .int .i64 0, .string s, uk, up]] w fun e w' => e = .returned (.bool (propB (NdOkP nodes ⟨7, at_, 0, s, kids, pats⟩))) ∧ Below w.heap.size w w' := by
  have hn0 := hn
  have hp0 := hp
  obtain ⟨pt, nt, ct, rfl⟩ := ht
  obtain ⟨pn, cn, rfl, hmn, hnf⟩ := hn.form
  obtain ⟨bk, ck, rfl, hmk, hkf⟩ := hk.form
  obtain ⟨bp, cp, rfl, hmp, hpf⟩ := hp.form
  clear hn hk hp
  unfold maxLen at hmn hmk hmp
  have HH := Lib.hid hh
  simp only [NdHead] at hh
  have d1 : decide (at_ < 0) = false := by simp; omega
  have f1 : ¬ at_ < 0 := by omega
  clear hh
  go_enter Tryz.func26, Tryz.ntmps26
  go_wp2
  go_loop [46] (fun i => ∃ m : Nat, i = .int .i64 m ∧ m ≤ kids.length ∧ ∀ j (hj : j < m) (h : j < kids.length), 0 ≤ kids[j] ∧ kids[j] < nodes.length) (fun i => kids.length - (intOf i).toNat)
  case atStart => exact ⟨0, rfl, Nat.zero_le _, fun j hj => absurd hj (by omega)⟩
  case round =>
    obtain ⟨m, rfl, hm, hall⟩ := hrel
    have HA := Lib.hid hall
    clear hall
    by_cases hlt : m < kids.length
    · obtain ⟨b2, o2, rfl, hb2, hc2⟩ := hkf (by omega)
      obtain ⟨g0, j0, j1⟩ := hc2 m hlt
      rw [Nat.mul_one] at g0
      clear hc2 hkf
      obtain ⟨y, hy⟩ : ∃ y, y = kids[m] := ⟨_, rfl⟩
      rw [← hy] at g0 j0 j1
      have hmem : y ∈ kids := by rw [hy]; exact List.getElem_mem _
      have HY := Lib.hid hy
      clear hy
      by_cases h0 : y < 0
      · have HB := Lib.hid (propB_f (fun h : NdOkP nodes ⟨7, at_, 0, s, kids, pats⟩ => by have := (h.2.1 y hmem).1; omega))
        clear hmem
        go_wp2
        go_ret
        exact ⟨ret_bool HB.out.symm, Joins.below_alloc2 w _ _⟩
      · by_cases h1 : (nodes.length : Int) ≤ y
        · have HB := Lib.hid (propB_f (fun h : NdOkP nodes ⟨7, at_, 0, s, kids, pats⟩ => by have := (h.2.1 y hmem).2; omega))
          clear hmem
          go_wp2
          go_ret
          exact ⟨ret_bool HB.out.symm, Joins.below_alloc2 w _ _⟩
        · clear hmem
          go_wp2
          go_round
          case rel => exact ⟨m + 1, by go_num, by omega, fun j hj h => by
              by_cases he : j = m
              · subst he; rw [← HY.out]; exact ⟨by omega, by omega⟩
              · exact HA.out j (by omega) h⟩
          case measure => simp [intOf]; omega
    · obtain rfl : m = kids.length := by omega
      have hall : ∀ k ∈ kids, 0 ≤ k ∧ k < nodes.length := fun k hk => by
        obtain ⟨i, hi, rfl⟩ := List.getElem_of_mem hk
        exact HA.out i hi hi
      have HAll := Lib.hid hall
      clear hall HA
      have HP := Lib.hid (nd_named HH.out HAll.out (by simp [namedK]) (by decide))
      go_wp2_with fail
      refine (sNameOk _ _ hs).mono ?_
      rintro e w1 ⟨rfl, hb1⟩
      obtain ⟨hc1, hf1⟩ := bcell hb1
      have hs1 := hb1.size
      simp at hs1
      have B1 : Below w.heap.size w w1 := below_tr (Joins.below_alloc2 w _ _) hb1
      cases hx : nameB s
      · have HQ := Lib.hid (propB_f (fun h => by have := (HP.out.1 h).1; rw [hx] at this; cases this))
        clear hx
        go_wp2
        go_ret
        exact ⟨ret_bool HQ.out.symm, B1⟩
      · have c0 : w1.cell? ⟨w.heap.size + 1, 0, none⟩ = some (.int .i64 7) := by rw [hc1 _ _ (by simp)]; simp
        have c4 : w1.cell? ⟨w.heap.size + 1, 4, none⟩ = some (.slice bk kids.length ck) := by rw [hc1 _ _ (by simp)]; simp
        have c5 : w1.cell? ⟨w.heap.size + 1, 5, none⟩ = some (.slice bp pats.length cp) := by rw [hc1 _ _ (by simp)]; simp
        have p1 : w1.cell? ⟨w.heap.size, 1, none⟩ = some (.slice pn nodes.length cn) := by rw [hc1 _ _ (by simp; omega)]; simp
        have HX := Lib.hid hx
        clear hc1 hf1 hx
        by_cases hz : pats.length = 0
        · have hz1 : ((pats.length : Int) == 0) = true := by simpa using hz
          have HQ := Lib.hid (show NdOkP nodes ⟨7, at_, 0, s, kids, pats⟩ ↔ (kids.length : Int) = kidsN 7 from HP.out.trans ⟨fun h => h.2.2, fun h => ⟨HX.out, nil_of_len hz, h⟩⟩)
          clear hz
          go_wp2_with fail
          go_quiet (fail)
          go_wp2_with fail
          go_quiet ((go_at_call 57; first | exact still_more (sKids _ _) | exact still_one (sKids _ _)))
          go_wp2
          go_ret
          exact ⟨ret_bool (beq_prop HQ.out), below_drewN (below_drewN (B1) _) _⟩
        · have hz1 : ((pats.length : Int) == 0) = false := by simpa using hz
          have HQ := Lib.hid (propB_f (fun h => ne_nil_of_len hz (HP.out.1 h).2.1))
          clear hz
          go_wp2_with fail
          go_quiet (fail)
          go_wp2_with fail
          go_quiet (fail)
          go_wp2
          go_ret
          exact ⟨ret_bool HQ.out.symm, below_drewN (below_drewN (B1) _) _⟩
set_option maxHeartbeats 8000000 in
theorem sNode_k15 (vt vn : Value) (at_ : Int) (s : ByteArray) (kids : List Int) (pats : List (List PN)) (nodes : List Nd) (uk up : Value) (w : World)
    (ht : ∃ pt nt ct, vt = .slice pt nt ct) (hn : RowRd 6 NdEl w vn nodes) (hk : RowRd 1 IntEl w uk kids) (hp : RowRd 1 PatEl w up pats) (hs : s.size ≤ maxLen) (hh : NdHead ⟨15, at_, 0, s, kids, pats⟩) :
    Calls Tryz.prog 26 #[.agg #[vt, vn], .agg #[.int .i64 15, .int .i64 at_, .int .i64 0, .string s, uk, up]] w fun e w' => e = .returned (.bool (propB (NdOkP nodes ⟨15, at_, 0, s, kids, pats⟩))) ∧ Below w.heap.size w w' := by
  have hn0 := hn
  have hp0 := hp
  obtain ⟨pt, nt, ct, rfl⟩ := ht
  obtain ⟨pn, cn, rfl, hmn, hnf⟩ := hn.form
  obtain ⟨bk, ck, rfl, hmk, hkf⟩ := hk.form
  obtain ⟨bp, cp, rfl, hmp, hpf⟩ := hp.form
  clear hn hk hp
  unfold maxLen at hmn hmk hmp
  have HH := Lib.hid hh
  simp only [NdHead] at hh
  have d1 : decide (at_ < 0) = false := by simp; omega
  have f1 : ¬ at_ < 0 := by omega
  clear hh
  go_enter Tryz.func26, Tryz.ntmps26
  go_wp2
  go_loop [46] (fun i => ∃ m : Nat, i = .int .i64 m ∧ m ≤ kids.length ∧ ∀ j (hj : j < m) (h : j < kids.length), 0 ≤ kids[j] ∧ kids[j] < nodes.length) (fun i => kids.length - (intOf i).toNat)
  case atStart => exact ⟨0, rfl, Nat.zero_le _, fun j hj => absurd hj (by omega)⟩
  case round =>
    obtain ⟨m, rfl, hm, hall⟩ := hrel
    have HA := Lib.hid hall
    clear hall
    by_cases hlt : m < kids.length
    · obtain ⟨b2, o2, rfl, hb2, hc2⟩ := hkf (by omega)
      obtain ⟨g0, j0, j1⟩ := hc2 m hlt
      rw [Nat.mul_one] at g0
      clear hc2 hkf
      obtain ⟨y, hy⟩ : ∃ y, y = kids[m] := ⟨_, rfl⟩
      rw [← hy] at g0 j0 j1
      have hmem : y ∈ kids := by rw [hy]; exact List.getElem_mem _
      have HY := Lib.hid hy
      clear hy
      by_cases h0 : y < 0
      · have HB := Lib.hid (propB_f (fun h : NdOkP nodes ⟨15, at_, 0, s, kids, pats⟩ => by have := (h.2.1 y hmem).1; omega))
        clear hmem
        go_wp2
        go_ret
        exact ⟨ret_bool HB.out.symm, Joins.below_alloc2 w _ _⟩
      · by_cases h1 : (nodes.length : Int) ≤ y
        · have HB := Lib.hid (propB_f (fun h : NdOkP nodes ⟨15, at_, 0, s, kids, pats⟩ => by have := (h.2.1 y hmem).2; omega))
          clear hmem
          go_wp2
          go_ret
          exact ⟨ret_bool HB.out.symm, Joins.below_alloc2 w _ _⟩
        · clear hmem
          go_wp2
          go_round
          case rel => exact ⟨m + 1, by go_num, by omega, fun j hj h => by
              by_cases he : j = m
              · subst he; rw [← HY.out]; exact ⟨by omega, by omega⟩
              · exact HA.out j (by omega) h⟩
          case measure => simp [intOf]; omega
    · obtain rfl : m = kids.length := by omega
      have hall : ∀ k ∈ kids, 0 ≤ k ∧ k < nodes.length := fun k hk => by
        obtain ⟨i, hi, rfl⟩ := List.getElem_of_mem hk
        exact HA.out i hi hi
      have HAll := Lib.hid hall
      clear hall HA
      have HP := Lib.hid (nd_named HH.out HAll.out (by simp [namedK]) (by decide))
      go_wp2_with fail
      refine (sNameOk _ _ hs).mono ?_
      rintro e w1 ⟨rfl, hb1⟩
      obtain ⟨hc1, hf1⟩ := bcell hb1
      have hs1 := hb1.size
      simp at hs1
      have B1 : Below w.heap.size w w1 := below_tr (Joins.below_alloc2 w _ _) hb1
      cases hx : nameB s
      · have HQ := Lib.hid (propB_f (fun h => by have := (HP.out.1 h).1; rw [hx] at this; cases this))
        clear hx
        go_wp2
        go_ret
        exact ⟨ret_bool HQ.out.symm, B1⟩
      · have c0 : w1.cell? ⟨w.heap.size + 1, 0, none⟩ = some (.int .i64 15) := by rw [hc1 _ _ (by simp)]; simp
        have c4 : w1.cell? ⟨w.heap.size + 1, 4, none⟩ = some (.slice bk kids.length ck) := by rw [hc1 _ _ (by simp)]; simp
        have c5 : w1.cell? ⟨w.heap.size + 1, 5, none⟩ = some (.slice bp pats.length cp) := by rw [hc1 _ _ (by simp)]; simp
        have p1 : w1.cell? ⟨w.heap.size, 1, none⟩ = some (.slice pn nodes.length cn) := by rw [hc1 _ _ (by simp; omega)]; simp
        have HX := Lib.hid hx
        clear hc1 hf1 hx
        by_cases hz : pats.length = 0
        · have hz1 : ((pats.length : Int) == 0) = true := by simpa using hz
          have HQ := Lib.hid (show NdOkP nodes ⟨15, at_, 0, s, kids, pats⟩ ↔ (kids.length : Int) = kidsN 15 from HP.out.trans ⟨fun h => h.2.2, fun h => ⟨HX.out, nil_of_len hz, h⟩⟩)
          clear hz
          go_wp2_with fail
          go_quiet (fail)
          go_wp2_with fail
          go_quiet ((go_at_call 57; first | exact still_more (sKids _ _) | exact still_one (sKids _ _)))
          go_wp2
          go_ret
          exact ⟨ret_bool (beq_prop HQ.out), below_drewN (below_drewN (B1) _) _⟩
        · have hz1 : ((pats.length : Int) == 0) = false := by simpa using hz
          have HQ := Lib.hid (propB_f (fun h => ne_nil_of_len hz (HP.out.1 h).2.1))
          clear hz
          go_wp2_with fail
          go_quiet (fail)
          go_wp2_with fail
          go_quiet (fail)
          go_wp2
          go_ret
          exact ⟨ret_bool HQ.out.symm, below_drewN (below_drewN (B1) _) _⟩
set_option maxHeartbeats 8000000 in
theorem sNode_k10 (vt vn : Value) (at_ : Int) (s : ByteArray) (kids : List Int) (pats : List (List PN)) (nodes : List Nd) (uk up : Value) (w : World)
    (ht : ∃ pt nt ct, vt = .slice pt nt ct) (hn : RowRd 6 NdEl w vn nodes) (hk : RowRd 1 IntEl w uk kids) (hp : RowRd 1 PatEl w up pats) (hs : s.size ≤ maxLen) (hh : NdHead ⟨10, at_, 0, s, kids, pats⟩) :
    Calls Tryz.prog 26 #[.agg #[vt, vn], .agg #[.int .i64 10, .int .i64 at_, .int .i64 0, .string s, uk, up]] w fun e w' => e = .returned (.bool (propB (NdOkP nodes ⟨10, at_, 0, s, kids, pats⟩))) ∧ Below w.heap.size w w' := by
  have hn0 := hn
  have hp0 := hp
  obtain ⟨pt, nt, ct, rfl⟩ := ht
  obtain ⟨pn, cn, rfl, hmn, hnf⟩ := hn.form
  obtain ⟨bk, ck, rfl, hmk, hkf⟩ := hk.form
  obtain ⟨bp, cp, rfl, hmp, hpf⟩ := hp.form
  clear hn hk hp
  unfold maxLen at hmn hmk hmp
  have HH := Lib.hid hh
  simp only [NdHead] at hh
  have d1 : decide (at_ < 0) = false := by simp; omega
  have f1 : ¬ at_ < 0 := by omega
  clear hh
  go_enter Tryz.func26, Tryz.ntmps26
  go_wp2
  go_loop [46] (fun i => ∃ m : Nat, i = .int .i64 m ∧ m ≤ kids.length ∧ ∀ j (hj : j < m) (h : j < kids.length), 0 ≤ kids[j] ∧ kids[j] < nodes.length) (fun i => kids.length - (intOf i).toNat)
  case atStart => exact ⟨0, rfl, Nat.zero_le _, fun j hj => absurd hj (by omega)⟩
  case round =>
    obtain ⟨m, rfl, hm, hall⟩ := hrel
    have HA := Lib.hid hall
    clear hall
    by_cases hlt : m < kids.length
    · obtain ⟨b2, o2, rfl, hb2, hc2⟩ := hkf (by omega)
      obtain ⟨g0, j0, j1⟩ := hc2 m hlt
      rw [Nat.mul_one] at g0
      clear hc2 hkf
      obtain ⟨y, hy⟩ : ∃ y, y = kids[m] := ⟨_, rfl⟩
      rw [← hy] at g0 j0 j1
      have hmem : y ∈ kids := by rw [hy]; exact List.getElem_mem _
      have HY := Lib.hid hy
      clear hy
      by_cases h0 : y < 0
      · have HB := Lib.hid (propB_f (fun h : NdOkP nodes ⟨10, at_, 0, s, kids, pats⟩ => by have := (h.2.1 y hmem).1; omega))
        clear hmem
        go_wp2
        go_ret
        exact ⟨ret_bool HB.out.symm, Joins.below_alloc2 w _ _⟩
      · by_cases h1 : (nodes.length : Int) ≤ y
        · have HB := Lib.hid (propB_f (fun h : NdOkP nodes ⟨10, at_, 0, s, kids, pats⟩ => by have := (h.2.1 y hmem).2; omega))
          clear hmem
          go_wp2
          go_ret
          exact ⟨ret_bool HB.out.symm, Joins.below_alloc2 w _ _⟩
        · clear hmem
          go_wp2
          go_round
          case rel => exact ⟨m + 1, by go_num, by omega, fun j hj h => by
              by_cases he : j = m
              · subst he; rw [← HY.out]; exact ⟨by omega, by omega⟩
              · exact HA.out j (by omega) h⟩
          case measure => simp [intOf]; omega
    · obtain rfl : m = kids.length := by omega
      have hall : ∀ k ∈ kids, 0 ≤ k ∧ k < nodes.length := fun k hk => by
        obtain ⟨i, hi, rfl⟩ := List.getElem_of_mem hk
        exact HA.out i hi hi
      have HAll := Lib.hid hall
      clear hall HA
      have HP := Lib.hid (nd_prim HH.out HAll.out)
      go_wp2_with fail
      refine (sPrim _ _).mono ?_
      rintro e w1 ⟨rfl, hb1⟩
      obtain ⟨hc1, hf1⟩ := bcell hb1
      have hs1 := hb1.size
      simp at hs1
      have B1 : Below w.heap.size w w1 := below_tr (Joins.below_alloc2 w _ _) hb1
      cases hx : primB s
      · have HQ := Lib.hid (propB_f (fun h => by have := (HP.out.1 h).1; rw [hx] at this; cases this))
        clear hx
        go_wp2
        go_ret
        exact ⟨ret_bool HQ.out.symm, B1⟩
      · have c0 : w1.cell? ⟨w.heap.size + 1, 0, none⟩ = some (.int .i64 10) := by rw [hc1 _ _ (by simp)]; simp
        have c4 : w1.cell? ⟨w.heap.size + 1, 4, none⟩ = some (.slice bk kids.length ck) := by rw [hc1 _ _ (by simp)]; simp
        have c5 : w1.cell? ⟨w.heap.size + 1, 5, none⟩ = some (.slice bp pats.length cp) := by rw [hc1 _ _ (by simp)]; simp
        have p1 : w1.cell? ⟨w.heap.size, 1, none⟩ = some (.slice pn nodes.length cn) := by rw [hc1 _ _ (by simp; omega)]; simp
        have HX := Lib.hid hx
        clear hc1 hf1 hx
        by_cases hz : pats.length = 0
        · have hz1 : ((pats.length : Int) == 0) = true := by simpa using hz
          have HQ := Lib.hid (show NdOkP nodes ⟨10, at_, 0, s, kids, pats⟩ ↔ (kids.length : Int) = kidsN 10 from HP.out.trans ⟨fun h => h.2.2, fun h => ⟨HX.out, nil_of_len hz, h⟩⟩)
          clear hz
          go_wp2_with fail
          go_quiet (fail)
          go_wp2_with fail
          go_quiet ((go_at_call 57; first | exact still_more (sKids _ _) | exact still_one (sKids _ _)))
          go_wp2
          go_ret
          exact ⟨ret_bool (beq_prop HQ.out), below_drewN (below_drewN (B1) _) _⟩
        · have hz1 : ((pats.length : Int) == 0) = false := by simpa using hz
          have HQ := Lib.hid (propB_f (fun h => ne_nil_of_len hz (HP.out.1 h).2.1))
          clear hz
          go_wp2_with fail
          go_quiet (fail)
          go_wp2_with fail
          go_quiet (fail)
          go_wp2
          go_ret
          exact ⟨ret_bool HQ.out.symm, below_drewN (below_drewN (B1) _) _⟩
end Go.Proofs.YtaibgnfjjbncpaaGreat
namespace Go.Proofs.YtaibgnfjjbncpaaGreat
set_option linter.unusedVariables false
set_option maxRecDepth 100000
open Go.ChangeShapes Go.WideShapes Go.ChangeAt Go.RowKit

set_option maxHeartbeats 8000000 in
theorem sNode_k8 (vt vn : Value) (at_ : Int) (s : ByteArray) (kids : List Int) (pats : List (List PN)) (nodes : List Nd) (uk up : Value) (w : World)
    (ht : ∃ pt nt ct, vt = .slice pt nt ct) (hn : RowRd 6 NdEl w vn nodes) (hk : RowRd 1 IntEl w uk kids) (hp : RowRd 1 PatEl w up pats) (hs : s.size ≤ maxLen) (hh : NdHead ⟨8, at_, 0, s, kids, pats⟩) :
    Calls Tryz.prog 26 #[.agg #[vt, vn], .agg #[.int .i64 8, .int .i64 at_, .int .i64 0, .string s, uk, up]] w fun e w' => e = .returned (.bool (propB (NdOkP nodes ⟨8, at_, 0, s, kids, pats⟩))) ∧ Below w.heap.size w w' := by
  have hn0 := hn
  have hp0 := hp
  obtain ⟨pt, nt, ct, rfl⟩ := ht
  obtain ⟨pn, cn, rfl, hmn, hnf⟩ := hn.form
  obtain ⟨bk, ck, rfl, hmk, hkf⟩ := hk.form
  obtain ⟨bp, cp, rfl, hmp, hpf⟩ := hp.form
  clear hn hk hp
  unfold maxLen at hmn hmk hmp
  have HH := Lib.hid hh
  simp only [NdHead] at hh
  have d1 : decide (at_ < 0) = false := by simp; omega
  have f1 : ¬ at_ < 0 := by omega
  clear hh
  go_enter Tryz.func26, Tryz.ntmps26
  go_wp2
  go_loop [46] (fun i => ∃ m : Nat, i = .int .i64 m ∧ m ≤ kids.length ∧ ∀ j (hj : j < m) (h : j < kids.length), 0 ≤ kids[j] ∧ kids[j] < nodes.length) (fun i => kids.length - (intOf i).toNat)
  case atStart => exact ⟨0, rfl, Nat.zero_le _, fun j hj => absurd hj (by omega)⟩
  case round =>
    obtain ⟨m, rfl, hm, hall⟩ := hrel
    have HA := Lib.hid hall
    clear hall
    by_cases hlt : m < kids.length
    · obtain ⟨b2, o2, rfl, hb2, hc2⟩ := hkf (by omega)
      obtain ⟨g0, j0, j1⟩ := hc2 m hlt
      rw [Nat.mul_one] at g0
      clear hc2 hkf
      obtain ⟨y, hy⟩ : ∃ y, y = kids[m] := ⟨_, rfl⟩
      rw [← hy] at g0 j0 j1
      have hmem : y ∈ kids := by rw [hy]; exact List.getElem_mem _
      have HY := Lib.hid hy
      clear hy
      by_cases h0 : y < 0
      · have HB := Lib.hid (propB_f (fun h : NdOkP nodes ⟨8, at_, 0, s, kids, pats⟩ => by have := (h.2.1 y hmem).1; omega))
        clear hmem
        go_wp2
        go_ret
        exact ⟨ret_bool HB.out.symm, Joins.below_alloc2 w _ _⟩
      · by_cases h1 : (nodes.length : Int) ≤ y
        · have HB := Lib.hid (propB_f (fun h : NdOkP nodes ⟨8, at_, 0, s, kids, pats⟩ => by have := (h.2.1 y hmem).2; omega))
          clear hmem
          go_wp2
          go_ret
          exact ⟨ret_bool HB.out.symm, Joins.below_alloc2 w _ _⟩
        · clear hmem
          go_wp2
          go_round
          case rel => exact ⟨m + 1, by go_num, by omega, fun j hj h => by
              by_cases he : j = m
              · subst he; rw [← HY.out]; exact ⟨by omega, by omega⟩
              · exact HA.out j (by omega) h⟩
          case measure => simp [intOf]; omega
    · obtain rfl : m = kids.length := by omega
      have hall : ∀ k ∈ kids, 0 ≤ k ∧ k < nodes.length := fun k hk => by
        obtain ⟨i, hi, rfl⟩ := List.getElem_of_mem hk
        exact HA.out i hi hi
      have HAll := Lib.hid hall
      clear hall HA
      have HP := Lib.hid (nd_rec HH.out HAll.out)
      go_wp2_with fail
      refine (sNameOk _ _ hs).mono ?_
      rintro e w1 ⟨rfl, hb1⟩
      obtain ⟨hc1, hf1⟩ := bcell hb1
      have hs1 := hb1.size
      simp at hs1
      have B1 : Below w.heap.size w w1 := below_tr (Joins.below_alloc2 w _ _) hb1
      cases hx : nameB s
      · have HQ := Lib.hid (propB_f (fun h => by have := (HP.out.1 h).1; rw [hx] at this; cases this))
        clear hx
        go_wp2
        go_ret
        exact ⟨ret_bool HQ.out.symm, B1⟩
      · have c0 : w1.cell? ⟨w.heap.size + 1, 0, none⟩ = some (.int .i64 8) := by rw [hc1 _ _ (by simp)]; simp
        have c4 : w1.cell? ⟨w.heap.size + 1, 4, none⟩ = some (.slice bk kids.length ck) := by rw [hc1 _ _ (by simp)]; simp
        have c5 : w1.cell? ⟨w.heap.size + 1, 5, none⟩ = some (.slice bp pats.length cp) := by rw [hc1 _ _ (by simp)]; simp
        have p1 : w1.cell? ⟨w.heap.size, 1, none⟩ = some (.slice pn nodes.length cn) := by rw [hc1 _ _ (by simp; omega)]; simp
        have HX := Lib.hid hx
        clear hc1 hf1 hx
        have hK1 : Kept w w1 := (Kept.al2 _ _ _).trans (Kept.of_below hb1)
        by_cases h2 : kids.length = 2
        · have h2a : ((kids.length : Int) != 2) = false := by simp [h2]
          have h2b : ((kids.length : Int) == 2) = true := by simp [h2]
          obtain ⟨b2, o2, rfl, hb2, hc2⟩ := hkf (by omega)
          obtain ⟨g0, j0, j1⟩ := IntEl.st w w1 b2 _ _ hK1 hb2 (hc2 0 (by omega))
          simp only [Nat.zero_mul, Nat.add_zero] at g0
          clear hc2 hkf
          obtain ⟨y, hy⟩ : ∃ y, y = kids[0]'(by omega) := ⟨_, rfl⟩
          have hr := HAll.out y (by rw [hy]; exact List.getElem_mem _)
          rw [← hy] at g0 j0 j1
          obtain ⟨m, rfl⟩ : ∃ m : Nat, y = m := ⟨y.toNat, by omega⟩
          have hm : m < nodes.length := by omega
          obtain ⟨bq, oq, rfl, hbq, hcq⟩ := hnf (by omega)
          obtain ⟨⟨q0, l0⟩, -⟩ := NdEl.st w w1 bq _ _ hK1 hbq (hcq m hm)
          clear hcq hnf
          obtain ⟨kk, hkk⟩ : ∃ kk, kk = nodes[m].kind := ⟨_, rfl⟩
          rw [← hkk] at q0 l0
          have hfk : firstKind nodes kids = some kk := by rw [hkk]; exact first_at (by omega) hm hy
          have HFK := Lib.hid hfk
          have dm : decide (m < nodes.length) = true := by simpa using hm
          have hk0 : 0 < kids.length := by omega
          have hr' := hr.1
          clear hy hkk hfk hr
          by_cases h5 : kk = 5
          · have h5a : (kk != 5) = false := by simp [h5]
            have h5b : (kk == 5) = true := by simp [h5]
            by_cases hz : pats.length = 0
            · have hz1 : ((pats.length : Int) == 0) = true := by simpa using hz
              have HQ := Lib.hid (show NdOkP nodes ⟨8, at_, 0, s, kids, pats⟩ ↔ (kids.length : Int) = kidsN 8 from HP.out.trans ⟨fun h => by rw [h2]; decide, fun h => ⟨HX.out, h2, by rw [HFK.out, h5], nil_of_len hz⟩⟩)
              clear hz h2 h5
              go_wp2_with fail
              go_quiet (fail)
              go_wp2_with fail
              go_quiet ((go_at_call 57; first | exact still_more (sKids _ _) | exact still_one (sKids _ _)))
              go_wp2
              go_ret
              exact ⟨ret_bool (beq_prop HQ.out), below_drewN (below_drewN B1 _) _⟩
            · have hz1 : ((pats.length : Int) == 0) = false := by simpa using hz
              have HQ := Lib.hid (propB_f (fun h => ne_nil_of_len hz (HP.out.1 h).2.2.2))
              clear hz h2 h5
              go_wp2_with fail
              go_quiet (fail)
              go_wp2_with fail
              go_quiet (fail)
              go_wp2
              go_ret
              exact ⟨ret_bool HQ.out.symm, below_drewN (below_drewN B1 _) _⟩
          · have h5a : (kk != 5) = true := by simpa using h5
            have h5b : (kk == 5) = false := by simpa using h5
            have HQ := Lib.hid (propB_f (fun h => h5 (by have := (HP.out.1 h).2.2.1; rw [HFK.out] at this; exact Option.some.inj this)))
            clear h5 h2
            go_wp2_with fail
            go_quiet (fail)
            go_wp2
            go_ret
            exact ⟨ret_bool HQ.out.symm, below_drewN B1 _⟩
        · have h2a : ((kids.length : Int) != 2) = true := by simp; omega
          have h2c : ((kids.length : Int) == 2) = false := by simp; omega
          have HQ := Lib.hid (propB_f (fun h => h2 (HP.out.1 h).2.1))
          clear h2
          go_wp2_with fail
          go_quiet (fail)
          go_wp2
          go_ret
          exact ⟨ret_bool HQ.out.symm, below_drewN B1 _⟩
set_option maxHeartbeats 8000000 in
theorem sNode_k4 (vt vn : Value) (at_ : Int) (s : ByteArray) (kids : List Int) (pats : List (List PN)) (nodes : List Nd) (uk up : Value) (w : World)
    (ht : ∃ pt nt ct, vt = .slice pt nt ct) (hn : RowRd 6 NdEl w vn nodes) (hk : RowRd 1 IntEl w uk kids) (hp : RowRd 1 PatEl w up pats) (hs : s.size ≤ maxLen) (hh : NdHead ⟨4, at_, 0, s, kids, pats⟩) :
    Calls Tryz.prog 26 #[.agg #[vt, vn], .agg #[.int .i64 4, .int .i64 at_, .int .i64 0, .string s, uk, up]] w fun e w' => e = .returned (.bool (propB (NdOkP nodes ⟨4, at_, 0, s, kids, pats⟩))) ∧ Below w.heap.size w w' := by
  have hn0 := hn
  have hp0 := hp
  obtain ⟨pt, nt, ct, rfl⟩ := ht
  obtain ⟨pn, cn, rfl, hmn, hnf⟩ := hn.form
  obtain ⟨bk, ck, rfl, hmk, hkf⟩ := hk.form
  obtain ⟨bp, cp, rfl, hmp, hpf⟩ := hp.form
  clear hn hk hp
  unfold maxLen at hmn hmk hmp
  have HH := Lib.hid hh
  simp only [NdHead] at hh
  have d1 : decide (at_ < 0) = false := by simp; omega
  have f1 : ¬ at_ < 0 := by omega
  clear hh
  go_enter Tryz.func26, Tryz.ntmps26
  go_wp2
  go_loop [46] (fun i => ∃ m : Nat, i = .int .i64 m ∧ m ≤ kids.length ∧ ∀ j (hj : j < m) (h : j < kids.length), 0 ≤ kids[j] ∧ kids[j] < nodes.length) (fun i => kids.length - (intOf i).toNat)
  case atStart => exact ⟨0, rfl, Nat.zero_le _, fun j hj => absurd hj (by omega)⟩
  case round =>
    obtain ⟨m, rfl, hm, hall⟩ := hrel
    have HA := Lib.hid hall
    clear hall
    by_cases hlt : m < kids.length
    · obtain ⟨b2, o2, rfl, hb2, hc2⟩ := hkf (by omega)
      obtain ⟨g0, j0, j1⟩ := hc2 m hlt
      rw [Nat.mul_one] at g0
      clear hc2 hkf
      obtain ⟨y, hy⟩ : ∃ y, y = kids[m] := ⟨_, rfl⟩
      rw [← hy] at g0 j0 j1
      have hmem : y ∈ kids := by rw [hy]; exact List.getElem_mem _
      have HY := Lib.hid hy
      clear hy
      by_cases h0 : y < 0
      · have HB := Lib.hid (propB_f (fun h : NdOkP nodes ⟨4, at_, 0, s, kids, pats⟩ => by have := (h.2.1 y hmem).1; omega))
        clear hmem
        go_wp2
        go_ret
        exact ⟨ret_bool HB.out.symm, Joins.below_alloc2 w _ _⟩
      · by_cases h1 : (nodes.length : Int) ≤ y
        · have HB := Lib.hid (propB_f (fun h : NdOkP nodes ⟨4, at_, 0, s, kids, pats⟩ => by have := (h.2.1 y hmem).2; omega))
          clear hmem
          go_wp2
          go_ret
          exact ⟨ret_bool HB.out.symm, Joins.below_alloc2 w _ _⟩
        · clear hmem
          go_wp2
          go_round
          case rel => exact ⟨m + 1, by go_num, by omega, fun j hj h => by
              by_cases he : j = m
              · subst he; rw [← HY.out]; exact ⟨by omega, by omega⟩
              · exact HA.out j (by omega) h⟩
          case measure => simp [intOf]; omega
    · obtain rfl : m = kids.length := by omega
      have hall : ∀ k ∈ kids, 0 ≤ k ∧ k < nodes.length := fun k hk => by
        obtain ⟨i, hi, rfl⟩ := List.getElem_of_mem hk
        exact HA.out i hi hi
      have HAll := Lib.hid hall
      clear hall HA
      have HP := Lib.hid (nd_con HH.out HAll.out)
      by_cases hz : pats.length = 0
      · have hz1 : ((pats.length : Int) == 0) = true := by simpa using hz
        by_cases h2 : kids.length = 1
        · have h2a : ((kids.length : Int) == 1) = true := by simp [h2]
          obtain ⟨b2, o2, rfl, hb2, hc2⟩ := hkf (by omega)
          obtain ⟨g0, j0, j1⟩ := IntEl.st w ((w.alloc (.cells #[.slice pt nt ct, .slice pn nodes.length cn] 31)).alloc (.cells #[.int .i64 4, .int .i64 at_, .int .i64 0, .string s, .slice (some ⟨b2, o2, none⟩) kids.length ck, .slice bp pats.length cp] 49)) b2 _ _ (Kept.al2 _ _ _) hb2 (hc2 0 (by omega))
          simp only [Nat.zero_mul, Nat.add_zero] at g0
          clear hc2 hkf
          obtain ⟨y, hy⟩ : ∃ y, y = kids[0]'(by omega) := ⟨_, rfl⟩
          have hr := HAll.out y (by rw [hy]; exact List.getElem_mem _)
          rw [← hy] at g0 j0 j1
          obtain ⟨m, rfl⟩ : ∃ m : Nat, y = m := ⟨y.toNat, by omega⟩
          have hm : m < nodes.length := by omega
          obtain ⟨bq, oq, rfl, hbq, hcq⟩ := hnf (by omega)
          obtain ⟨⟨q0, l0⟩, -⟩ := NdEl.st w ((w.alloc (.cells #[.slice pt nt ct, .slice (some ⟨bq, oq, none⟩) nodes.length cn] 31)).alloc (.cells #[.int .i64 4, .int .i64 at_, .int .i64 0, .string s, .slice (some ⟨b2, o2, none⟩) kids.length ck, .slice bp pats.length cp] 49)) bq _ _ (Kept.al2 _ _ _) hbq (hcq m hm)
          clear hcq hnf
          obtain ⟨kk, hkk⟩ : ∃ kk, kk = nodes[m].kind := ⟨_, rfl⟩
          rw [← hkk] at q0 l0
          have hfk : firstKind nodes kids = some kk := by rw [hkk]; exact first_at (by omega) hm hy
          have HFK := Lib.hid hfk
          have dm : decide (m < nodes.length) = true := by simpa using hm
          have hk0 : 0 < kids.length := by omega
          have hr' := hr.1
          clear hy hkk hfk hr
          by_cases h5 : kk = 11
          · have h5a : (kk == 11) = true := by simp [h5]
            have HW := Lib.hid (show (decide (kids.length = 1) && decide (firstKind nodes kids = some 11)) = true from by rw [HFK.out, h5]; simp [h2])
            clear h2 h5
            have HQ := Lib.hid (show propB (NdOkP nodes ⟨4, at_, 0, s, kids, pats⟩) = conOkB s (kids.length : Int) true from by
              by_cases hb : conOkB s (kids.length : Int) true = true
              · rw [hb]; exact propB_t (HP.out.2 ⟨nil_of_len hz, by rw [HW.out]; exact hb⟩)
              · rw [Bool.not_eq_true] at hb; rw [hb]; exact propB_f (fun h => by have := (HP.out.1 h).2; rw [HW.out, hb] at this; cases this))
            clear hz
            go_wp2_with fail
            go_quiet ((go_at_call 55; first | exact still_more (sConOk4 _ _ _ _ hs (by omega)) | exact still_one (sConOk4 _ _ _ _ hs (by omega))))
            go_wp2
            go_ret
            exact ⟨ret_bool HQ.out.symm, below_drewN (Joins.below_alloc2 w _ _) _⟩
          · have h5a : (kk == 11) = false := by simpa using h5
            have HW := Lib.hid (show (decide (kids.length = 1) && decide (firstKind nodes kids = some 11)) = false from by rw [HFK.out]; simp [h5])
            clear h2 h5
            have HQ := Lib.hid (show propB (NdOkP nodes ⟨4, at_, 0, s, kids, pats⟩) = conOkB s (kids.length : Int) false from by
              by_cases hb : conOkB s (kids.length : Int) false = true
              · rw [hb]; exact propB_t (HP.out.2 ⟨nil_of_len hz, by rw [HW.out]; exact hb⟩)
              · rw [Bool.not_eq_true] at hb; rw [hb]; exact propB_f (fun h => by have := (HP.out.1 h).2; rw [HW.out, hb] at this; cases this))
            clear hz
            go_wp2_with fail
            go_quiet ((go_at_call 55; first | exact still_more (sConOk4 _ _ _ _ hs (by omega)) | exact still_one (sConOk4 _ _ _ _ hs (by omega))))
            go_wp2
            go_ret
            exact ⟨ret_bool HQ.out.symm, below_drewN (Joins.below_alloc2 w _ _) _⟩
        · have h2a : ((kids.length : Int) == 1) = false := by simp; omega
          have HW := Lib.hid (show (decide (kids.length = 1) && decide (firstKind nodes kids = some 11)) = false from by simp [h2])
          clear h2
          have HQ := Lib.hid (show propB (NdOkP nodes ⟨4, at_, 0, s, kids, pats⟩) = conOkB s (kids.length : Int) false from by
            by_cases hb : conOkB s (kids.length : Int) false = true
            · rw [hb]; exact propB_t (HP.out.2 ⟨nil_of_len hz, by rw [HW.out]; exact hb⟩)
            · rw [Bool.not_eq_true] at hb; rw [hb]; exact propB_f (fun h => by have := (HP.out.1 h).2; rw [HW.out, hb] at this; cases this))
          clear hz
          go_wp2_with fail
          go_quiet ((go_at_call 55; first | exact still_more (sConOk4 _ _ _ _ hs (by omega)) | exact still_one (sConOk4 _ _ _ _ hs (by omega))))
          go_wp2
          go_ret
          exact ⟨ret_bool HQ.out.symm, below_drewN (Joins.below_alloc2 w _ _) _⟩
      · have hz1 : ((pats.length : Int) == 0) = false := by simpa using hz
        have HQ := Lib.hid (propB_f (fun h => ne_nil_of_len hz (HP.out.1 h).1))
        clear hz
        go_wp2_with fail
        go_quiet (fail)
        go_wp2
        go_ret
        exact ⟨ret_bool HQ.out.symm, below_drewN (Joins.below_alloc2 w _ _) _⟩
end Go.Proofs.YtaibgnfjjbncpaaGreat
namespace Go.Proofs.YtaibgnfjjbncpaaGreat
set_option linter.unusedVariables false
set_option maxRecDepth 100000
open Go.ChangeShapes Go.WideShapes Go.ChangeAt Go.RowKit

set_option maxHeartbeats 8000000 in
theorem sNode_k13 (vt vn : Value) (at_ : Int) (s : ByteArray) (kids : List Int) (pats : List (List PN)) (nodes : List Nd) (uk up : Value) (w : World)
    (ht : ∃ pt nt ct, vt = .slice pt nt ct) (hn : RowRd 6 NdEl w vn nodes) (hk : RowRd 1 IntEl w uk kids) (hp : RowRd 1 PatEl w up pats) (hs : s.size ≤ maxLen) (hh : NdHead ⟨13, at_, 0, s, kids, pats⟩) :
    Calls Tryz.prog 26 #[.agg #[vt, vn], .agg #[.int .i64 13, .int .i64 at_, .int .i64 0, .string s, uk, up]] w fun e w' => e = .returned (.bool (propB (NdOkP nodes ⟨13, at_, 0, s, kids, pats⟩))) ∧ Below w.heap.size w w' := by
  have hn0 := hn
  have hp0 := hp
  obtain ⟨pt, nt, ct, rfl⟩ := ht
  obtain ⟨pn, cn, rfl, hmn, hnf⟩ := hn.form
  obtain ⟨bk, ck, rfl, hmk, hkf⟩ := hk.form
  obtain ⟨bp, cp, rfl, hmp, hpf⟩ := hp.form
  clear hn hk hp
  unfold maxLen at hmn hmk hmp
  have HH := Lib.hid hh
  simp only [NdHead] at hh
  have d1 : decide (at_ < 0) = false := by simp; omega
  have f1 : ¬ at_ < 0 := by omega
  clear hh
  go_enter Tryz.func26, Tryz.ntmps26
  go_wp2
  go_loop [46] (fun i => ∃ m : Nat, i = .int .i64 m ∧ m ≤ kids.length ∧ ∀ j (hj : j < m) (h : j < kids.length), 0 ≤ kids[j] ∧ kids[j] < nodes.length) (fun i => kids.length - (intOf i).toNat)
  case atStart => exact ⟨0, rfl, Nat.zero_le _, fun j hj => absurd hj (by omega)⟩
  case round =>
    obtain ⟨m, rfl, hm, hall⟩ := hrel
    have HA := Lib.hid hall
    clear hall
    by_cases hlt : m < kids.length
    · obtain ⟨b2, o2, rfl, hb2, hc2⟩ := hkf (by omega)
      obtain ⟨g0, j0, j1⟩ := hc2 m hlt
      rw [Nat.mul_one] at g0
      clear hc2 hkf
      obtain ⟨y, hy⟩ : ∃ y, y = kids[m] := ⟨_, rfl⟩
      rw [← hy] at g0 j0 j1
      have hmem : y ∈ kids := by rw [hy]; exact List.getElem_mem _
      have HY := Lib.hid hy
      clear hy
      by_cases h0 : y < 0
      · have HB := Lib.hid (propB_f (fun h : NdOkP nodes ⟨13, at_, 0, s, kids, pats⟩ => by have := (h.2.1 y hmem).1; omega))
        clear hmem
        go_wp2
        go_ret
        exact ⟨ret_bool HB.out.symm, Joins.below_alloc2 w _ _⟩
      · by_cases h1 : (nodes.length : Int) ≤ y
        · have HB := Lib.hid (propB_f (fun h : NdOkP nodes ⟨13, at_, 0, s, kids, pats⟩ => by have := (h.2.1 y hmem).2; omega))
          clear hmem
          go_wp2
          go_ret
          exact ⟨ret_bool HB.out.symm, Joins.below_alloc2 w _ _⟩
        · clear hmem
          go_wp2
          go_round
          case rel => exact ⟨m + 1, by go_num, by omega, fun j hj h => by
              by_cases he : j = m
              · subst he; rw [← HY.out]; exact ⟨by omega, by omega⟩
              · exact HA.out j (by omega) h⟩
          case measure => simp [intOf]; omega
    · obtain rfl : m = kids.length := by omega
      have hall : ∀ k ∈ kids, 0 ≤ k ∧ k < nodes.length := fun k hk => by
        obtain ⟨i, hi, rfl⟩ := List.getElem_of_mem hk
        exact HA.out i hi hi
      have HAll := Lib.hid hall
      clear hall HA
      have HP := Lib.hid (nd_match HH.out HAll.out)
      by_cases he : s.toList = []
      · have he1 : s.toList.isEmpty = true := by simp [he]
        go_wp2
        go_loopw [160] (fun i wr => ∃ k : Nat, i = .int .i64 k ∧ k ≤ pats.length ∧ (∀ j (hj : j < k) (h : j < pats.length), PatOkP pats[j]) ∧ Below ((w.alloc (.cells #[.slice pt nt ct, .slice pn nodes.length cn] 31)).alloc (.cells #[.int .i64 13, .int .i64 at_, .int .i64 0, .string s, .slice bk kids.length ck, .slice bp pats.length cp] 49)).heap.size ((w.alloc (.cells #[.slice pt nt ct, .slice pn nodes.length cn] 31)).alloc (.cells #[.int .i64 13, .int .i64 at_, .int .i64 0, .string s, .slice bk kids.length ck, .slice bp pats.length cp] 49)) wr) (fun i _ => pats.length - (intOf i).toNat)
        case atStart => exact ⟨0, rfl, Nat.zero_le _, fun j hj => absurd hj (by omega), Below.refl _ _⟩
        case round =>
          obtain ⟨k, rfl, hk, hok, hbel⟩ := hrel
          have HO := Lib.hid hok
          clear hok
          have hsz := hbel.size
          simp at hsz
          obtain ⟨hcl, hfr⟩ := bcell hbel
          have c4 : wr.cell? ⟨w.heap.size + 1, 4, none⟩ = some (.slice bk kids.length ck) := by rw [hcl _ _ (by simp)]; simp
          have c5 : wr.cell? ⟨w.heap.size + 1, 5, none⟩ = some (.slice bp pats.length cp) := by rw [hcl _ _ (by simp)]; simp
          have hK : Kept w wr := (Kept.al2 _ _ _).trans (Kept.of_below hbel)
          clear hcl hfr
          have BB : Below w.heap.size w wr := (Joins.below_alloc2 w _ _).trans (hbel.mono (by simp; omega))
          by_cases hlt : k < pats.length
          · obtain ⟨b, o, rfl, hbw, hc⟩ := hpf (by omega)
            obtain ⟨v, e0, r0⟩ := PatEl.st w wr b _ _ hK hbw (hc k hlt)
            rw [Nat.mul_one] at e0
            clear hc hpf
            obtain ⟨q, hq⟩ : ∃ q, q = pats[k] := ⟨_, rfl⟩
            rw [← hq] at r0
            have HQ := Lib.hid hq
            clear hq
            have r0' := r0
            obtain ⟨qa, qc, rfl, -, -⟩ := r0.form
            clear r0
            have hne0 : w.heap.size + 1 ≠ wr.heap.size := by omega
            have hlt1 : w.heap.size + 1 < wr.heap.size := by omega
            go_wp2_with fail
            refine (sPatOk q _ _ (r0'.kept PNEl.st (Kept.alloc _ _))).mono ?_
            rintro e w1 ⟨rfl, hb1⟩
            have hb1w : Below wr.heap.size wr w1 := below_tr (Joins.below_alloc1 wr _) hb1
            by_cases hy : PatOkP q
            · have hyb : patOkB q = true := propB_t hy
              have HY := Lib.hid hy
              clear hy
              go_wp2
              go_roundw
              case rel => exact ⟨k + 1, by go_num, by omega, fun j hj h => by
                  by_cases he : j = k
                  · subst he; rw [← HQ.out]; exact HY.out
                  · exact HO.out j (by omega) h, hbel.trans (hb1w.mono (by simp; omega))⟩
              case measure => simp [intOf]; omega
            · have hyb : patOkB q = false := propB_f hy
              have HB := Lib.hid (propB_f (fun h => hy (by rw [HQ.out]; exact (HP.out.1 h).2.1 _ (List.getElem_mem _))))
              clear hy
              go_wp2
              go_ret
              exact ⟨ret_bool HB.out.symm, BB.trans (hb1w.mono (by omega))⟩
          · obtain rfl : k = pats.length := by omega
            have hall : ∀ q ∈ pats, PatOkP q := fun q hq => by
              obtain ⟨i, hi, rfl⟩ := List.getElem_of_mem hq
              exact HO.out i hi hi
            have HALL := Lib.hid hall
            clear hall
            by_cases h2 : 2 ≤ kids.length
            · have h2a : (2 : Int) ≤ kids.length := by omega
              have HB := Lib.hid (show NdOkP nodes ⟨13, at_, 0, s, kids, pats⟩ ↔ (pats.length : Int) = (kids.length : Int) - 1 from HP.out.trans ⟨fun h => by have := h.2.2.2; omega, fun h => ⟨he, HALL.out, h2, by omega⟩⟩)
              go_wp2
              go_ret
              exact ⟨ret_bool (beq_prop HB.out), BB⟩
            · have h2a : ¬ (2 : Int) ≤ kids.length := by omega
              have HB := Lib.hid (propB_f (fun h => h2 (HP.out.1 h).2.2.1))
              clear h2
              go_wp2
              go_ret
              exact ⟨ret_bool HB.out.symm, BB⟩
      · have he1 : s.toList.isEmpty = false := by simpa using he
        have HQ := Lib.hid (propB_f (fun h => he (HP.out.1 h).1))
        clear he
        go_wp2
        go_ret
        exact ⟨ret_bool HQ.out.symm, Joins.below_alloc2 w _ _⟩
theorem sNode (vt vn : Value) (x : Nd) (nodes : List Nd) (uk up : Value) (w : World)
    (ht : ∃ pt nt ct, vt = .slice pt nt ct) (hn : RowRd 6 NdEl w vn nodes) (hk : RowRd 1 IntEl w uk x.kids) (hp : RowRd 1 PatEl w up x.pats) (hs : x.s.size ≤ maxLen) :
    Calls Tryz.prog 26 #[.agg #[vt, vn], .agg #[.int .i64 x.kind, .int .i64 x.at_, .int .i64 x.n, .string x.s, uk, up]] w fun e w' => e = .returned (.bool (propB (NdOkP nodes x))) ∧ Below w.heap.size w w' := by
  obtain ⟨kd, at_, n, s, kids, pats⟩ := x
  by_cases hh : NdHead ⟨kd, at_, n, s, kids, pats⟩
  · by_cases h1 : kd = 1
    · subst h1; exact sNode_int vt vn at_ n s kids pats nodes uk up w ht hn hk hp hs hh
    · obtain rfl : n = 0 := by have := hh.2.2.2.1; simp at this; omega
      by_cases h2 : kd = 2
      · subst h2; exact sNode_str vt vn at_ s kids pats nodes uk up w ht hn hk hp hs hh
      by_cases h3 : kd = 3
      · subst h3; exact sNode_k3 vt vn at_ s kids pats nodes uk up w ht hn hk hp hs hh
      by_cases h4 : kd = 4
      · subst h4; exact sNode_k4 vt vn at_ s kids pats nodes uk up w ht hn hk hp hs hh
      by_cases h5 : kd = 5
      · subst h5; exact sNode_k5 vt vn at_ s kids pats nodes uk up w ht hn hk hp hs hh
      by_cases h7 : kd = 7
      · subst h7; exact sNode_k7 vt vn at_ s kids pats nodes uk up w ht hn hk hp hs hh
      by_cases h8 : kd = 8
      · subst h8; exact sNode_k8 vt vn at_ s kids pats nodes uk up w ht hn hk hp hs hh
      by_cases h10 : kd = 10
      · subst h10; exact sNode_k10 vt vn at_ s kids pats nodes uk up w ht hn hk hp hs hh
      by_cases h13 : kd = 13
      · subst h13; exact sNode_k13 vt vn at_ s kids pats nodes uk up w ht hn hk hp hs hh
      by_cases h15 : kd = 15
      · subst h15; exact sNode_k15 vt vn at_ s kids pats nodes uk up w ht hn hk hp hs hh
      exact sNode_plain vt vn kd at_ s kids pats nodes uk up w ht hn hk hp hs hh h1 ⟨by unfold namedK; omega, h10, h2, h4, h13⟩
  · refine (sNode_head vt vn kd at_ n s kids pats nodes uk up w ht ?_ ?_ ?_ hh).mono fun e w' h => ⟨by rw [h.1, propB_f (fun h => hh h.1)], h.2⟩
    · obtain ⟨a, c, h, _⟩ := hn.form; exact ⟨a, _, c, h⟩
    · obtain ⟨a, c, h, _⟩ := hk.form; exact ⟨a, _, c, h⟩
    · obtain ⟨a, c, h, _⟩ := hp.form; exact ⟨a, _, c, h⟩
end Go.Proofs.YtaibgnfjjbncpaaGreat
namespace Go.Proofs.YtaibgnfjjbncpaaGreat
set_option linter.unusedVariables false
set_option maxRecDepth 100000
open Go.ChangeShapes Go.WideShapes Go.ChangeAt Go.RowKit

theorem beq_boolP {b : Bool} {P : Prop} (h : P ↔ b = true) : b = propB P := by
  cases b
  · exact (propB_f (fun p => by have := h.1 p; cases this)).symm
  · exact (propB_t (h.2 rfl)).symm
set_option maxHeartbeats 4000000 in
theorem sCon (nm : ByteArray) (has : Bool) (arg : List TyI) (va : Value) (par : Int) (w : World) (hr : RowRd 3 TyIEl w va arg) (hs : nm.size ≤ maxLen) (hpar : I64 par) :
    Calls Tryz.prog 25 #[.agg #[.string nm, .bool has, va], .int .i64 par] w fun e w' => e = .returned (.bool (propB (CnOkP par ⟨nm, has, arg⟩))) ∧ Below w.heap.size w w' := by
  have hr0 := hr
  obtain ⟨a, ca, rfl, hm, hrf⟩ := hr.form
  clear hr
  unfold maxLen at hm
  cases hcb : conB nm
  · have HQ := Lib.hid (propB_f (fun h : CnOkP par ⟨nm, has, arg⟩ => by have := h.1; simp only at this; rw [hcb] at this; cases this))
    go_enter Tryz.func25, Tryz.ntmps25
    go_wp2_with fail
    refine (sConOk _ _ hs).mono ?_
    rintro e w1 ⟨rfl, rfl⟩
    go_wp2
    go_ret
    exact ⟨ret_bool HQ.out.symm, Joins.below_alloc1 w _⟩
  · have HC := Lib.hid hcb
    cases has
    · have HQ := Lib.hid (show CnOkP par ⟨nm, false, arg⟩ ↔ (arg.length : Int) = 0 from ⟨fun h => by have := h.2.1 rfl; simp only at this; rw [this]; rfl, fun h => ⟨hcb, fun _ => nil_of_len (show arg.length = 0 by omega), (fun e => by cases e)⟩⟩)
      go_enter Tryz.func25, Tryz.ntmps25
      go_wp2_with fail
      refine (sConOk _ _ hs).mono ?_
      rintro e w1 ⟨rfl, rfl⟩
      go_wp2
      go_ret
      exact ⟨ret_bool (beq_prop HQ.out), Joins.below_alloc1 w _⟩
    · go_enter Tryz.func25, Tryz.ntmps25
      go_wp2_with fail
      refine (sConOk _ _ hs).mono ?_
      rintro e w1 ⟨rfl, rfl⟩
      go_wp2
      go_loopw [23] (fun i wr => ∃ k : Nat, i = .int .i64 k ∧ k ≤ arg.length ∧ (∀ j (hj : j < k) (h : j < arg.length), arg[j].name.toList = [] → arg[j].var < par) ∧ Below (w.alloc (.cells #[.string nm, .bool true, .slice a arg.length ca] 66)).heap.size (w.alloc (.cells #[.string nm, .bool true, .slice a arg.length ca] 66)) wr) (fun i _ => arg.length - (intOf i).toNat)
      case atStart => exact ⟨0, rfl, Nat.zero_le _, fun j hj => absurd hj (by omega), Below.refl _ _⟩
      case round =>
        obtain ⟨k, rfl, hk, hok, hbel⟩ := hrel
        have HO := Lib.hid hok
        clear hok
        have hsz := hbel.size
        simp at hsz
        obtain ⟨hcl, hfr⟩ := bcell hbel
        have c2 : wr.cell? ⟨w.heap.size, 2, none⟩ = some (.slice a arg.length ca) := by rw [hcl _ _ (by simp)]; simp
        have hK : Kept w wr := (Kept.alloc _ _).trans (Kept.of_below hbel)
        clear hcl hfr
        have BB : Below w.heap.size w wr := (Joins.below_alloc1 w _).trans (hbel.mono (by simp))
        by_cases hlt : k < arg.length
        · obtain ⟨b, o, rfl, hbw, hc⟩ := hrf (by omega)
          obtain ⟨⟨e0, i0⟩, ⟨e1, i1⟩, ⟨e2, i2⟩⟩ := TyIEl.st w wr b _ _ hK hbw (hc k hlt)
          clear hc hrf
          obtain ⟨x, hx⟩ : ∃ x, x = arg[k] := ⟨_, rfl⟩
          rw [← hx] at e0 e1 e2 i0 i1 i2
          have HX := Lib.hid hx
          clear hx
          have hAl : Below (w.alloc (.cells #[.string nm, .bool true, .slice (some ⟨b, o, none⟩) arg.length ca] 66)).heap.size (w.alloc (.cells #[.string nm, .bool true, .slice (some ⟨b, o, none⟩) arg.length ca] 66)) (wr.alloc (.cells #[.int .i64 x.var, .string x.name, .int .i64 x.arity] 94)) := hbel.alloc (by simp; omega) _
          by_cases he : x.name.toList = []
          · have he1 : x.name.toList.isEmpty = true := by simp [he]
            by_cases hv : par ≤ x.var
            · have HB := Lib.hid (propB_f (fun h : CnOkP par ⟨nm, true, arg⟩ => by have := (h.2.2 rfl).1 x (by rw [HX.out]; exact List.getElem_mem _) he; omega))
              go_wp2
              go_ret
              exact ⟨ret_bool HB.out.symm, BB.alloc (by omega) _⟩
            · have hv' : x.var < par := by omega
              have HV := Lib.hid hv'
              go_wp2
              go_roundw
              case rel => exact ⟨k + 1, by go_num, by omega, fun j hj h => by
                  by_cases hjk : j = k
                  · subst hjk; rw [← HX.out]; exact fun _ => HV.out
                  · exact HO.out j (by omega) h, hAl⟩
              case measure => simp [intOf]; omega
          · have he1 : x.name.toList.isEmpty = false := by simpa using he
            have HE := Lib.hid he
            clear he
            go_wp2
            go_roundw
            case rel => exact ⟨k + 1, by go_num, by omega, fun j hj h => by
                  by_cases hjk : j = k
                  · subst hjk; rw [← HX.out]; exact fun e => absurd e HE.out
                  · exact HO.out j (by omega) h, hAl⟩
            case measure => simp [intOf]; omega
        · obtain rfl : k = arg.length := by omega
          have HQ := Lib.hid (show CnOkP par ⟨nm, true, arg⟩ ↔ tyOkB arg = true from ⟨fun h => (h.2.2 rfl).2, fun h => ⟨HC.out, (fun e => by cases e), fun _ => ⟨fun x hx => by
            obtain ⟨i, hi, rfl⟩ := List.getElem_of_mem hx
            exact HO.out i hi hi, h⟩⟩⟩)
          go_wp2_with fail
          refine (sTyOk arg _ _ (hr0.kept TyIEl.st hK)).mono ?_
          rintro e w1 ⟨rfl, hb1⟩
          go_wp2
          go_ret
          exact ⟨ret_bool (beq_boolP HQ.out), below_tr BB hb1⟩
set_option maxHeartbeats 8000000 in
theorem sProgramOk (p : Pg) (v0 v1 : Value) (w : World) (h0 : RowRd 3 TpEl w v0 p.types) (h1 : RowRd 6 NdEl w v1 p.nodes) :
    Calls Tryz.prog 11 #[.agg #[v0, v1]] w fun e w' => e = .returned (.bool (pgOkB p)) ∧ Below w.heap.size w w' := by
  have h00 := h0
  have h10 := h1
  obtain ⟨pt, ct, rfl, hmt, htf⟩ := h0.form
  obtain ⟨pn, cn, rfl, hmn, hnf⟩ := h1.form
  clear h0 h1
  unfold maxLen at hmt hmn
  by_cases g1 : p.nodes.length < 1
  · have HB := Lib.hid (show pgOkB p = false from propB_f fun h => by have := h.1; omega)
    have g1' : (p.nodes.length : Int) < 1 := by omega
    go_enter Tryz.func11, Tryz.ntmps11
    go_wp2
    go_ret
    exact ⟨ret_bool HB.out.symm, Joins.below_alloc1 w _⟩
  by_cases g2 : 600 < p.nodes.length
  · have HB := Lib.hid (show pgOkB p = false from propB_f fun h => by have := h.2.1; omega)
    have g1' : ¬ (p.nodes.length : Int) < 1 := by omega
    have g2' : 600 < (p.nodes.length : Int) := by omega
    go_enter Tryz.func11, Tryz.ntmps11
    go_wp2
    go_ret
    exact ⟨ret_bool HB.out.symm, Joins.below_alloc1 w _⟩
  by_cases g3 : 8 < p.types.length
  · have HB := Lib.hid (show pgOkB p = false from propB_f fun h => by have := h.2.2.1; omega)
    have g1' : ¬ (p.nodes.length : Int) < 1 := by omega
    have g2' : ¬ 600 < (p.nodes.length : Int) := by omega
    have g3' : 8 < (p.types.length : Int) := by omega
    go_enter Tryz.func11, Tryz.ntmps11
    go_wp2
    go_ret
    exact ⟨ret_bool HB.out.symm, Joins.below_alloc1 w _⟩
  have g1' : ¬ (p.nodes.length : Int) < 1 := by omega
  have g2' : ¬ 600 < (p.nodes.length : Int) := by omega
  have g3' : ¬ 8 < (p.types.length : Int) := by omega
  have d1 : decide ((p.nodes.length : Int) < 1) = false := by simp; omega
  have d2 : decide (600 < (p.nodes.length : Int)) = false := by simp; omega
  have d3 : decide (8 < (p.types.length : Int)) = false := by simp; omega
  have HL := Lib.hid (show 1 ≤ p.nodes.length ∧ p.nodes.length ≤ 600 ∧ p.types.length ≤ 8 by omega)
  clear g1 g2 g3
  go_enter Tryz.func11, Tryz.ntmps11
  go_wp2
  go_loopw [28] (fun i wr => ∃ k : Nat, i = .int .i64 k ∧ k ≤ p.types.length ∧ (∀ j (hj : j < k) (h : j < p.types.length), TpOkP p.types[j]) ∧ Below (w.alloc (.cells #[.slice pt p.types.length ct, .slice pn p.nodes.length cn] 31)).heap.size (w.alloc (.cells #[.slice pt p.types.length ct, .slice pn p.nodes.length cn] 31)) wr) (fun i _ => p.types.length - (intOf i).toNat)
  case atStart => exact ⟨0, rfl, Nat.zero_le _, fun j hj => absurd hj (by omega), Below.refl _ _⟩
  case round =>
    obtain ⟨k, rfl, hk, hok, hbel⟩ := hrel
    generalize wr = wo at *
    have HO := Lib.hid hok
    clear hok
    have hsz := hbel.size
    simp at hsz
    obtain ⟨hcl, hfr⟩ := bcell hbel
    have c1 : wo.cell? ⟨w.heap.size, 1, none⟩ = some (.slice pn p.nodes.length cn) := by rw [hcl _ _ (by simp)]; simp
    have hK : Kept w wo := (Kept.alloc _ _).trans (Kept.of_below hbel)
    clear hcl hfr
    have BB : Below w.heap.size w wo := (Joins.below_alloc1 w _).trans (hbel.mono (by simp))
    by_cases hlt : k < p.types.length
    · obtain ⟨b, o, rfl, hbw, hc⟩ := htf (by omega)
      obtain ⟨⟨e0, i0⟩, ⟨e1, i1⟩, ⟨v2, e2, r2⟩⟩ := TpEl.st w wo b _ _ hK hbw (hc k hlt)
      clear hc htf
      obtain ⟨x, hx⟩ : ∃ x, x = p.types[k] := ⟨_, rfl⟩
      rw [← hx] at e0 e1 i0 i1 r2
      have hmem : x ∈ p.types := by rw [hx]; exact List.getElem_mem _
      have HM := Lib.hid hmem
      have HX := Lib.hid hx
      clear hx hmem
      have r20 := r2
      obtain ⟨a2, ca2, rfl, hm2, r2f⟩ := r2.form
      clear r2
      unfold maxLen at hm2
      go_wp2_with fail
      refine (sNameOk _ _ i0).mono ?_
      rintro e w1 ⟨rfl, hb1⟩
      have hb1w : Below wo.heap.size wo w1 := below_tr (Joins.below_alloc1 wo _) hb1
      have hs1 : wo.heap.size < w1.heap.size := by have := hb1.size; simp at this; omega
      have x0 : w1.cell? ⟨wo.heap.size, 1, none⟩ = some (.int .i64 x.params) := by rw [hb1.cell (p := ⟨wo.heap.size, 1, none⟩) (by simp)]; simp
      have x2 : w1.cell? ⟨wo.heap.size, 2, none⟩ = some (.slice a2 x.cons.length ca2) := by rw [hb1.cell (p := ⟨wo.heap.size, 2, none⟩) (by simp)]; simp
      have B1 : Below w.heap.size w w1 := BB.trans (hb1w.mono (by omega))
      have hbel1 := hbel.trans (hb1w.mono (by simp; omega))
      have hK1 : Kept wo w1 := Kept.of_below hb1w
      clear e0 e1 e2 c1 hb1
      by_cases q0 : nameB x.name = true
      case neg =>
        have q0' : nameB x.name = false := by simpa using q0
        have HB := Lib.hid (show pgOkB p = false from propB_f fun h => q0 (h.2.2.2.1 x HM.out).1)
        clear q0
        go_wp2
        go_ret
        exact ⟨ret_bool HB.out.symm, B1⟩
      by_cases q1 : x.params < 0
      · have HB := Lib.hid (show pgOkB p = false from propB_f fun h => by have := (h.2.2.2.1 x HM.out).2.1; omega)
        go_wp2
        go_ret
        exact ⟨ret_bool HB.out.symm, B1⟩
      by_cases q2 : 2 < x.params
      · have HB := Lib.hid (show pgOkB p = false from propB_f fun h => by have := (h.2.2.2.1 x HM.out).2.2.1; omega)
        go_wp2
        go_ret
        exact ⟨ret_bool HB.out.symm, B1⟩
      by_cases q3 : (x.cons.length : Int) < 1
      · have HB := Lib.hid (show pgOkB p = false from propB_f fun h => by have := (h.2.2.2.1 x HM.out).2.2.2.1; omega)
        go_wp2
        go_ret
        exact ⟨ret_bool HB.out.symm, B1⟩
      by_cases q4 : 8 < (x.cons.length : Int)
      · have HB := Lib.hid (show pgOkB p = false from propB_f fun h => by have := (h.2.2.2.1 x HM.out).2.2.2.2.1; omega)
        go_wp2
        go_ret
        exact ⟨ret_bool HB.out.symm, B1⟩
      have HT := Lib.hid (show nameB x.name = true ∧ 0 ≤ x.params ∧ x.params ≤ 2 ∧ 1 ≤ x.cons.length ∧ x.cons.length ≤ 8 from ⟨q0, by omega, by omega, by omega, by omega⟩)
      have y1 : decide (x.params < 0) = false := by simp; omega
      have y2 : decide (2 < x.params) = false := by simp; omega
      have y3 : decide ((x.cons.length : Int) < 1) = false := by simp; omega
      have y4 : decide (8 < (x.cons.length : Int)) = false := by simp; omega
      have ip := i1
      obtain ⟨ip1, ip2⟩ := i1
      go_wp2
      go_loopw [61] (fun i wr => ∃ m : Nat, i = .int .i64 m ∧ m ≤ x.cons.length ∧ (∀ j (hj : j < m) (h : j < x.cons.length), CnOkP x.params x.cons[j]) ∧ Below w1.heap.size w1 wr) (fun i _ => x.cons.length - (intOf i).toNat)
      case atStart => exact ⟨0, rfl, Nat.zero_le _, fun j hj => absurd hj (by omega), Below.refl _ _⟩
      case round =>
        obtain ⟨m, rfl, hmk, hok2, hbi⟩ := hrel
        have HO2 := Lib.hid hok2
        clear hok2
        have z0 := (hbi.cell (p := ⟨wo.heap.size, 1, none⟩) hs1).trans x0
        have hs2 : wo.heap.size < wr.heap.size := Nat.lt_of_lt_of_le hs1 hbi.size
        have hne2 : wo.heap.size ≠ wr.heap.size := by omega
        have hK2 : Kept wo wr := hK1.trans (Kept.of_below hbi)
        have Bi : Below w.heap.size w wr := B1.trans (hbi.mono (by have := B1.size; omega))
        by_cases hmlt : m < x.cons.length
        · obtain ⟨b3, o3, rfl, hb3, hc3⟩ := r2f (by omega)
          obtain ⟨⟨f0, l0⟩, f1, ⟨v5, f2, r5⟩⟩ := CnEl.st wo wr b3 _ _ hK2 hb3 (hc3 m hmlt)
          unfold BoolEl at f1
          clear hc3 r2f
          obtain ⟨c, hcc⟩ : ∃ c, c = x.cons[m] := ⟨_, rfl⟩
          rw [← hcc] at f0 f1 l0 r5
          have HCC := Lib.hid hcc
          clear hcc
          obtain ⟨cnm, chas, carg⟩ := c
          simp only at f0 f1 l0 r5
          have r50 := r5
          obtain ⟨a5, ca5, rfl, -, -⟩ := r5.form
          clear r5
          go_wp2_with fail
          refine (sCon cnm chas carg _ x.params _ (r50.kept TyIEl.st (Kept.alloc _ _)) l0 ip).mono ?_
          rintro e w3 ⟨rfl, hb3w⟩
          have hb3r : Below wr.heap.size wr w3 := below_tr (Joins.below_alloc1 wr _) hb3w
          by_cases hy : CnOkP x.params ⟨cnm, chas, carg⟩
          · have hyb : propB (CnOkP x.params ⟨cnm, chas, carg⟩) = true := propB_t hy
            have HY := Lib.hid hy
            clear hy
            go_wp2
            go_roundw
            case rel => exact ⟨m + 1, by go_num, by omega, fun j hj h => by
                by_cases he : j = m
                · subst he; rw [← HCC.out]; exact HY.out
                · exact HO2.out j (by omega) h, below_tr hbi hb3r⟩
            case measure => simp [intOf]; omega
          · have hyb : propB (CnOkP x.params ⟨cnm, chas, carg⟩) = false := propB_f hy
            have HB := Lib.hid (show pgOkB p = false from propB_f fun h => hy (by rw [HCC.out]; exact (h.2.2.2.1 x HM.out).2.2.2.2.2 _ (List.getElem_mem _)))
            clear hy
            go_wp2
            go_ret
            exact ⟨ret_bool HB.out.symm, Bi.trans (hb3r.mono (by have := Bi.size; omega))⟩
        · obtain rfl : m = x.cons.length := by omega
          have hall : TpOkP x := ⟨HT.out.1, HT.out.2.1, HT.out.2.2.1, HT.out.2.2.2.1, HT.out.2.2.2.2, fun c hc => by
            obtain ⟨i, hi, rfl⟩ := List.getElem_of_mem hc
            exact HO2.out i hi hi⟩
          have HALL := Lib.hid hall
          clear hall
          go_wp2
          go_roundw
          case rel => exact ⟨k + 1, by go_num, by omega, fun j hj h => by
              by_cases he : j = k
              · subst he; rw [← HX.out]; exact HALL.out
              · exact HO.out j (by omega) h, hbel1.trans (hbi.mono (by have := hbel1.size; omega))⟩
          case measure => simp [intOf]; omega
    · obtain rfl : k = p.types.length := by omega
      have hall : ∀ t ∈ p.types, TpOkP t := fun t ht => by
        obtain ⟨i, hi, rfl⟩ := List.getElem_of_mem ht
        exact HO.out i hi hi
      have HALL := Lib.hid hall
      clear hall HO
      have hso : w.heap.size < wo.heap.size := by omega
      have c0 : wo.cell? ⟨w.heap.size, 0, none⟩ = some (.slice pt p.types.length ct) := by rw [hbel.cell (p := ⟨w.heap.size, 0, none⟩) (by simp)]; simp
      go_wp2
      go_loopw [75] (fun i wr => ∃ m : Nat, i = .int .i64 m ∧ m ≤ p.nodes.length ∧ (∀ j (hj : j < m) (h : j < p.nodes.length), NdOkP p.nodes p.nodes[j]) ∧ Below wo.heap.size wo wr) (fun i _ => p.nodes.length - (intOf i).toNat)
      case atStart => exact ⟨0, rfl, Nat.zero_le _, fun j hj => absurd hj (by omega), Below.refl _ _⟩
      case round =>
        obtain ⟨m, rfl, hmk, hok2, hbi⟩ := hrel
        have HO2 := Lib.hid hok2
        clear hok2
        have z1 := (hbi.cell (p := ⟨w.heap.size, 1, none⟩) hso).trans c1
        have z0 := (hbi.cell (p := ⟨w.heap.size, 0, none⟩) hso).trans c0
        have hs2 : w.heap.size < wr.heap.size := Nat.lt_of_lt_of_le hso hbi.size
        have hne2 : w.heap.size ≠ wr.heap.size := by omega
        have hK2 : Kept w wr := hK.trans (Kept.of_below hbi)
        have Bi : Below w.heap.size w wr := BB.trans (hbi.mono (by omega))
        by_cases hmlt : m < p.nodes.length
        · obtain ⟨b3, o3, rfl, hb3, hc3⟩ := hnf (by omega)
          obtain ⟨⟨f0, l0⟩, ⟨f1, l1⟩, ⟨f2, l2⟩, ⟨f3, l3⟩, ⟨v4, f4, r4⟩, ⟨v5, f5, r5⟩⟩ := NdEl.st w wr b3 _ _ hK2 hb3 (hc3 m hmlt)
          clear hc3 hnf
          obtain ⟨x, hx⟩ : ∃ x, x = p.nodes[m] := ⟨_, rfl⟩
          rw [← hx] at f0 f1 f2 f3 l0 l1 l2 l3 r4 r5
          have HX := Lib.hid hx
          clear hx
          have r40 := r4
          have r50 := r5
          obtain ⟨a4, ca4, rfl, -, -⟩ := r4.form
          obtain ⟨a5, ca5, rfl, -, -⟩ := r5.form
          clear r4 r5
          go_wp2_with fail
          refine (sNode _ _ x p.nodes _ _ _ ⟨_, _, _, rfl⟩ (h10.kept NdEl.st (hK2.trans (Kept.alloc _ _))) (r40.kept IntEl.st (Kept.alloc _ _)) (r50.kept PatEl.st (Kept.alloc _ _)) l3).mono ?_
          rintro e w3 ⟨rfl, hb3w⟩
          have hb3r : Below wr.heap.size wr w3 := below_tr (Joins.below_alloc1 wr _) hb3w
          by_cases hy : NdOkP p.nodes x
          · have hyb : propB (NdOkP p.nodes x) = true := propB_t hy
            have HY := Lib.hid hy
            clear hy
            go_wp2
            go_roundw
            case rel => exact ⟨m + 1, by go_num, by omega, fun j hj h => by
                by_cases he : j = m
                · subst he; rw [← HX.out]; exact HY.out
                · exact HO2.out j (by omega) h, below_tr hbi hb3r⟩
            case measure => simp [intOf]; omega
          · have hyb : propB (NdOkP p.nodes x) = false := propB_f hy
            have HB := Lib.hid (show pgOkB p = false from propB_f fun h => hy (h.2.2.2.2.1 x (by rw [HX.out]; exact List.getElem_mem _)))
            clear hy
            go_wp2
            go_ret
            exact ⟨ret_bool HB.out.symm, Bi.trans (hb3r.mono (by have := Bi.size; omega))⟩
        · obtain rfl : m = p.nodes.length := by omega
          have HQ := Lib.hid (show PgOkP p ↔ pendF (p.nodes.length + 1) (p.nodes.map Nd.kids) 0 = (p.nodes.length : Int) from ⟨fun h => h.2.2.2.2.2, fun h => ⟨HL.out.1, HL.out.2.1, HL.out.2.2, HALL.out, fun x hx => by
            obtain ⟨i, hi, rfl⟩ := List.getElem_of_mem hx
            exact HO2.out i hi hi, h⟩⟩)
          clear hnf
          have HE := fun W (hK3 : Kept wr W) => Lib.hid (sNEnd (p.nodes.length + 1) p.nodes (.slice pt p.types.length ct) _ 0 W ⟨_, _, _, rfl⟩ ((h10.kept NdEl.st hK2).kept NdEl.st hK3) (by omega) (by omega) (by omega))
          go_wp2_with fail
          go_region_held3 (fun w' => w'.cell? ⟨w.heap.size, 0, none⟩ = some (.slice pt p.types.length ct) ∧ w'.cell? ⟨w.heap.size, 1, none⟩ = some (.slice pn p.nodes.length cn) ∧ Kept wr w')
            (first | (exact ⟨z0, z1, Kept.refl _⟩) | exact ⟨z0, z1, Kept.drew _⟩ | exact ⟨(hb1.cell (p := ⟨w.heap.size, 0, none⟩) hs2).trans z0, (hb1.cell (p := ⟨w.heap.size, 1, none⟩) hs2).trans z1, (Kept.drew _).trans (Kept.of_below hb1)⟩)
            ((go_at_call 27; refine (HE _ (by first | exact Kept.drew _ | exact Kept.refl _)).out.mono ?_; rintro e w1 ⟨rfl, hb1⟩))
          go_wp2
          go_ret
          exact ⟨ret_bool (beq_prop HQ.out), Bi.drew.trans (hb1.mono (by have := Bi.size; simp; omega))⟩
theorem sProgramOkC (p : Pg) (v0 v1 : Value) (w : World) (h0 : RowRd 3 TpEl w v0 p.types) (h1 : RowRd 6 NdEl w v1 p.nodes) (hz : bPg p ≤ 1048576) :
    Calls Tryz.prog 11 #[.agg #[v0, v1]] w fun e w' => e = .returned (.bool (pgOkB p)) ∧ Below w.heap.size w w' := sProgramOk p v0 v1 w h0 h1
end Go.Proofs.YtaibgnfjjbncpaaGreat
