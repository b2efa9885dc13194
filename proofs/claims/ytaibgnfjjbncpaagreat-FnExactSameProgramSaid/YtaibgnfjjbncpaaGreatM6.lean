/- Texts of this proof, merged: OkZ1, PrePN, Take, OkY3, OkY4, PreNd, OkZ2, FnTyI, OkZ3. -/
import Derived.Test.YtaibgnfjjbncpaaGreatM5
import Derived.Test.YtaibgnfjjbncpaaGreatM4
import Derived.Deep.QuietTactic
import Derived.BigQuiet
import Derived.Deep.RegionHeld3
import Derived.Deep.RegionWith
import Derived.Outline
import Derived.WalkKit
import Derived.Deep.RegionHeld
import Derived.KernelRfl
namespace Go.Proofs.YtaibgnfjjbncpaaGreat
set_option linter.unusedVariables false
set_option maxRecDepth 100000
open Go.ChangeShapes Go.WideShapes Go.ChangeAt Go.RowKit Go.Maps Go.WideMaps

def rnK (k n : Int) : Bool := if k = 1 then decide (0 ≤ n) && decide (n ≤ 4611686018427387903) else decide (n = 0)
theorem iRightN (k a n : Int) (s : ByteArray) (u4 u5 : Value) (w : World) :
    Calls Tryz.prog 66 #[.agg #[.int .i64 k, .int .i64 a, .int .i64 n, .string s, u4, u5]] w fun e w' => e = .returned (.bool (rnK k n)) ∧ Below w.heap.size w w' := by
  by_cases h1 : k = 1
  · subst h1
    by_cases h0 : 0 ≤ n
    · have HF := Lib.hid (show rnK 1 n = decide (n ≤ 4611686018427387903) from by simp [rnK, h0])
      go_enter Tryz.func66, Tryz.ntmps66
      go_wp2
      go_ret
      exact ⟨ret_bool HF.out.symm, Joins.below_alloc1 w _⟩
    · have HF := Lib.hid (show rnK 1 n = false from by simp [rnK, h0])
      go_enter Tryz.func66, Tryz.ntmps66
      go_wp2
      go_ret
      exact ⟨ret_bool HF.out.symm, Joins.below_alloc1 w _⟩
  · have h1' : (k == 1) = false := by simpa using h1
    have HF := Lib.hid (show rnK k n = decide (n = 0) from if_neg h1)
    clear h1
    go_enter Tryz.func66, Tryz.ntmps66
    go_wp2
    go_ret
    refine ⟨ret_bool ?_, Joins.below_alloc1 w _⟩
    rw [HF.out, Bool.eq_iff_iff]; simp
theorem iOperator (s : ByteArray) (w : World) (hs : s.size ≤ maxLen) :
    Calls Tryz.prog 101 #[.string s] w fun e w' => e = .returned (.bool (primB s)) ∧ Below w.heap.size w w' := by
  by_cases h : primB s = true
  · have h' := h
    simp only [primB, prims, List.any_cons, List.any_nil, Bool.or_false, Bool.or_eq_true, beq_iff_eq] at h
    rcases h with h | h | h | h | h | h | h | h | h | h
    all_goals
      have HB := Lib.hid h'
      clear h'
      go_enter Tryz.func101, Tryz.ntmps101
      go_wp2
      go_ret
      exact ⟨ret_bool HB.out.symm, Below.refl _ _⟩
  · have HB := Lib.hid (show primB s = false from by simpa using h)
    simp only [primB, prims, List.any_cons, List.any_nil, Bool.or_false, Bool.or_eq_true, not_or] at h
    obtain ⟨h0, h1, h2, h3, h4, h5, h6, h7, h8, h9⟩ := h
    simp only [Bool.not_eq_true] at h0 h1 h2 h3 h4 h5 h6 h7 h8 h9
    go_enter Tryz.func101, Tryz.ntmps101
    go_wp2
    go_ret
    exact ⟨ret_bool HB.out.symm, Below.refl _ _⟩
/-- The kinds, told apart. -/
theorem kinds (k : Int) : k = 1 ∨ k = 2 ∨ k = 3 ∨ k = 4 ∨ k = 5 ∨ k = 6 ∨ k = 7 ∨ k = 8 ∨ k = 9 ∨ k = 10 ∨ k = 11 ∨ k = 12 ∨ k = 13 ∨ k = 14 ∨ k = 15 ∨ k = 16 ∨ k = 17 ∨ k = 18 ∨ k = 19 ∨ (((k == 1) = false ∧ (k == 2) = false ∧ (k == 3) = false ∧ (k == 4) = false ∧ (k == 5) = false ∧ (k == 6) = false ∧ (k == 7) = false ∧ (k == 8) = false ∧ (k == 9) = false ∧ (k == 10) = false) ∧ (k == 11) = false ∧ (k == 12) = false ∧ (k == 13) = false ∧ (k == 14) = false ∧ (k == 15) = false ∧ (k == 16) = false ∧ (k == 17) = false ∧ (k == 18) = false ∧ (k == 19) = false) := by
  simp only [beq_eq_false_iff_ne, ne_eq]; omega
theorem rkB_no (k m : Int) (h : k < 1 ∨ 19 < k) : rkB k m = false := by
  unfold rkB
  repeat' split
  all_goals first | omega | rfl
set_option maxHeartbeats 4000000 in
theorem iRightKids (k a n : Int) (s : ByteArray) (kids : List Int) (u4 u5 : Value) (w : World) (hk : RowRd 1 IntEl w u4 kids) :
    Calls Tryz.prog 68 #[.agg #[.int .i64 k, .int .i64 a, .int .i64 n, .string s, u4, u5]] w fun e w' => e = .returned (.bool (rkB k kids.length)) ∧ Below w.heap.size w w' := by
  obtain ⟨b, cap', rfl, hm', hkf⟩ := hk.form
  clear hk hkf
  unfold maxLen at hm'
  rcases kinds k with rfl | rfl | rfl | rfl | rfl | rfl | rfl | rfl | rfl | rfl | rfl | rfl | rfl | rfl | rfl | rfl | rfl | rfl | rfl | ⟨⟨g1, g2, g3, g4, g5, g6, g7, g8, g9, g10⟩, g11, g12, g13, g14, g15, g16, g17, g18, g19⟩
  iterate 19
    · go_enter Tryz.func68, Tryz.ntmps68
      go_wp2
      all_goals
        go_ret
        refine ⟨ret_bool ?_, Joins.below_alloc1 w _⟩
        first | (simp [rkB]; done) | (rw [Bool.eq_iff_iff]; simp [rkB]; done) | (rw [Bool.eq_iff_iff]; simp [rkB]; omega) | (simp [rkB]; omega)
  · have HF := Lib.hid (rkB_no k (kids.length : Int) (by simp only [beq_eq_false_iff_ne, ne_eq] at *; omega))
    go_enter Tryz.func68, Tryz.ntmps68
    go_wp2
    go_ret
    exact ⟨ret_bool HF.out.symm, Joins.below_alloc1 w _⟩
def rsK (k : Int) (s : ByteArray) (m : Int) : Bool := if k = 2 then true else if k = 3 ∨ k = 5 ∨ k = 7 ∨ k = 8 ∨ k = 15 then nameB s else if k = 4 then conOkB s m true else if k = 10 then primB s else decide (s.toList = [])
set_option maxHeartbeats 4000000 in
theorem iRightS (k a n : Int) (s : ByteArray) (kids : List Int) (u4 u5 : Value) (w : World) (hk : RowRd 1 IntEl w u4 kids) (hs : s.size ≤ maxLen) :
    Calls Tryz.prog 67 #[.agg #[.int .i64 k, .int .i64 a, .int .i64 n, .string s, u4, u5]] w fun e w' => e = .returned (.bool (rsK k s kids.length)) ∧ Below w.heap.size w w' := by
  obtain ⟨b, cap', rfl, hm', hkf⟩ := hk.form
  clear hk hkf
  unfold maxLen at hm'
  have hN := fun W => iNameOkB s W hs
  have hO := fun W => iOperator s W hs
  have hC := fun W => iConTakes s (kids.length : Int) W hs
  rcases kinds k with rfl | rfl | rfl | rfl | rfl | rfl | rfl | rfl | rfl | rfl | rfl | rfl | rfl | rfl | rfl | rfl | rfl | rfl | rfl | ⟨⟨g1, g2, g3, g4, g5, g6, g7, g8, g9, g10⟩, g11, g12, g13, g14, g15, g16, g17, g18, g19⟩
  iterate 19
    · go_enter Tryz.func67, Tryz.ntmps67
      go_wp2_with (first
        | (go_at_call 75; refine (hN _).mono ?_; rintro e w1 ⟨rfl, hb⟩)
        | (go_at_call 101; refine (hO _).mono ?_; rintro e w1 ⟨rfl, hb⟩)
        | (go_at_call 100; refine (hC _).mono ?_; rintro e w1 ⟨rfl, hb⟩))
      all_goals
        go_ret
        refine ⟨ret_bool ?_, by first | exact below_tr (Joins.below_alloc1 w _) hb | exact Joins.below_alloc1 w _⟩
        first | (simp [rsK]; done) | (rw [Bool.eq_iff_iff]; simp [rsK]; done)
  · have HF := Lib.hid (show rsK k s (kids.length : Int) = decide (s.toList = []) from by simp only [beq_eq_false_iff_ne, ne_eq] at *; simp [rsK, *])
    go_enter Tryz.func67, Tryz.ntmps67
    go_wp2
    go_ret
    refine ⟨ret_bool ?_, Joins.below_alloc1 w _⟩
    rw [HF.out, Bool.eq_iff_iff]; simp
theorem iIsCons (k a n : Int) (s : ByteArray) (u4 u5 : Value) (w : World) (hs : s.size ≤ maxLen) :
    Calls Tryz.prog 70 #[.agg #[.int .i64 k, .int .i64 a, .int .i64 n, .string s, u4, u5]] w fun e w' => e = .returned (.bool (decide (k = 4) && decide (s.toList = [58, 58]))) ∧ Below w.heap.size w w' := by
  by_cases h4 : k = 4
  · subst h4
    go_enter Tryz.func70, Tryz.ntmps70
    go_wp2
    go_ret
    refine ⟨ret_bool ?_, Joins.below_alloc1 w _⟩
    rw [Bool.eq_iff_iff]; simp
  · have h4' : (k == 4) = false := by simpa using h4
    have HB := Lib.hid (show (decide (k = 4) && decide (s.toList = [58, 58])) = false from by simp [h4])
    clear h4
    go_enter Tryz.func70, Tryz.ntmps70
    go_wp2
    go_ret
    exact ⟨ret_bool HB.out.symm, Joins.below_alloc1 w _⟩
end Go.Proofs.YtaibgnfjjbncpaaGreat
namespace Go.Proofs.YtaibgnfjjbncpaaGreat
set_option linter.unusedVariables false
set_option maxRecDepth 100000
open Go.ChangeShapes Go.WideShapes Go.ChangeAt Go.RowKit


theorem iKidsPN (x : PN) (v3 : Value) (w : World) : Calls Tryz.prog 127 #[.agg #[.int .i64 x.kind, .int .i64 x.n, .string x.s, v3]] w fun e w' => e = .returned v3 ∧ Below w.heap.size w w' := by
  go_enter Tryz.func127, Tryz.ntmps127
  go_wp2
  go_ret
  exact ⟨rfl, Joins.below_alloc1 w _⟩
theorem iLenPN (bk : Nat) (x : PN) (u : Value) (w : World) (hc : w.cell? ⟨bk, 0, none⟩ = some (.func (.func 127) #[] #[])) (hbk : bk < w.heap.size) (hu : PNVal w u x) :
    Calls Tryz.prog 147 #[u, .pointer (some ⟨bk, 0, none⟩)] w fun e w' => e = .returned (.int .i64 (x.kids.length : Int)) ∧ Below w.heap.size w w' := by
  obtain ⟨v3, rfl, _, _, _, r⟩ := hu
  have hK := fun W => iKidsPN x v3 W
  obtain ⟨p, c, rfl, m, -⟩ := r.form
  have hne : w.heap.size ≠ bk := by omega
  go_enter Tryz.func147, Tryz.ntmps147
  go_wp2_with (go_at_call 127; refine (hK _).mono ?_; rintro e w1 ⟨rfl, hb⟩)
  go_ret
  exact ⟨rfl, below_tr (Joins.below_alloc1 w _) hb⟩
theorem e_iLenPN : ∀ args w, (callFunc 147 args).run Tryz.prog w = .ok (.enter 147 args) w := enters_of Tryz.func147 (by kernel_rfl) rfl
set_option maxHeartbeats 4000000 in
theorem iNextPN (q : List PN) (vc vn : Value) (bc bk bn a d : Nat) (n : Int) (w : World) (hcc : w.cell? ⟨bc, 0, none⟩ = some vc) (hck : w.cell? ⟨bk, 0, none⟩ = some (.func (.func 127) #[] #[])) (hcn : w.cell? ⟨bn, 0, none⟩ = some vn)
    (hbc : bc < w.heap.size) (hbk : bk < w.heap.size) (hbn : bn < w.heap.size) (hC : RowRd 1 IntEl w vc (lens (q.map PN.kids))) (hR : RowRd 4 PNEl w vn q) (ha : a < q.length) (hd : d ≤ q[a].kids.length) :
    Calls Tryz.prog 148 #[.int .i64 a, .int .i64 d, .int .i64 n, .pointer (some ⟨bc, 0, none⟩), .pointer (some ⟨bk, 0, none⟩), .pointer (some ⟨bn, 0, none⟩)] w fun e w' => e = .returned (.bool (vPre (q.map PN.kids) () a d n).1) ∧ Below w.heap.size w w' := by
  have hle : (lens (q.map PN.kids)).length = q.length := by simp [lens]
  obtain ⟨p, cap, rfl, hm, hCf⟩ := hC.form
  obtain ⟨b, o, rfl, hb, hcs⟩ := hCf (by omega)
  have hca := (hcs a (by omega)).1
  have hla : (lens (q.map PN.kids))[a]'(by omega) = (q[a].kids.length : Int) := by simp [lens]
  rw [hla, Nat.mul_one] at hca
  rw [hle] at hcc
  clear hla hcs hCf hC
  unfold maxLen at hm
  rw [hle] at hm
  obtain ⟨p2, cap2, rfl, hm2, hRf⟩ := hR.form
  unfold maxLen at hm2
  obtain ⟨b2, o2, rfl, hb2, hn⟩ := hRf (by omega)
  have ex := hn a ha
  clear hn hRf hR
  by_cases h0 : d = q[a].kids.length
  · have HB := Lib.hid (show (vPre (q.map PN.kids) () a d n).1 = true from by
      subst h0
      have := vPre_end (q.map PN.kids) a (by simpa using ha) n
      simpa using this)
    clear ex
    generalize q[a] = x at *
    subst h0
    generalize x.kids.length = d at *
    go_enter Tryz.func148, Tryz.ntmps148
    go_wp2_with fail
    go_quiet (fail)
    go_wp2
    go_ret
    exact ⟨ret_bool HB.out.symm, below_drewN (Below.refl _ _) _⟩
  · have hd' : d < q[a].kids.length := by omega
    have HB := Lib.hid (show (vPre (q.map PN.kids) () a d n).1 = decide (q[a].kids[d] = n) from by
      have := vPre_at (q.map PN.kids) a d (by simpa using ha) (by simpa using hd') n
      simpa using this)
    have hdl : ((d : Int) == (q[a].kids.length : Int)) = false := by simp; omega
    clear hd h0
    generalize q[a] = x at *
    obtain ⟨⟨e0, i0⟩, ⟨e1, i1⟩, ⟨e2, i2⟩, ⟨v3, e3, r3⟩⟩ := ex
    obtain ⟨p3, c3, rfl, hm3, hkf⟩ := r3.form
    unfold maxLen at hm3
    obtain ⟨b3, o3, rfl, hb3, hks⟩ := hkf (by omega)
    obtain ⟨hkd, hi1, hi2⟩ := hks d hd'
    rw [Nat.mul_one] at hkd
    clear hks hkf
    have HD := Lib.hid HB.out
    clear HB
    generalize x.kids[d] = y at *
    have hKD := fun (v3 : Value) (W : World) => iKidsPN x v3 W
    have hI : ∀ W, Kept w W → (W.cell? ⟨bc, 0, none⟩ = some (.slice (some ⟨b, o, none⟩) q.length cap) ∧ W.cell? ⟨b, o + a, none⟩ = some (.int .i64 x.kids.length) ∧ W.cell? ⟨bk, 0, none⟩ = some (.func (.func 127) #[] #[]) ∧ W.cell? ⟨bn, 0, none⟩ = some (.slice (some ⟨b2, o2, none⟩) q.length cap2) ∧ W.cell? ⟨b3, o3 + d, none⟩ = some (.int .i64 y) ∧ W.cell? ⟨b2, o2 + a * 4, none⟩ = some (.int .i64 x.kind) ∧ W.cell? ⟨b2, o2 + a * 4 + 1, none⟩ = some (.int .i64 x.n) ∧ W.cell? ⟨b2, o2 + a * 4 + 2, none⟩ = some (.string x.s) ∧ W.cell? ⟨b2, o2 + a * 4 + 3, none⟩ = some (.slice (some ⟨b3, o3, none⟩) x.kids.length c3)) :=
      fun W hK => ⟨(hK.cell _ _ hbc).trans hcc, (hK.cell _ _ hb).trans hca, (hK.cell _ _ hbk).trans hck, (hK.cell _ _ hbn).trans hcn, (hK.cell _ _ hb3).trans hkd, (hK.cell _ _ hb2).trans e0, (hK.cell _ _ hb2).trans e1, (hK.cell _ _ hb2).trans e2, (hK.cell _ _ hb2).trans e3⟩
    clear hcc hca hck hcn hkd
    go_enter Tryz.func148, Tryz.ntmps148
    go_wp2_with fail
    go_region_held3 (fun W => W.cell? ⟨bc, 0, none⟩ = some (.slice (some ⟨b, o, none⟩) q.length cap) ∧ W.cell? ⟨b, o + a, none⟩ = some (.int .i64 x.kids.length) ∧ W.cell? ⟨bk, 0, none⟩ = some (.func (.func 127) #[] #[]) ∧ W.cell? ⟨bn, 0, none⟩ = some (.slice (some ⟨b2, o2, none⟩) q.length cap2) ∧ W.cell? ⟨b3, o3 + d, none⟩ = some (.int .i64 y) ∧ W.cell? ⟨b2, o2 + a * 4, none⟩ = some (.int .i64 x.kind) ∧ W.cell? ⟨b2, o2 + a * 4 + 1, none⟩ = some (.int .i64 x.n) ∧ W.cell? ⟨b2, o2 + a * 4 + 2, none⟩ = some (.string x.s) ∧ W.cell? ⟨b2, o2 + a * 4 + 3, none⟩ = some (.slice (some ⟨b3, o3, none⟩) x.kids.length c3))
      (first | exact hI _ (Kept.refl _) | exact hI _ (Kept.drew _) | exact hI _ ((Kept.drew _).trans (Kept.of_below hb1)))
      ((go_at_call 127; refine (hKD _ _).mono ?_; rintro e w1 ⟨rfl, hb1⟩))
    go_wp2
    go_ret
    refine ⟨ret_bool ?_, (Below.refl _ _).drew.trans hb1⟩
    rw [HD.out, Bool.eq_iff_iff]; simp
theorem e_iNextPN : ∀ args w, (callFunc 148 args).run Tryz.prog w = .ok (.enter 148 args) w := enters_of Tryz.func148 (by kernel_rfl) rfl
theorem iWalkPrePN (q : List PN) (vc vn : Value) (bc bk bn : Nat) (w : World) (hcc : w.cell? ⟨bc, 0, none⟩ = some vc) (hck : w.cell? ⟨bk, 0, none⟩ = some (.func (.func 127) #[] #[])) (hcn : w.cell? ⟨bn, 0, none⟩ = some vn)
    (hbc : bc < w.heap.size) (hbk : bk < w.heap.size) (hbn : bn < w.heap.size) (hC : RowRd 1 IntEl w vc (lens (q.map PN.kids))) (hR : RowRd 4 PNEl w vn q) (hl : q.length ≤ 1048576) :
    Calls Tryz.prog 80 #[vc, .int .i64 0, .func (.func 148) #[] #[.pointer (some ⟨bc, 0, none⟩), .pointer (some ⟨bk, 0, none⟩), .pointer (some ⟨bn, 0, none⟩)]] w fun e w' => e = .returned (.int .i64 (walkS (vPre (q.map PN.kids)) (lens (q.map PN.kids)) (q.length + 1) () 0).1) ∧ Below w.heap.size w w' := by
  have hle : (lens (q.map PN.kids)).length = q.length := by simp [lens]
  refine iWalk (vPre (q.map PN.kids)) (fun _ W => Below w.heap.size w W) 148 #[.pointer (some ⟨bc, 0, none⟩), .pointer (some ⟨bk, 0, none⟩), .pointer (some ⟨bn, 0, none⟩)] e_iNextPN (lens (q.map PN.kids)) vc (by omega) (fun _ W hW => hC.kept IntEl.st (Kept.of_below hW)) ?_ (q.length + 1) () 0 w (Below.refl _ _) (Nat.zero_le _) (by omega)
  intro u W a d n h hW hd h0 h1
  have hla : ((lens (q.map PN.kids))[a]'h).toNat = (q[a]'(by omega)).kids.length := by simp [lens]
  rw [hla] at hd
  exact (iNextPN q vc vn bc bk bn a d n W ((hW.cell (p := ⟨bc, 0, none⟩) hbc).trans hcc) ((hW.cell (p := ⟨bk, 0, none⟩) hbk).trans hck) ((hW.cell (p := ⟨bn, 0, none⟩) hbn).trans hcn) (Nat.lt_of_lt_of_le hbc hW.size) (Nat.lt_of_lt_of_le hbk hW.size) (Nat.lt_of_lt_of_le hbn hW.size)
    (hC.kept IntEl.st (Kept.of_below hW)) (hR.kept PNEl.st (Kept.of_below hW)) (by omega) hd).mono fun e w' ⟨h1, h2⟩ => ⟨h1, below_tr hW h2⟩
theorem iPrePN (q : List PN) (v : Value) (w : World) (hR : RowRd 4 PNEl w v q) :
    Calls Tryz.prog 126 #[v, .func (.func 127) #[] #[]] w fun e w' => e = .returned (.bool (preB (q.map PN.kids))) ∧ Below w.heap.size w w' := by
  have hR0 := hR
  obtain ⟨p, cap, rfl, hm, hRf⟩ := hR.form
  clear hRf
  unfold maxLen at hm
  by_cases h0 : 600 < q.length
  · have h0' : 600 < (q.length : Int) := by omega
    have HB := Lib.hid (show preB (q.map PN.kids) = false from by simp [preB]; omega)
    go_enter Tryz.func126, Tryz.ntmps126
    go_wp2
    go_ret
    exact ⟨ret_bool HB.out.symm, Joins.below_alloc2 w _ _⟩
  · have h0' : decide (600 < (q.length : Int)) = false := by simp; omega
    have h1 : decide (q.length ≤ 600) = true := by simp; omega
    have HB := Lib.hid (show preB (q.map PN.kids) = decide ((walkS (vPre (q.map PN.kids)) (lens (q.map PN.kids)) (q.length + 1) () 0).1 = (q.length : Int)) from by
      unfold preB; rw [List.length_map, h1]; simp)
    have hmap : q.map (fun x => (x.kids.length : Int)) = lens (q.map PN.kids) := by simp [lens]
    have hIx : ∀ x ∈ q, I64 (x.kids.length : Int) := by
      intro x hx
      obtain ⟨i, hi, rfl⟩ := List.getElem_of_mem hx
      obtain ⟨_, _, _, _, hRf⟩ := hR0.form
      obtain ⟨b, o, _, _, h⟩ := hRf (by omega)
      obtain ⟨⟨e0, i0⟩, ⟨e1, i1⟩, ⟨e2, i2⟩, ⟨v3, e3, r3⟩⟩ := h i hi
      obtain ⟨_, _, _, hm3, _⟩ := r3.form
      unfold maxLen at hm3
      exact ⟨by omega, by omega⟩
    have hWK := fun (vc : Value) (bc : Nat) (W : World) => iWalkPrePN q vc (.slice p q.length cap) bc (w.heap.size + 1) w.heap.size W
    have hMP := fun (W : World) (hK : Kept w W) (hc : W.cell? ⟨w.heap.size + 1, 0, none⟩ = some (.func (.func 127) #[] #[])) (hlt : w.heap.size + 1 < W.heap.size) =>
      iMapPN 147 #[.pointer (some ⟨w.heap.size + 1, 0, none⟩)] e_iLenPN (fun x => (x.kids.length : Int)) q (.slice p q.length cap) W (hR0.kept PNEl.st hK) (by omega) hIx
        (fun i hi u W' hW' hu => iLenPN (w.heap.size + 1) q[i] u W' ((hW'.cell (p := ⟨w.heap.size + 1, 0, none⟩) hlt).trans hc) (Nat.lt_of_lt_of_le hlt hW'.size) hu)
    have hq := Lib.hid (show q.length ≤ 1048576 by omega)
    clear h0 h1
    go_enter Tryz.func126, Tryz.ntmps126
    go_wp2_with (go_at_call 146; refine (hMP _ (Kept.al2 _ _ _) (by simp) (by simp)).mono ?_; rintro e w1 ⟨v', rfl, hv', hb⟩; rw [hmap] at hv'; have hvf := hv'.form; obtain ⟨pv, cv, rfl, mv, -⟩ := hvf)
    clear hMP hmap hIx hR
    have hsz := hb.size
    simp at hsz
    have f0 : w1.cell? ⟨w.heap.size, 0, none⟩ = some (.slice p q.length cap) := (hb.cell (p := ⟨w.heap.size, 0, none⟩) (by simp; omega)).trans (by simp)
    have f1 : w1.cell? ⟨w.heap.size + 1, 0, none⟩ = some (.func (.func 127) #[] #[]) := (hb.cell (p := ⟨w.heap.size + 1, 0, none⟩) (by simp)).trans (by simp)
    have b0 := below_tr (Joins.below_alloc2 w _ _) hb
    clear hb
    obtain ⟨O, hO⟩ : ∃ O, O = Obj.cells #[.slice pv (lens (q.map PN.kids)).length cv] 46 := ⟨_, rfl⟩
    have kO : Kept w1 (w1.alloc O) := Kept.alloc _ _
    have g0 := (kO.cell w.heap.size 0 (by omega)).trans f0
    have g1 := (kO.cell (w.heap.size + 1) 0 (by omega)).trans f1
    have gC : (w1.alloc O).cell? ⟨w1.heap.size, 0, none⟩ = some (.slice pv (lens (q.map PN.kids)).length cv) := by rw [hO]; simp
    have hvO := hv'.kept IntEl.st kO
    have z0 : w1.heap.size < (w1.alloc O).heap.size := by simp
    have bO : Below w.heap.size w (w1.alloc O) := b0.alloc (by omega) O
    rw [← hO]
    clear hO hv' f0 f1 kO
    generalize w1.alloc O = wb at *
    have HW := fun W (hK : Kept wb W) => Lib.hid (hWK _ w1.heap.size W ((hK.cell _ _ z0).trans gC) ((hK.cell (w.heap.size + 1) 0 (by omega)).trans g1) ((hK.cell w.heap.size 0 (by omega)).trans g0) (Nat.lt_of_lt_of_le z0 hK.size) (Nat.lt_of_lt_of_le (by omega) hK.size) (Nat.lt_of_lt_of_le (by omega) hK.size)
      (hvO.kept IntEl.st hK) (hR0.kept PNEl.st ((Kept.of_below bO).trans hK)) hq.out)
    have hI : ∀ W, Kept wb W → (W.cell? ⟨w.heap.size, 0, none⟩ = some (.slice p q.length cap) ∧ W.cell? ⟨w1.heap.size, 0, none⟩ = some (.slice pv (lens (q.map PN.kids)).length cv)) := fun W hK => ⟨(hK.cell w.heap.size 0 (by omega)).trans g0, (hK.cell _ _ z0).trans gC⟩
    clear hWK hvO g0 g1 gC
    generalize (walkS (vPre (q.map PN.kids)) (lens (q.map PN.kids)) (q.length + 1) () 0).1 = r at *
    go_wp2_with fail
    go_region_held3 (fun W => W.cell? ⟨w.heap.size, 0, none⟩ = some (.slice p q.length cap) ∧ W.cell? ⟨w1.heap.size, 0, none⟩ = some (.slice pv (lens (q.map PN.kids)).length cv))
      (first | exact hI _ (Kept.refl _) | exact hI _ (Kept.drew _) | exact hI _ ((Kept.drew _).trans (Kept.of_below hb2)))
      ((go_at_call 80; refine (HW _ (by first | exact Kept.drew _ | exact Kept.refl _)).out.mono ?_; rintro e w2 ⟨rfl, hb2⟩))
    go_wp2
    go_ret
    refine ⟨ret_bool ?_, below_tr bO.drew hb2⟩
    rw [HB.out, Bool.eq_iff_iff]; simp
end Go.Proofs.YtaibgnfjjbncpaaGreat
namespace Go.Proofs.YtaibgnfjjbncpaaGreat
set_option linter.unusedVariables false
open Go.RowKit

/-- Which of n operations have come up. -/
def msk (n : Nat) (ts : List Nat) : Array Bool := ((List.range n).map fun i => ts.contains i).toArray
theorem region_begin {P : Program} {ops : Array Oper} {Q : Exit → Act → World → Prop} {S : World → Prop} {id n : Nat} {a : Act} {w : World} (hm : P.follows .mixedOrders = true) (hn : ops.size = n)
    (hl : Array.replicate n false = msk n []) (hS : S w.drew) (h : S w.drew → wpAnyH P .any ops Q S n (msk n []) a w.drew) : (Code.region id ops true).wp P Q a w := by
  subst hn
  exact wp_region_held_drew hm hS (fun hs => by rw [hl]; exact h hs)
theorem take_next {P : Program} {md : Region.Mode} {ops : Array Oper} {Q : Exit → Act → World → Prop} {S : World → Prop} {i n d : Nat} {oi : Oper} {v : Value} {fuel : Nat} (ts : List Nat) {ts' : List Nat} {a a' : Act} {w : World} (hi : ops[i]? = some oi)
    (hs : Region.noSelect ops = true) (hf : Region.free md ops (msk n ts) i = true) (hr : (Region.ready md ops (msk n ts)).contains i = true)
    (hQ : ∀ c a w, Q (.panic c) (a.put oi.dst v) w → Q (.panic c) a w) (hy : YieldsIf P ops S oi v a) (hS : S w)
    (hl : (msk n ts).setIfInBounds i true = msk n ts') (hd : oi.dst = some d) (ha : a.put (some d) v = a')
    (h : wpAnyH P md ops Q S fuel (msk n ts') a' w) : wpAnyH P md ops Q S (fuel + 1) (msk n ts) a w := by
  subst ha
  rw [← hd] at h
  exact wpAnyH_take hi hs hf hr hQ hy hS (by rw [hl]; exact h)
theorem mask_is {P : Program} {md : Region.Mode} {ops : Array Oper} {Q : Exit → Act → World → Prop} {S : World → Prop} {n fuel : Nat} {up : Array Bool} {a : Act} {w : World} (ts' : List Nat) (hl : up = msk n ts')
    (h : wpAnyH P md ops Q S fuel (msk n ts') a w) : wpAnyH P md ops Q S fuel up a w := hl ▸ h
end Go.Proofs.YtaibgnfjjbncpaaGreat
namespace Go.Proofs.YtaibgnfjjbncpaaGreat
set_option linter.unusedVariables false
set_option maxRecDepth 100000
open Go.ChangeShapes Go.WideShapes Go.ChangeAt Go.RowKit Go.Maps Go.WideMaps

set_option maxHeartbeats 4000000 in
theorem iTwice (q : List PN) (v : Value) (w : World) (hR : RowRd 4 PNEl w v q) :
    Calls Tryz.prog 129 #[.agg #[v]] w fun e w' => e = .returned (.bool (propB (TwiceP q))) ∧ Below w.heap.size w w' := by
  obtain ⟨p, cap, rfl, hm, hRf⟩ := hR.form
  unfold maxLen at hm
  have hmm := @run_makeMap Tryz.prog
  have hbm := fun O => below_tr (Joins.below_alloc1 w O) (Joins.below_alloc1 _ (.map #[] 0))
  go_enter Tryz.func129, Tryz.ntmps129
  go_wp2
  go_loopw [10] (fun i wr => ∃ (k : Nat) (D : DataW Unit), i = .int .i64 k ∧ k ≤ q.length ∧ wr.ownsMap Tryz.prog 9 (plainElem Tryz.prog 4) (w.heap.size + 1) k D ∧ namesD q k D ∧ onceP q k ∧ Below w.heap.size w wr) (fun i _ => q.length - (intOf i).toNat)
  case atStart =>
    refine ⟨0, .map [], rfl, Nat.zero_le _, ?_, names_zero q, fun i j hi hj h => absurd h (by omega), hbm _⟩
    have := World.ownsMap_made (H := Unit) (w.alloc (.cells #[.slice p q.length cap] 87)) Tryz.prog 9 (plainElem Tryz.prog 4)
    simpa using this
  case round =>
    obtain ⟨k, D, rfl, hk, hown, hnm, honce, hbel⟩ := hrel
    have HNm := Lib.hid hnm
    have HO := Lib.hid honce
    clear hnm honce hmm hbm
    by_cases hlt : k < q.length
    · obtain ⟨b, o, rfl, hbw, hc⟩ := hRf (by omega)
      have ex := PNEl.st w wr b _ _ (Kept.of_below hbel) hbw (hc k hlt)
      have HSk := Lib.hid (fun h2 => names_skip HNm.out hlt h2)
      have HPut := Lib.hid (fun h2 => names_put HNm.out hown.isMap hlt h2)
      have HSt := Lib.hid (once_step q k hlt HO.out)
      have HTw := Lib.hid (twice_yes q k hlt)
      clear hc hRf hR
      generalize q[k] = x at *
      obtain ⟨⟨e0, i0⟩, ⟨e1, i1⟩, ⟨e2, i2⟩, ⟨v3, e3, r3⟩⟩ := ex
      obtain ⟨p3, c3, rfl, m3, -⟩ := r3.form
      have hb1 := below_tr hbel (Joins.below_alloc1 wr (.cells #[.int .i64 x.kind, .int .i64 x.n, .string x.s, .slice p3 x.kids.length c3] 115))
      have hown0 := hown.alloc (.cells #[.int .i64 x.kind, .int .i64 x.n, .string x.s, .slice p3 x.kids.length c3] 115)
      by_cases h2 : x.kind = 2
      · have h2' : (x.kind != 2) = false := by simpa using h2
        obtain ⟨c, hrun, hat⟩ := look_bool hown0 (string_keyed Tryz.underlying9) Tryz.underlying165 Tryz.underlying4 (zero_bool _) (key_str i2)
        have hcs : c = seenB (q.take k) x.s := by
          have := HNm.out x.s
          rw [hat] at this
          simpa using this
        have HC := Lib.hid hcs
        have H2 := Lib.hid h2
        clear hcs hat h2
        cases c
        · go_wp2_with (at_mapUpdate; refine wpList_mapUpdate_own _ rfl _ _ _ 165 rfl 9 4 (string_keyed Tryz.underlying9) Tryz.underlying165 (plainElem (H := Unit) Tryz.prog 4) (w.heap.size + 1) k _ rfl hown0 (by unfold maxLen; omega) _ _ _ rfl rfl (key_str i2) _ [] (plainElem_bool Tryz.underlying4 true) ?_; intro w1 hown1 hgrow1)
          go_roundw
          case rel => exact ⟨k + 1, _, by go_num, by omega, hown1, HPut.out H2.out, HSt.out (by rintro ⟨_, h⟩; rw [← HC.out] at h; cases h), hb1.grown hgrow1 hb1.size (fun j hj => by cases hj; omega)⟩
          case measure => simp [intOf]; omega
        · go_wp2
          go_ret
          exact ⟨ret_bool (propB_t (HTw.out H2.out HC.out.symm)).symm, hb1⟩
      · have h2' : (x.kind != 2) = true := by simpa using h2
        have H2 := Lib.hid h2
        clear h2
        go_wp2
        go_roundw
        case rel => exact ⟨k + 1, D, by go_num, by omega, hown0.mono (by omega), HSk.out H2.out, HSt.out (fun h => H2.out h.1), hb1⟩
        case measure => simp [intOf]; omega
    · obtain rfl : k = q.length := by omega
      go_wp2
      go_ret
      exact ⟨ret_bool (propB_f (once_end q HO.out)).symm, hbel⟩
set_option maxHeartbeats 4000000 in
theorem iRightPair (q : List PN) (vq : Value) (x : PN) (v3 : Value) (w : World) (hR : RowRd 4 PNEl w vq q) (r3 : RowRd 1 IntEl w v3 x.kids) (i2 : x.s.size ≤ maxLen) (hcons : isConsB x = true → x.kids.length = 1) (hk : ∀ k ∈ x.kids, 0 ≤ k ∧ k < (q.length : Int)) :
    Calls Tryz.prog 125 #[vq, .agg #[.int .i64 x.kind, .int .i64 x.n, .string x.s, v3]] w fun e w' => e = .returned (.bool (!isConsB x || decide (firstPK q x.kids = 5))) ∧ Below w.heap.size w w' := by
  have hC := fun W => iConsPat x.kind x.n x.s v3 W i2
  have e2 : (decide (x.kind = 4) && decide (x.s.toList = [58, 58])) = isConsB x := rfl
  rw [e2] at hC
  obtain ⟨p3, c3, rfl, hm3, hkf⟩ := r3.form
  unfold maxLen at hm3
  obtain ⟨O, hO⟩ : ∃ O, O = Obj.cells #[.int .i64 x.kind, .int .i64 x.n, .string x.s, .slice p3 x.kids.length c3] 115 := ⟨_, rfl⟩
  have kO : Kept w (w.alloc O) := Kept.alloc _ _
  have z0 : w.heap.size < (w.alloc O).heap.size := by simp
  have d0 : (w.alloc O).cell? ⟨w.heap.size, 0, none⟩ = some (.int .i64 x.kind) := by rw [hO]; simp
  have d1 : (w.alloc O).cell? ⟨w.heap.size, 1, none⟩ = some (.int .i64 x.n) := by rw [hO]; simp
  have d2 : (w.alloc O).cell? ⟨w.heap.size, 2, none⟩ = some (.string x.s) := by rw [hO]; simp
  have d3 : (w.alloc O).cell? ⟨w.heap.size, 3, none⟩ = some (.slice p3 x.kids.length c3) := by rw [hO]; simp
  have bO : Below w.heap.size w (w.alloc O) := Joins.below_alloc1 w O
  have HC := fun W (hB : Below (w.alloc O).heap.size (w.alloc O) W) => hC W
  have hRO := hR.kept PNEl.st kO
  have r3O := r3.kept IntEl.st kO
  obtain ⟨p2, cap2, rfl, hm2, _⟩ := hRO.form
  unfold maxLen at hm2
  clear hC hR r3 hkf
  cases hb2 : isConsB x
  · rw [hb2] at HC
    clear hcons hk
    go_enter Tryz.func125, Tryz.ntmps125
    go_wp2_with fail
    rw [← hO]
    clear hO
    generalize w.alloc O = wb at *
    have hI := fun W (hB : Below wb.heap.size wb W) => (⟨(hB.cell (p := ⟨_, 0, none⟩) z0).trans d0, (hB.cell (p := ⟨_, 1, none⟩) z0).trans d1, (hB.cell (p := ⟨_, 2, none⟩) z0).trans d2, (hB.cell (p := ⟨_, 3, none⟩) z0).trans d3⟩ : W.cell? ⟨w.heap.size, 0, none⟩ = some (.int .i64 x.kind) ∧ W.cell? ⟨w.heap.size, 1, none⟩ = some (.int .i64 x.n) ∧ W.cell? ⟨w.heap.size, 2, none⟩ = some (.string x.s) ∧ W.cell? ⟨w.heap.size, 3, none⟩ = some (.slice p3 x.kids.length c3))
    clear hRO r3O e2
    refine (HC _ (Below.refl _ _)).mono ?_
    rintro e w1 ⟨rfl, hb1⟩
    have hB1 := hb1
    have hcs1 := hI _ hB1
    go_split_ands
    have hHeld := hB1
    go_wp2
    go_ret
    exact ⟨by simp, below_tr bO hHeld⟩
  · rw [hb2] at HC
    have hl := hcons hb2
    obtain ⟨k, hkk⟩ : ∃ k, x.kids = [k] := List.length_eq_one_iff.1 hl
    obtain ⟨hk0, hk1⟩ := hk k (by simp [hkk])
    obtain ⟨n, rfl⟩ : ∃ n : Nat, k = n := ⟨k.toNat, by omega⟩
    have hn : n < q.length := by omega
    have hg := List.getElem?_eq_getElem hn
    have HF := Lib.hid (show (!true || decide (firstPK q x.kids = 5)) = decide (q[n].kind = 5) from by rw [hkk]; simp [firstPK, hg])
    obtain ⟨_, _, eq3, _, hkf⟩ := r3O.form
    cases eq3
    obtain ⟨b3, o3, rfl, hb3, hks⟩ := hkf (by omega)
    have hk3 := (hks 0 (by omega)).1
    simp only [hkk, List.getElem_cons_zero, Nat.zero_mul, Nat.add_zero] at hk3
    obtain ⟨_, _, eq2, _, hqf⟩ := hRO.form
    cases eq2
    obtain ⟨b2, o2, rfl, hb2', hqs⟩ := hqf (by omega)
    have hq5 := (hqs n hn).1.1
    have hl1 : (0 : Int) < (x.kids.length : Int) := by omega
    have hl2 : 0 < x.kids.length := by omega
    clear hcons hk hks hkf hqf hqs hRO r3O hg
    generalize q[n] = y at *
    clear hkk hl hk0 hk1
    go_enter Tryz.func125, Tryz.ntmps125
    go_wp2_with fail
    rw [← hO]
    clear hO
    generalize w.alloc O = wb at *
    have hI := fun W (hB : Below wb.heap.size wb W) => (⟨(hB.cell (p := ⟨_, 0, none⟩) z0).trans d0, (hB.cell (p := ⟨_, 1, none⟩) z0).trans d1, (hB.cell (p := ⟨_, 2, none⟩) z0).trans d2, (hB.cell (p := ⟨_, 3, none⟩) z0).trans d3, (hB.cell (p := ⟨_, _, none⟩) hb3).trans hk3, (hB.cell (p := ⟨_, _, none⟩) hb2').trans hq5⟩ : W.cell? ⟨w.heap.size, 0, none⟩ = some (.int .i64 x.kind) ∧ W.cell? ⟨w.heap.size, 1, none⟩ = some (.int .i64 x.n) ∧ W.cell? ⟨w.heap.size, 2, none⟩ = some (.string x.s) ∧ W.cell? ⟨w.heap.size, 3, none⟩ = some (.slice (some ⟨b3, o3, none⟩) x.kids.length c3) ∧ W.cell? ⟨b3, o3, none⟩ = some (.int .i64 n) ∧ W.cell? ⟨b2, o2 + n * 4, none⟩ = some (.int .i64 y.kind))
    clear e2
    refine (HC _ (Below.refl _ _)).mono ?_
    rintro e w1 ⟨rfl, hb1⟩
    have hB1 := hb1
    have hcs1 := hI _ hB1
    go_split_ands
    have hHeld := hB1
    go_wp2
    go_ret
    refine ⟨ret_bool ?_, below_tr bO hHeld⟩
    rw [HF.out, Bool.eq_iff_iff]; simp
set_option maxHeartbeats 4000000 in
theorem iRightPN (q : List PN) (vq : Value) (bq : Nat) (x : PN) (u : Value) (w : World) (hcq : w.cell? ⟨bq, 0, none⟩ = some vq) (hbq : bq < w.heap.size) (hR : RowRd 4 PNEl w vq q) (hu : PNVal w u x) (hk : ∀ k ∈ x.kids, 0 ≤ k ∧ k < (q.length : Int)) :
    Calls Tryz.prog 123 #[u, .pointer (some ⟨bq, 0, none⟩)] w fun e w' => e = .returned (.bool (rightPB q x)) ∧ Below w.heap.size w w' := by
  obtain ⟨v3, rfl, i0, i1, i2, r3⟩ := hu
  have hP := fun W (hK : Kept w W) => iPNode x.kind x.n x.s x.kids v3 W (r3.kept IntEl.st hK) i2
  have HR := Lib.hid (show rightPB q x = (isPNB x && (!isConsB x || decide (firstPK q x.kids = 5))) from rfl)
  have hcons := isPN_cons x
  have e1 : pnodeB true x.kind x.n x.s (x.kids.length : Int) = isPNB x := rfl
  rw [e1] at hP
  have hC := fun W (hK : Kept w W) (h1 : isPNB x = true) => iRightPair q vq x v3 W (hR.kept PNEl.st hK) (r3.kept IntEl.st hK) i2 (hcons h1) hk
  obtain ⟨p3, c3, rfl, hm3, _⟩ := r3.form
  unfold maxLen at hm3
  obtain ⟨O, hO⟩ : ∃ O, O = Obj.cells #[.int .i64 x.kind, .int .i64 x.n, .string x.s, .slice p3 x.kids.length c3] 115 := ⟨_, rfl⟩
  have kO : Kept w (w.alloc O) := Kept.alloc _ _
  have z0 : w.heap.size < (w.alloc O).heap.size := by simp
  have d0 : (w.alloc O).cell? ⟨w.heap.size, 0, none⟩ = some (.int .i64 x.kind) := by rw [hO]; simp
  have d1 : (w.alloc O).cell? ⟨w.heap.size, 1, none⟩ = some (.int .i64 x.n) := by rw [hO]; simp
  have d2 : (w.alloc O).cell? ⟨w.heap.size, 2, none⟩ = some (.string x.s) := by rw [hO]; simp
  have d3 : (w.alloc O).cell? ⟨w.heap.size, 3, none⟩ = some (.slice p3 x.kids.length c3) := by rw [hO]; simp
  have dq := (kO.cell bq 0 hbq).trans hcq
  have bO : Below w.heap.size w (w.alloc O) := Joins.below_alloc1 w O
  have HP := fun W (hB : Below (w.alloc O).heap.size (w.alloc O) W) => hP W (kO.trans (Kept.of_below hB))
  have HC := fun (h1 : isPNB x = true) W (hB : Below (w.alloc O).heap.size (w.alloc O) W) => hC W (kO.trans (Kept.of_below hB)) h1
  have bq0 : bq < (w.alloc O).heap.size := Nat.lt_trans hbq z0
  clear hP hC hR r3 hcq hcons hk
  cases hb : isPNB x
  · rw [hb] at HP HR
    have HF := Lib.hid (show rightPB q x = false from by rw [HR.out]; rfl)
    clear HR HC
    go_enter Tryz.func123, Tryz.ntmps123
    go_wp2_with fail
    rw [← hO]
    clear hO
    generalize w.alloc O = wb at *
    have hI := fun W (hB : Below wb.heap.size wb W) => (⟨(hB.cell (p := ⟨_, 0, none⟩) z0).trans d0, (hB.cell (p := ⟨_, 1, none⟩) z0).trans d1, (hB.cell (p := ⟨_, 2, none⟩) z0).trans d2, (hB.cell (p := ⟨_, 3, none⟩) z0).trans d3⟩ : W.cell? ⟨w.heap.size, 0, none⟩ = some (.int .i64 x.kind) ∧ W.cell? ⟨w.heap.size, 1, none⟩ = some (.int .i64 x.n) ∧ W.cell? ⟨w.heap.size, 2, none⟩ = some (.string x.s) ∧ W.cell? ⟨w.heap.size, 3, none⟩ = some (.slice p3 x.kids.length c3))
    clear e1
    refine (HP _ (Below.refl _ _)).mono ?_
    rintro e w1 ⟨rfl, hb1⟩
    have hB1 := hb1
    have hcs1 := hI _ hB1
    go_split_ands
    have hHeld := hB1
    go_wp2
    go_ret
    exact ⟨ret_bool HF.out.symm, below_tr bO hHeld⟩
  · have HC := HC hb
    rw [hb] at HP HR
    have HF := Lib.hid (show (!isConsB x || decide (firstPK q x.kids = 5)) = rightPB q x from by rw [HR.out, Bool.true_and])
    rw [HF.out] at HC
    clear HR HF
    generalize rightPB q x = rr at *
    go_enter Tryz.func123, Tryz.ntmps123
    go_wp2_with fail
    rw [← hO]
    clear hO
    generalize w.alloc O = wb at *
    have hI := fun W (hB : Below wb.heap.size wb W) => (⟨(hB.cell (p := ⟨_, 0, none⟩) z0).trans d0, (hB.cell (p := ⟨_, 1, none⟩) z0).trans d1, (hB.cell (p := ⟨_, 2, none⟩) z0).trans d2, (hB.cell (p := ⟨_, 3, none⟩) z0).trans d3, (hB.cell (p := ⟨_, 0, none⟩) bq0).trans dq⟩ : W.cell? ⟨w.heap.size, 0, none⟩ = some (.int .i64 x.kind) ∧ W.cell? ⟨w.heap.size, 1, none⟩ = some (.int .i64 x.n) ∧ W.cell? ⟨w.heap.size, 2, none⟩ = some (.string x.s) ∧ W.cell? ⟨w.heap.size, 3, none⟩ = some (.slice p3 x.kids.length c3) ∧ W.cell? ⟨bq, 0, none⟩ = some vq)
    clear e1
    refine (HP _ (Below.refl _ _)).mono ?_
    rintro e w1 ⟨rfl, hb1⟩
    have hB1 := hb1
    have hcs1 := hI _ hB1
    go_split_ands
    go_wp2_with fail
    refine (HC _ hB1).mono ?_
    rintro e w2 ⟨rfl, hb2⟩
    have hB2 := below_tr hB1 hb2
    have hcs2 := hI _ hB2
    go_split_ands
    have hHeld := hB2
    go_wp2
    go_ret
    exact ⟨rfl, below_tr bO hHeld⟩
theorem e_iRightPN : ∀ args w, (callFunc 123 args).run Tryz.prog w = .ok (.enter 123 args) w := enters_of Tryz.func123 (by kernel_rfl) rfl
end Go.Proofs.YtaibgnfjjbncpaaGreat
namespace Go.Proofs.YtaibgnfjjbncpaaGreat
set_option linter.unusedVariables false
set_option maxRecDepth 100000
open Go.ChangeShapes Go.WideShapes Go.ChangeAt Go.RowKit

theorem iPatOk (q : List PN) (v : Value) (w : World) (hR : RowRd 4 PNEl w v q) :
    Calls Tryz.prog 103 #[.agg #[v]] w fun e w' => e = .returned (.bool (patOkB q)) ∧ Below w.heap.size w w' := by
  have HP := Lib.hid (pat_ok q)
  have hR0 := hR
  obtain ⟨p, cap, rfl, hm, hRf⟩ := hR.form
  clear hRf
  unfold maxLen at hm
  obtain ⟨O, hO⟩ : ∃ O, O = Obj.cells #[.slice p q.length cap] 87 := ⟨_, rfl⟩
  have kO : Kept w (w.alloc O) := Kept.alloc _ _
  have z0 : w.heap.size < (w.alloc O).heap.size := by simp
  have c0 : (w.alloc O).cell? ⟨w.heap.size, 0, none⟩ = some (.slice p q.length cap) := by rw [hO]; simp
  have bO : Below w.heap.size w (w.alloc O) := Joins.below_alloc1 w O
  have hRO := hR0.kept PNEl.st kO
  have HPre := fun W (hK : Below (w.alloc O).heap.size (w.alloc O) W) => Lib.hid (iPrePN q _ W (hRO.kept PNEl.st (Kept.of_below hK)))
  have HTw := fun W (hK : Below (w.alloc O).heap.size (w.alloc O) W) => Lib.hid (iTwice q _ W (hRO.kept PNEl.st (Kept.of_below hK)))
  cases hp : preB (q.map PN.kids)
  · rw [hp] at HP HPre
    have HF := Lib.hid (show patOkB q = false from HP.out)
    clear HP HTw hR hR0 hRO
    go_enter Tryz.func103, Tryz.ntmps103
    go_wp2_with fail
    rw [← hO]
    clear hO
    generalize w.alloc O = wb at *
    refine (HPre _ (Below.refl _ _)).out.mono ?_
    rintro e w1 ⟨rfl, hb1⟩
    go_wp2
    go_ret
    exact ⟨ret_bool HF.out.symm, below_tr bO hb1⟩
  · have hkids := pat_kids q hp
    have HEv := fun W (hK : Below (w.alloc O).heap.size (w.alloc O) W) => Lib.hid (iEveryPN 123 #[.pointer (some ⟨w.heap.size, 0, none⟩)] e_iRightPN (rightPB q) q _ W (hRO.kept PNEl.st (Kept.of_below hK))
      (fun i hi u W' hW' hu => iRightPN q _ w.heap.size q[i] u W' ((hW'.cell (p := ⟨w.heap.size, 0, none⟩) (Nat.lt_of_lt_of_le z0 hK.size)).trans ((hK.cell (p := ⟨w.heap.size, 0, none⟩) z0).trans c0)) (Nat.lt_of_lt_of_le z0 (Nat.le_trans hK.size hW'.size)) (hRO.kept PNEl.st ((Kept.of_below hK).trans (Kept.of_below hW'))) hu (hkids _ (List.getElem_mem hi))))
    rw [hp] at HP HPre
    clear hkids hR hR0 hRO
    cases he : q.all (rightPB q)
    · rw [he] at HP HEv
      have HF := Lib.hid (show patOkB q = false from HP.out)
      clear HP HTw
      go_enter Tryz.func103, Tryz.ntmps103
      go_wp2_with fail
      rw [← hO]
      clear hO
      generalize w.alloc O = wb at *
      refine (HPre _ (Below.refl _ _)).out.mono ?_
      rintro e w1 ⟨rfl, hb1⟩
      have c1 := (hb1.cell (p := ⟨w.heap.size, 0, none⟩) z0).trans c0
      go_wp2_with fail
      refine (HEv _ hb1).out.mono ?_
      rintro e w2 ⟨rfl, hb2⟩
      go_wp2
      go_ret
      exact ⟨ret_bool HF.out.symm, below_tr (below_tr bO hb1) hb2⟩
    · rw [he] at HP HEv
      have HF := Lib.hid (show patOkB q = !propB (TwiceP q) from HP.out)
      clear HP
      generalize propB (TwiceP q) = tw at *
      go_enter Tryz.func103, Tryz.ntmps103
      go_wp2_with fail
      rw [← hO]
      clear hO
      generalize w.alloc O = wb at *
      refine (HPre _ (Below.refl _ _)).out.mono ?_
      rintro e w1 ⟨rfl, hb1⟩
      have c1 := (hb1.cell (p := ⟨w.heap.size, 0, none⟩) z0).trans c0
      go_wp2_with fail
      refine (HEv _ hb1).out.mono ?_
      rintro e w2 ⟨rfl, hb2⟩
      have hB2 := below_tr hb1 hb2
      have c2 := (hB2.cell (p := ⟨w.heap.size, 0, none⟩) z0).trans c0
      go_wp2_with fail
      refine (HTw _ hB2).out.mono ?_
      rintro e w3 ⟨rfl, hb3⟩
      go_wp2
      go_ret
      exact ⟨ret_bool HF.out.symm, below_tr (below_tr bO hB2) hb3⟩
theorem iPatOkC (q : List PN) (v : Value) (w : World) (hR : RowRd 4 PNEl w v q) (hz : bPat q ≤ 1048576) :
    Calls Tryz.prog 103 #[.agg #[v]] w fun e w' => e = .returned (.bool (patOkB q)) ∧ Below w.heap.size w w' := iPatOk q v w hR
theorem e_iPatOk : ∀ args w, (callFunc 103 args).run Tryz.prog w = .ok (.enter 103 args) w := enters_of Tryz.func103 (by kernel_rfl) rfl
end Go.Proofs.YtaibgnfjjbncpaaGreat
namespace Go.Proofs.YtaibgnfjjbncpaaGreat
set_option linter.unusedVariables false
set_option maxRecDepth 100000
open Go.ChangeShapes Go.WideShapes Go.ChangeAt Go.RowKit


theorem iKidsNd (x : Nd) (v4 v5 : Value) (w : World) : Calls Tryz.prog 38 #[.agg #[.int .i64 x.kind, .int .i64 x.at_, .int .i64 x.n, .string x.s, v4, v5]] w fun e w' => e = .returned v4 ∧ Below w.heap.size w w' := by
  go_enter Tryz.func38, Tryz.ntmps38
  go_wp2
  go_ret
  exact ⟨rfl, Joins.below_alloc1 w _⟩
theorem iLenNd (bk : Nat) (x : Nd) (u : Value) (w : World) (hc : w.cell? ⟨bk, 0, none⟩ = some (.func (.func 38) #[] #[])) (hbk : bk < w.heap.size) (hu : NdVal w u x) :
    Calls Tryz.prog 78 #[u, .pointer (some ⟨bk, 0, none⟩)] w fun e w' => e = .returned (.int .i64 (x.kids.length : Int)) ∧ Below w.heap.size w w' := by
  obtain ⟨v4, v5, rfl, _, _, _, _, r, r5⟩ := hu
  have hK := fun W => iKidsNd x v4 v5 W
  obtain ⟨p, c, rfl, m, -⟩ := r.form
  have hne : w.heap.size ≠ bk := by omega
  go_enter Tryz.func78, Tryz.ntmps78
  go_wp2_with (go_at_call 38; refine (hK _).mono ?_; rintro e w1 ⟨rfl, hb⟩)
  go_ret
  exact ⟨rfl, below_tr (Joins.below_alloc1 w _) hb⟩
theorem e_iLenNd : ∀ args w, (callFunc 78 args).run Tryz.prog w = .ok (.enter 78 args) w := enters_of Tryz.func78 (by kernel_rfl) rfl
set_option maxHeartbeats 4000000 in
theorem iNextNd (q : List Nd) (vc vn : Value) (bc bk bn a d : Nat) (n : Int) (w : World) (hcc : w.cell? ⟨bc, 0, none⟩ = some vc) (hck : w.cell? ⟨bk, 0, none⟩ = some (.func (.func 38) #[] #[])) (hcn : w.cell? ⟨bn, 0, none⟩ = some vn)
    (hbc : bc < w.heap.size) (hbk : bk < w.heap.size) (hbn : bn < w.heap.size) (hC : RowRd 1 IntEl w vc (lens (q.map Nd.kids))) (hR : RowRd 6 NdEl w vn q) (ha : a < q.length) (hd : d ≤ q[a].kids.length) :
    Calls Tryz.prog 79 #[.int .i64 a, .int .i64 d, .int .i64 n, .pointer (some ⟨bc, 0, none⟩), .pointer (some ⟨bk, 0, none⟩), .pointer (some ⟨bn, 0, none⟩)] w fun e w' => e = .returned (.bool (vPre (q.map Nd.kids) () a d n).1) ∧ Below w.heap.size w w' := by
  have hle : (lens (q.map Nd.kids)).length = q.length := by simp [lens]
  obtain ⟨p, cap, rfl, hm, hCf⟩ := hC.form
  obtain ⟨b, o, rfl, hb, hcs⟩ := hCf (by omega)
  have hca := (hcs a (by omega)).1
  have hla : (lens (q.map Nd.kids))[a]'(by omega) = (q[a].kids.length : Int) := by simp [lens]
  rw [hla, Nat.mul_one] at hca
  rw [hle] at hcc
  clear hla hcs hCf hC
  unfold maxLen at hm
  rw [hle] at hm
  obtain ⟨p2, cap2, rfl, hm2, hRf⟩ := hR.form
  unfold maxLen at hm2
  obtain ⟨b2, o2, rfl, hb2, hn⟩ := hRf (by omega)
  have ex := hn a ha
  clear hn hRf hR
  by_cases h0 : d = q[a].kids.length
  · have HB := Lib.hid (show (vPre (q.map Nd.kids) () a d n).1 = true from by
      subst h0
      have := vPre_end (q.map Nd.kids) a (by simpa using ha) n
      simpa using this)
    clear ex
    generalize q[a] = x at *
    subst h0
    generalize x.kids.length = d at *
    go_enter Tryz.func79, Tryz.ntmps79
    go_wp2_with fail
    go_quiet (fail)
    go_wp2
    go_ret
    exact ⟨ret_bool HB.out.symm, below_drewN (Below.refl _ _) _⟩
  · have hd' : d < q[a].kids.length := by omega
    have HB := Lib.hid (show (vPre (q.map Nd.kids) () a d n).1 = decide (q[a].kids[d] = n) from by
      have := vPre_at (q.map Nd.kids) a d (by simpa using ha) (by simpa using hd') n
      simpa using this)
    have hdl : ((d : Int) == (q[a].kids.length : Int)) = false := by simp; omega
    clear hd h0
    generalize q[a] = x at *
    obtain ⟨⟨e0, i0⟩, ⟨e1, i1⟩, ⟨e2, i2⟩, ⟨e3, i3⟩, ⟨v4, e4, r4⟩, ⟨v5, e5, r5⟩⟩ := ex
    obtain ⟨p3, c3, rfl, hm3, hkf⟩ := r4.form
    unfold maxLen at hm3
    obtain ⟨b3, o3, rfl, hb3, hks⟩ := hkf (by omega)
    obtain ⟨hkd, hi1, hi2⟩ := hks d hd'
    rw [Nat.mul_one] at hkd
    clear hks hkf
    have HD := Lib.hid HB.out
    clear HB
    generalize x.kids[d] = y at *
    have hKD := fun (v4 v5 : Value) (W : World) => iKidsNd x v4 v5 W
    have hI : ∀ W, Kept w W → (W.cell? ⟨bc, 0, none⟩ = some (.slice (some ⟨b, o, none⟩) q.length cap) ∧ W.cell? ⟨b, o + a, none⟩ = some (.int .i64 x.kids.length) ∧ W.cell? ⟨bk, 0, none⟩ = some (.func (.func 38) #[] #[]) ∧ W.cell? ⟨bn, 0, none⟩ = some (.slice (some ⟨b2, o2, none⟩) q.length cap2) ∧ W.cell? ⟨b3, o3 + d, none⟩ = some (.int .i64 y) ∧ W.cell? ⟨b2, o2 + a * 6, none⟩ = some (.int .i64 x.kind) ∧ W.cell? ⟨b2, o2 + a * 6 + 1, none⟩ = some (.int .i64 x.at_) ∧ W.cell? ⟨b2, o2 + a * 6 + 2, none⟩ = some (.int .i64 x.n) ∧ W.cell? ⟨b2, o2 + a * 6 + 3, none⟩ = some (.string x.s) ∧ W.cell? ⟨b2, o2 + a * 6 + 4, none⟩ = some (.slice (some ⟨b3, o3, none⟩) x.kids.length c3) ∧ W.cell? ⟨b2, o2 + a * 6 + 5, none⟩ = some (v5)) :=
      fun W hK => ⟨(hK.cell _ _ hbc).trans hcc, (hK.cell _ _ hb).trans hca, (hK.cell _ _ hbk).trans hck, (hK.cell _ _ hbn).trans hcn, (hK.cell _ _ hb3).trans hkd, (hK.cell _ _ hb2).trans e0, (hK.cell _ _ hb2).trans e1, (hK.cell _ _ hb2).trans e2, (hK.cell _ _ hb2).trans e3, (hK.cell _ _ hb2).trans e4, (hK.cell _ _ hb2).trans e5⟩
    clear hcc hca hck hcn hkd
    go_enter Tryz.func79, Tryz.ntmps79
    go_wp2_with fail
    go_region_held3 (fun W => W.cell? ⟨bc, 0, none⟩ = some (.slice (some ⟨b, o, none⟩) q.length cap) ∧ W.cell? ⟨b, o + a, none⟩ = some (.int .i64 x.kids.length) ∧ W.cell? ⟨bk, 0, none⟩ = some (.func (.func 38) #[] #[]) ∧ W.cell? ⟨bn, 0, none⟩ = some (.slice (some ⟨b2, o2, none⟩) q.length cap2) ∧ W.cell? ⟨b3, o3 + d, none⟩ = some (.int .i64 y) ∧ W.cell? ⟨b2, o2 + a * 6, none⟩ = some (.int .i64 x.kind) ∧ W.cell? ⟨b2, o2 + a * 6 + 1, none⟩ = some (.int .i64 x.at_) ∧ W.cell? ⟨b2, o2 + a * 6 + 2, none⟩ = some (.int .i64 x.n) ∧ W.cell? ⟨b2, o2 + a * 6 + 3, none⟩ = some (.string x.s) ∧ W.cell? ⟨b2, o2 + a * 6 + 4, none⟩ = some (.slice (some ⟨b3, o3, none⟩) x.kids.length c3) ∧ W.cell? ⟨b2, o2 + a * 6 + 5, none⟩ = some (v5))
      (first | exact hI _ (Kept.refl _) | exact hI _ (Kept.drew _) | exact hI _ ((Kept.drew _).trans (Kept.of_below hb1)))
      ((go_at_call 38; refine (hKD _ _ _).mono ?_; rintro e w1 ⟨rfl, hb1⟩))
    go_wp2
    go_ret
    refine ⟨ret_bool ?_, (Below.refl _ _).drew.trans hb1⟩
    rw [HD.out, Bool.eq_iff_iff]; simp
theorem e_iNextNd : ∀ args w, (callFunc 79 args).run Tryz.prog w = .ok (.enter 79 args) w := enters_of Tryz.func79 (by kernel_rfl) rfl
theorem iWalkPreNd (q : List Nd) (vc vn : Value) (bc bk bn : Nat) (w : World) (hcc : w.cell? ⟨bc, 0, none⟩ = some vc) (hck : w.cell? ⟨bk, 0, none⟩ = some (.func (.func 38) #[] #[])) (hcn : w.cell? ⟨bn, 0, none⟩ = some vn)
    (hbc : bc < w.heap.size) (hbk : bk < w.heap.size) (hbn : bn < w.heap.size) (hC : RowRd 1 IntEl w vc (lens (q.map Nd.kids))) (hR : RowRd 6 NdEl w vn q) (hl : q.length ≤ 1048576) :
    Calls Tryz.prog 80 #[vc, .int .i64 0, .func (.func 79) #[] #[.pointer (some ⟨bc, 0, none⟩), .pointer (some ⟨bk, 0, none⟩), .pointer (some ⟨bn, 0, none⟩)]] w fun e w' => e = .returned (.int .i64 (walkS (vPre (q.map Nd.kids)) (lens (q.map Nd.kids)) (q.length + 1) () 0).1) ∧ Below w.heap.size w w' := by
  have hle : (lens (q.map Nd.kids)).length = q.length := by simp [lens]
  refine iWalk (vPre (q.map Nd.kids)) (fun _ W => Below w.heap.size w W) 79 #[.pointer (some ⟨bc, 0, none⟩), .pointer (some ⟨bk, 0, none⟩), .pointer (some ⟨bn, 0, none⟩)] e_iNextNd (lens (q.map Nd.kids)) vc (by omega) (fun _ W hW => hC.kept IntEl.st (Kept.of_below hW)) ?_ (q.length + 1) () 0 w (Below.refl _ _) (Nat.zero_le _) (by omega)
  intro u W a d n h hW hd h0 h1
  have hla : ((lens (q.map Nd.kids))[a]'h).toNat = (q[a]'(by omega)).kids.length := by simp [lens]
  rw [hla] at hd
  exact (iNextNd q vc vn bc bk bn a d n W ((hW.cell (p := ⟨bc, 0, none⟩) hbc).trans hcc) ((hW.cell (p := ⟨bk, 0, none⟩) hbk).trans hck) ((hW.cell (p := ⟨bn, 0, none⟩) hbn).trans hcn) (Nat.lt_of_lt_of_le hbc hW.size) (Nat.lt_of_lt_of_le hbk hW.size) (Nat.lt_of_lt_of_le hbn hW.size)
    (hC.kept IntEl.st (Kept.of_below hW)) (hR.kept NdEl.st (Kept.of_below hW)) (by omega) hd).mono fun e w' ⟨h1, h2⟩ => ⟨h1, below_tr hW h2⟩
theorem iPreNd (q : List Nd) (v : Value) (w : World) (hR : RowRd 6 NdEl w v q) :
    Calls Tryz.prog 37 #[v, .func (.func 38) #[] #[]] w fun e w' => e = .returned (.bool (preB (q.map Nd.kids))) ∧ Below w.heap.size w w' := by
  have hR0 := hR
  obtain ⟨p, cap, rfl, hm, hRf⟩ := hR.form
  clear hRf
  unfold maxLen at hm
  by_cases h0 : 600 < q.length
  · have h0' : 600 < (q.length : Int) := by omega
    have HB := Lib.hid (show preB (q.map Nd.kids) = false from by simp [preB]; omega)
    go_enter Tryz.func37, Tryz.ntmps37
    go_wp2
    go_ret
    exact ⟨ret_bool HB.out.symm, Joins.below_alloc2 w _ _⟩
  · have h0' : decide (600 < (q.length : Int)) = false := by simp; omega
    have h1 : decide (q.length ≤ 600) = true := by simp; omega
    have HB := Lib.hid (show preB (q.map Nd.kids) = decide ((walkS (vPre (q.map Nd.kids)) (lens (q.map Nd.kids)) (q.length + 1) () 0).1 = (q.length : Int)) from by
      unfold preB; rw [List.length_map, h1]; simp)
    have hmap : q.map (fun x => (x.kids.length : Int)) = lens (q.map Nd.kids) := by simp [lens]
    have hIx : ∀ x ∈ q, I64 (x.kids.length : Int) := by
      intro x hx
      obtain ⟨i, hi, rfl⟩ := List.getElem_of_mem hx
      obtain ⟨_, _, _, _, hRf⟩ := hR0.form
      obtain ⟨b, o, _, _, h⟩ := hRf (by omega)
      obtain ⟨⟨e0, i0⟩, ⟨e1, i1⟩, ⟨e2, i2⟩, ⟨e3, i3⟩, ⟨v4, e4, r4⟩, ⟨v5, e5, r5⟩⟩ := h i hi
      obtain ⟨_, _, _, hm3, _⟩ := r4.form
      unfold maxLen at hm3
      exact ⟨by omega, by omega⟩
    have hWK := fun (vc : Value) (bc : Nat) (W : World) => iWalkPreNd q vc (.slice p q.length cap) bc (w.heap.size + 1) w.heap.size W
    have hMP := fun (W : World) (hK : Kept w W) (hc : W.cell? ⟨w.heap.size + 1, 0, none⟩ = some (.func (.func 38) #[] #[])) (hlt : w.heap.size + 1 < W.heap.size) =>
      iMapNd 78 #[.pointer (some ⟨w.heap.size + 1, 0, none⟩)] e_iLenNd (fun x => (x.kids.length : Int)) q (.slice p q.length cap) W (hR0.kept NdEl.st hK) (by omega) hIx
        (fun i hi u W' hW' hu => iLenNd (w.heap.size + 1) q[i] u W' ((hW'.cell (p := ⟨w.heap.size + 1, 0, none⟩) hlt).trans hc) (Nat.lt_of_lt_of_le hlt hW'.size) hu)
    have hq := Lib.hid (show q.length ≤ 1048576 by omega)
    clear h0 h1
    go_enter Tryz.func37, Tryz.ntmps37
    go_wp2_with (go_at_call 77; refine (hMP _ (Kept.al2 _ _ _) (by simp) (by simp)).mono ?_; rintro e w1 ⟨v', rfl, hv', hb⟩; rw [hmap] at hv'; have hvf := hv'.form; obtain ⟨pv, cv, rfl, mv, -⟩ := hvf)
    clear hMP hmap hIx hR
    have hsz := hb.size
    simp at hsz
    have f0 : w1.cell? ⟨w.heap.size, 0, none⟩ = some (.slice p q.length cap) := (hb.cell (p := ⟨w.heap.size, 0, none⟩) (by simp; omega)).trans (by simp)
    have f1 : w1.cell? ⟨w.heap.size + 1, 0, none⟩ = some (.func (.func 38) #[] #[]) := (hb.cell (p := ⟨w.heap.size + 1, 0, none⟩) (by simp)).trans (by simp)
    have b0 := below_tr (Joins.below_alloc2 w _ _) hb
    clear hb
    obtain ⟨O, hO⟩ : ∃ O, O = Obj.cells #[.slice pv (lens (q.map Nd.kids)).length cv] 46 := ⟨_, rfl⟩
    have kO : Kept w1 (w1.alloc O) := Kept.alloc _ _
    have g0 := (kO.cell w.heap.size 0 (by omega)).trans f0
    have g1 := (kO.cell (w.heap.size + 1) 0 (by omega)).trans f1
    have gC : (w1.alloc O).cell? ⟨w1.heap.size, 0, none⟩ = some (.slice pv (lens (q.map Nd.kids)).length cv) := by rw [hO]; simp
    have hvO := hv'.kept IntEl.st kO
    have z0 : w1.heap.size < (w1.alloc O).heap.size := by simp
    have bO : Below w.heap.size w (w1.alloc O) := b0.alloc (by omega) O
    rw [← hO]
    clear hO hv' f0 f1 kO
    generalize w1.alloc O = wb at *
    have HW := fun W (hK : Kept wb W) => Lib.hid (hWK _ w1.heap.size W ((hK.cell _ _ z0).trans gC) ((hK.cell (w.heap.size + 1) 0 (by omega)).trans g1) ((hK.cell w.heap.size 0 (by omega)).trans g0) (Nat.lt_of_lt_of_le z0 hK.size) (Nat.lt_of_lt_of_le (by omega) hK.size) (Nat.lt_of_lt_of_le (by omega) hK.size)
      (hvO.kept IntEl.st hK) (hR0.kept NdEl.st ((Kept.of_below bO).trans hK)) hq.out)
    have hI : ∀ W, Kept wb W → (W.cell? ⟨w.heap.size, 0, none⟩ = some (.slice p q.length cap) ∧ W.cell? ⟨w1.heap.size, 0, none⟩ = some (.slice pv (lens (q.map Nd.kids)).length cv)) := fun W hK => ⟨(hK.cell w.heap.size 0 (by omega)).trans g0, (hK.cell _ _ z0).trans gC⟩
    clear hWK hvO g0 g1 gC
    generalize (walkS (vPre (q.map Nd.kids)) (lens (q.map Nd.kids)) (q.length + 1) () 0).1 = r at *
    go_wp2_with fail
    go_region_held3 (fun W => W.cell? ⟨w.heap.size, 0, none⟩ = some (.slice p q.length cap) ∧ W.cell? ⟨w1.heap.size, 0, none⟩ = some (.slice pv (lens (q.map Nd.kids)).length cv))
      (first | exact hI _ (Kept.refl _) | exact hI _ (Kept.drew _) | exact hI _ ((Kept.drew _).trans (Kept.of_below hb2)))
      ((go_at_call 80; refine (HW _ (by first | exact Kept.drew _ | exact Kept.refl _)).out.mono ?_; rintro e w2 ⟨rfl, hb2⟩))
    go_wp2
    go_ret
    refine ⟨ret_bool ?_, below_tr bO.drew hb2⟩
    rw [HB.out, Bool.eq_iff_iff]; simp
end Go.Proofs.YtaibgnfjjbncpaaGreat
namespace Go.Proofs.YtaibgnfjjbncpaaGreat
set_option linter.unusedVariables false
set_option maxRecDepth 100000
open Go.ChangeShapes Go.WideShapes Go.ChangeAt Go.RowKit Go.Maps Go.WideMaps

theorem iEveryPatOk (l : List (List PN)) (v : Value) (w : World) (hR : RowRd 1 PatEl w v l) :
    Calls Tryz.prog 102 #[v, .func (.func 103) #[] #[]] w fun e w' => e = .returned (.bool (l.all patOkB)) ∧ Below w.heap.size w w' :=
  iEveryPat 103 #[] e_iPatOk patOkB l v w hR fun i hi u W hW hu => by
    obtain ⟨v0, rfl, r0⟩ := hu
    exact iPatOk _ v0 W r0
theorem rp_other (x : Nd) (h : ¬ x.kind = 13) : rpB x = decide (x.pats.length = 0) := if_neg h
theorem rp_match (x : Nd) (h : x.kind = 13) : rpB x = (decide ((x.pats.length : Int) = (x.kids.length : Int) - 1) && x.pats.all patOkB) := if_pos h
theorem iRightPats (x : Nd) (u : Value) (w : World) (hu : NdVal w u x) :
    Calls Tryz.prog 69 #[u] w fun e w' => e = .returned (.bool (rpB x)) ∧ Below w.heap.size w w' := by
  obtain ⟨v4, v5, rfl, i0, i1, i2, i3, r4, r5⟩ := hu
  have hE := fun W (hK : Kept w W) => iEveryPatOk x.pats v5 W (r5.kept PatEl.st hK)
  obtain ⟨p4, c4, rfl, m4, -⟩ := r4.form
  obtain ⟨p5, c5, rfl, m5, -⟩ := r5.form
  unfold maxLen at m4 m5
  clear r4 r5
  by_cases h13 : x.kind = 13
  · have HF := Lib.hid (rp_match x h13)
    have hk : (x.kind == 13) = true := by simpa using h13
    have hE1 := hE (w.alloc (.cells #[.int .i64 x.kind, .int .i64 x.at_, .int .i64 x.n, .string x.s, .slice p4 x.kids.length c4, .slice p5 x.pats.length c5] 49)) (Kept.alloc _ _)
    clear h13 hE
    by_cases hl : (x.pats.length : Int) = (x.kids.length : Int) - 1
    · have hl1 : ((x.pats.length : Int) == (x.kids.length : Int) - 1) = true := by simpa using hl
      have HL := Lib.hid (show decide ((x.pats.length : Int) = (x.kids.length : Int) - 1) = true from by simpa using hl)
      have HW := Lib.hid hl
      clear hl
      go_enter Tryz.func69, Tryz.ntmps69
      go_wp2_with (go_at_call 102; refine hE1.mono ?_; rintro e w1 ⟨rfl, hb1⟩)
      go_ret
      refine ⟨ret_bool ?_, below_tr (Joins.below_alloc1 w _) hb1⟩
      rw [HF.out, HL.out]; simp
    · have hl1 : ((x.pats.length : Int) == (x.kids.length : Int) - 1) = false := by simpa using hl
      have HL := Lib.hid (show decide ((x.pats.length : Int) = (x.kids.length : Int) - 1) = false from by simpa using hl)
      clear hl
      go_enter Tryz.func69, Tryz.ntmps69
      go_wp2
      go_ret
      refine ⟨ret_bool ?_, Joins.below_alloc1 w _⟩
      rw [HF.out, HL.out]; simp
  · have HF := Lib.hid (rp_other x h13)
    have hk : (x.kind == 13) = false := by simpa using h13
    clear h13 hE
    go_enter Tryz.func69, Tryz.ntmps69
    go_wp2
    go_ret
    refine ⟨ret_bool ?_, Joins.below_alloc1 w _⟩
    rw [HF.out, Bool.eq_iff_iff]; simp
theorem iIsNode (x : Nd) (u : Value) (w : World) (hu : NdVal w u x) :
    Calls Tryz.prog 33 #[u] w fun e w' => e = .returned (.bool (isNodeB x)) ∧ Below w.heap.size w w' := by
  have hu0 := hu
  obtain ⟨v4, v5, rfl, i0, i1, i2, i3, r4, r5⟩ := hu
  have hN := fun W => iRightN x.kind x.at_ x.n x.s v4 v5 W
  have hS := fun W (hK : Kept w W) => iRightS x.kind x.at_ x.n x.s x.kids v4 v5 W (r4.kept IntEl.st hK) i3
  have hKd := fun W (hK : Kept w W) => iRightKids x.kind x.at_ x.n x.s x.kids v4 v5 W (r4.kept IntEl.st hK)
  have hP := fun W (hK : Kept w W) => iRightPats x _ W (hu0.kept hK)
  have HB := Lib.hid (show isNodeB x = (decide (0 ≤ x.at_) && (rnK x.kind x.n && (rsK x.kind x.s x.kids.length && (rkB x.kind x.kids.length && rpB x)))) from rfl)
  clear hu0
  obtain ⟨p4, c4, rfl, m4, -⟩ := r4.form
  obtain ⟨p5, c5, rfl, m5, -⟩ := r5.form
  unfold maxLen at m4 m5
  clear r4 r5
  generalize rnK x.kind x.n = b1 at *
  generalize rsK x.kind x.s x.kids.length = b2 at *
  generalize rkB x.kind x.kids.length = b3 at *
  generalize rpB x = b4 at *
  by_cases ha : 0 ≤ x.at_
  · have HA := Lib.hid (show decide (0 ≤ x.at_) = true from by simpa using ha)
    go_enter Tryz.func33, Tryz.ntmps33
    go_wp2_with fail
    refine (hN _).mono ?_
    rintro e w1 ⟨rfl, hb1⟩
    have B1 := below_tr (Joins.below_alloc1 w _) hb1
    obtain ⟨hc1, hf1⟩ := bcell hb1
    cases b1
    · go_wp2
      go_ret
      exact ⟨ret_bool (by rw [HB.out, HA.out]; rfl), B1⟩
    · go_wp2_with fail
      refine (hS _ (Kept.of_below B1)).mono ?_
      rintro e w2 ⟨rfl, hb2⟩
      have B2 := below_tr B1 hb2
      obtain ⟨hc2, hf2⟩ := bcell (below_tr hb1 hb2)
      clear hc1 hf1
      cases b2
      · go_wp2
        go_ret
        exact ⟨ret_bool (by rw [HB.out, HA.out]; rfl), B2⟩
      · go_wp2_with fail
        refine (hKd _ (Kept.of_below B2)).mono ?_
        rintro e w3 ⟨rfl, hb3⟩
        have B3 := below_tr B2 hb3
        obtain ⟨hc3, hf3⟩ := bcell (below_tr (below_tr hb1 hb2) hb3)
        clear hc2 hf2
        cases b3
        · go_wp2
          go_ret
          exact ⟨ret_bool (by rw [HB.out, HA.out]; rfl), B3⟩
        · go_wp2_with fail
          refine (hP _ (Kept.of_below B3)).mono ?_
          rintro e w4 ⟨rfl, hb4⟩
          go_wp2
          go_ret
          exact ⟨ret_bool (by rw [HB.out, HA.out]; simp), below_tr B3 hb4⟩
  · have HA := Lib.hid (show decide (0 ≤ x.at_) = false from by simpa using ha)
    have ha' : decide (0 ≤ x.at_) = false := HA.out
    clear ha
    go_enter Tryz.func33, Tryz.ntmps33
    go_wp2
    go_ret
    exact ⟨ret_bool (by rw [HB.out, HA.out]; rfl), Joins.below_alloc1 w _⟩
theorem rf_rec (l : List Nd) (x : Nd) (h : x.kind = 8) : rfB l x = decide (firstNK l x.kids = 5) := if_pos h
theorem rf_cons (l : List Nd) (x : Nd) (h : ¬ x.kind = 8) (hc : isConsN x = true) : rfB l x = decide (firstNK l x.kids = 11) := by rw [rfB, if_neg h, if_pos hc]
theorem rf_other (l : List Nd) (x : Nd) (h : ¬ x.kind = 8) (hc : isConsN x = false) : rfB l x = true := by rw [rfB, if_neg h, hc]; rfl
set_option maxHeartbeats 2000000 in
theorem iRightFirst (l : List Nd) (vt vn u : Value) (x : Nd) (w : World) (hR : RowRd 6 NdEl w vn l) (hu : NdVal w u x) (hk : ∀ k ∈ x.kids, 0 ≤ k ∧ k < (l.length : Int)) (hne : x.kind = 8 ∨ isConsN x = true → 1 ≤ x.kids.length) :
    Calls Tryz.prog 34 #[.agg #[vt, vn], u] w fun e w' => e = .returned (.bool (rfB l x)) ∧ Below w.heap.size w w' := by
  obtain ⟨v4, v5, rfl, i0, i1, i2, i3, r4, r5⟩ := hu
  have hC := fun W => iIsCons x.kind x.at_ x.n x.s v4 v5 W i3
  have e2 : (decide (x.kind = 4) && decide (x.s.toList = [58, 58])) = isConsN x := rfl
  rw [e2] at hC
  obtain ⟨p4, c4, rfl, m4, hkf⟩ := r4.form
  obtain ⟨p5, c5, rfl, m5, -⟩ := r5.form
  obtain ⟨p2, c2, rfl, m2, hnf⟩ := hR.form
  unfold maxLen at m4 m5 m2
  clear r4 r5 hR e2
  by_cases h0 : x.kind = 8 ∨ isConsN x = true
  · have hl := hne h0
    obtain ⟨k, ks, hkk⟩ : ∃ k ks, x.kids = k :: ks := by
      cases hx : x.kids with
      | nil => rw [hx] at hl; simp at hl
      | cons k ks => exact ⟨k, ks, rfl⟩
    obtain ⟨hk0, hk1⟩ := hk k (by simp [hkk])
    obtain ⟨n, rfl⟩ : ∃ n : Nat, k = n := ⟨k.toNat, by omega⟩
    have hn : n < l.length := by omega
    have hg := List.getElem?_eq_getElem hn
    have HN := Lib.hid (show firstNK l x.kids = l[n].kind from by rw [hkk]; simp [firstNK, hg])
    obtain ⟨b4, o4, rfl, hb4, hks⟩ := hkf (by omega)
    have hk4 := (hks 0 (by omega)).1
    simp only [hkk, List.getElem_cons_zero, Nat.zero_mul, Nat.add_zero] at hk4
    obtain ⟨b2, o2, rfl, hb2, hns⟩ := hnf (by omega)
    have hn2 := (hns n hn).1.1
    have hl1 : (0 : Int) < (x.kids.length : Int) := by omega
    have hl2 : 0 < x.kids.length := by omega
    have HR := Lib.hid (rf_rec l x)
    have HC := Lib.hid (rf_cons l x)
    rw [HN.out] at HR HC
    clear hkk hks hkf hns hnf hg hk hne HN hl
    generalize l[n] = y at *
    have hb4' : b4 ≠ w.heap.size := by omega
    have hb2' : b2 ≠ w.heap.size := by omega
    by_cases h8 : x.kind = 8
    · have HF := Lib.hid (HR.out h8)
      have h8' : (x.kind == 8) = true := by simpa using h8
      clear HR HC h0 h8 hC
      go_enter Tryz.func34, Tryz.ntmps34
      go_wp2_with fail
      go_quiet (fail)
      go_wp2
      go_ret
      refine ⟨ret_bool ?_, below_drewN (Joins.below_alloc2 w _ _) _⟩
      rw [HF.out, Bool.eq_iff_iff]; simp
    · have hcs : isConsN x = true := h0.resolve_left h8
      have HF := Lib.hid (HC.out h8 hcs)
      have h8' : (x.kind == 8) = false := by simpa using h8
      rw [hcs] at hC
      clear HR HC h0 h8 hcs
      go_enter Tryz.func34, Tryz.ntmps34
      go_wp2_with fail
      refine (hC _).mono ?_
      rintro e w1 ⟨rfl, hb1⟩
      obtain ⟨hc1, hf1⟩ := bcell hb1
      have K1 := Kept.of_below (below_tr (Joins.below_alloc2 w _ _) hb1)
      have q4 := (K1.cell b4 o4 hb4).trans hk4
      have q2 := (K1.cell b2 _ hb2).trans hn2
      go_wp2_with fail
      go_quiet (fail)
      go_wp2
      go_ret
      refine ⟨ret_bool ?_, below_drewN (below_tr (Joins.below_alloc2 w _ _) hb1) _⟩
      rw [HF.out, Bool.eq_iff_iff]; simp
  · obtain ⟨h8, hc⟩ := not_or.1 h0
    have hc' : isConsN x = false := by simpa using hc
    have HF := Lib.hid (rf_other l x h8 hc')
    have h8' : (x.kind == 8) = false := by simpa using h8
    rw [hc'] at hC
    clear h0 h8 hc hc' hkf hnf hk hne
    go_enter Tryz.func34, Tryz.ntmps34
    go_wp2_with fail
    refine (hC _).mono ?_
    rintro e w1 ⟨rfl, hb1⟩
    go_wp2
    go_ret
    exact ⟨ret_bool HF.out.symm, below_tr (Joins.below_alloc2 w _ _) hb1⟩
theorem iRightNd (l : List Nd) (vt vn : Value) (bp : Nat) (x : Nd) (u : Value) (w : World) (hc0 : w.cell? ⟨bp, 0, none⟩ = some vt) (hc1 : w.cell? ⟨bp, 1, none⟩ = some vn) (hbp : bp < w.heap.size) (hR : RowRd 6 NdEl w vn l) (hu : NdVal w u x) (hk : ∀ k ∈ x.kids, 0 ≤ k ∧ k < (l.length : Int)) :
    Calls Tryz.prog 32 #[u, .pointer (some ⟨bp, 0, none⟩)] w fun e w' => e = .returned (.bool (rightNB l x)) ∧ Below w.heap.size w w' := by
  have hN := fun W (hK : Kept w W) => iIsNode x u W (hu.kept hK)
  have hF := fun W (hK : Kept w W) (hne : x.kind = 8 ∨ isConsN x = true → 1 ≤ x.kids.length) => iRightFirst l vt vn u x W (hR.kept NdEl.st hK) (hu.kept hK) hk hne
  have hne := isNode_first x
  have HB := Lib.hid (show rightNB l x = (isNodeB x && rfB l x) from rfl)
  obtain ⟨v4, v5, rfl, i0, i1, i2, i3, r4, r5⟩ := hu
  obtain ⟨p4, c4, rfl, m4, -⟩ := r4.form
  obtain ⟨p5, c5, rfl, m5, -⟩ := r5.form
  clear r4 r5 hR hk
  generalize isNodeB x = b1 at *
  generalize rfB l x = b2 at *
  have hbn : bp ≠ w.heap.size := by omega
  go_enter Tryz.func32, Tryz.ntmps32
  go_wp2_with fail
  refine (hN _ (Kept.alloc _ _)).mono ?_
  rintro e w1 ⟨rfl, hb1⟩
  have B1 := below_tr (Joins.below_alloc1 w _) hb1
  obtain ⟨hc1', hf1⟩ := bcell hb1
  have q0 := ((Kept.of_below B1).cell bp 0 hbp).trans hc0
  have q1 := ((Kept.of_below B1).cell bp 1 hbp).trans hc1
  cases b1
  · go_wp2
    go_ret
    exact ⟨ret_bool (by rw [HB.out]; rfl), B1⟩
  · have hF1 := hF _ (Kept.of_below B1) (hne rfl)
    go_wp2_with fail
    refine hF1.mono ?_
    rintro e w2 ⟨rfl, hb2⟩
    go_wp2
    go_ret
    exact ⟨ret_bool (by rw [HB.out]; simp), below_tr B1 hb2⟩
theorem e_iRightNd : ∀ args w, (callFunc 32 args).run Tryz.prog w = .ok (.enter 32 args) w := enters_of Tryz.func32 (by kernel_rfl) rfl
end Go.Proofs.YtaibgnfjjbncpaaGreat
namespace Go.Proofs.YtaibgnfjjbncpaaGreat
set_option linter.unusedVariables false
set_option maxRecDepth 100000
open Go.ChangeShapes Go.WideShapes Go.ChangeAt Go.RowKit

/-- A TyItem that is handed over. -/
def TyIVal (w : World) (v : Value) (x : TyI) : Prop := v = .agg #[.int .i64 x.var, .string x.name, .int .i64 x.arity] ∧ I64 x.var ∧ x.name.size ≤ maxLen ∧ I64 x.arity
theorem TyIVal.kept {w w' : World} {v : Value} {x : TyI} (k : Kept w w') : TyIVal w v x → TyIVal w' v x := fun ⟨h, f0, f1, f2⟩ => ⟨h, f0, f1, f2⟩
theorem iIndexTyI (g : Nat) (lb : Array Value) (eg : ∀ args w, (callFunc g args).run Tryz.prog w = .ok (.enter g args) w) (ok : TyI → Bool) (l : List TyI) (v : Value) (w : World) (hR : RowRd 3 TyIEl w v l)
    (hp : ∀ i (hi : i < l.length) (u : Value) (W : World), Below w.heap.size w W → TyIVal W u l[i] → Calls Tryz.prog g (#[u] ++ lb) W fun e w' => e = .returned (.bool (ok l[i])) ∧ Below W.heap.size W w') :
    Calls Tryz.prog 153 #[v, .func (.func g) #[] lb] w fun e w' => ∃ r : Int, e = .returned (.int .i64 r) ∧ decide (0 ≤ r) = l.any ok ∧ Below w.heap.size w w' := by
  obtain ⟨p, cap, rfl, hm, hR⟩ := hR.form
  unfold maxLen at hm
  go_enter Tryz.func153, Tryz.ntmps153
  go_wp2
  go_loopw [8] (fun i wr => ∃ k : Nat, i = .int .i64 k ∧ k ≤ l.length ∧ (l.take k).any ok = false ∧ Below w.heap.size w wr) (fun i _ => l.length - (intOf i).toNat)
  case atStart => exact ⟨0, rfl, Nat.zero_le _, rfl, Below.refl _ _⟩
  case round =>
    obtain ⟨k, rfl, hk, hno, hbel⟩ := hrel
    have HA := Lib.hid hno
    clear hno
    by_cases hlt : k < l.length
    · obtain ⟨b, o, rfl, hbw, hc⟩ := hR (by omega)
      have ex := TyIEl.st w wr b _ _ (Kept.of_below hbel) hbw (hc k hlt)
      have hpk := fun u => hp k hlt u wr hbel
      have HY := Lib.hid (fun (h : ok l[k] = true) => any_yes ok l k hlt h)
      have HN := Lib.hid (fun (h : ok l[k] = false) => any_snoc ok l k hlt HA.out h)
      clear hc hR hp
      generalize l[k] = x at *
      obtain ⟨⟨e0, i0⟩, ⟨e1, i1⟩, ⟨e2, i2⟩⟩ := ex
      have hp1 := hpk _ ⟨rfl, i0, i1, i2⟩
      clear hpk
      generalize hx : ok x = t at *
      cases t
      · have HN2 := Lib.hid (HN.out rfl)
        clear HN HY
        go_wp2_with (go_at_fn g; refine hp1.mono ?_; rintro e w1 ⟨rfl, hb⟩)
        go_roundw
        case rel => exact ⟨k + 1, by go_num, by omega, HN2.out, below_tr hbel hb⟩
        case measure => simp [intOf]; omega
      · have HY2 := Lib.hid (HY.out rfl)
        clear HN HY
        go_wp2_with (go_at_fn g; refine hp1.mono ?_; rintro e w1 ⟨rfl, hb⟩)
        go_ret
        exact ⟨_, rfl, by rw [HY2.out]; simp, below_tr hbel hb⟩
    · obtain rfl : k = l.length := by omega
      rw [List.take_length] at HA
      go_wp2
      go_ret
      exact ⟨_, rfl, by rw [HA.out]; rfl, hbel⟩
theorem iContainsTyI (g : Nat) (lb : Array Value) (eg : ∀ args w, (callFunc g args).run Tryz.prog w = .ok (.enter g args) w) (ok : TyI → Bool) (l : List TyI) (v : Value) (w : World) (hR : RowRd 3 TyIEl w v l)
    (hp : ∀ i (hi : i < l.length) (u : Value) (W : World), Below w.heap.size w W → TyIVal W u l[i] → Calls Tryz.prog g (#[u] ++ lb) W fun e w' => e = .returned (.bool (ok l[i])) ∧ Below W.heap.size W w') :
    Calls Tryz.prog 134 #[v, .func (.func g) #[] lb] w fun e w' => e = .returned (.bool (l.any ok)) ∧ Below w.heap.size w w' := by
  have hI := iIndexTyI g lb eg ok l v w hR hp
  go_enter Tryz.func134, Tryz.ntmps134
  go_wp2_with (go_at_call 153; refine hI.mono ?_; rintro e w1 ⟨r, rfl, hr, hb⟩)
  go_ret
  refine ⟨ret_bool ?_, hb⟩
  rw [← hr]
theorem iNotTyI (g : Nat) (lb : Array Value) (eg : ∀ args w, (callFunc g args).run Tryz.prog w = .ok (.enter g args) w) (r : Bool) (x : TyI) (u : Value) (bo : Nat) (w : World) (hc : w.cell? ⟨bo, 0, none⟩ = some (.func (.func g) #[] lb)) (hbo : bo < w.heap.size) (hu : TyIVal w u x)
    (hp : ∀ W, Below w.heap.size w W → Calls Tryz.prog g (#[u] ++ lb) W fun e w' => e = .returned (.bool r) ∧ Below W.heap.size W w') :
    Calls Tryz.prog 135 #[u, .pointer (some ⟨bo, 0, none⟩)] w fun e w' => e = .returned (.bool (!r)) ∧ Below w.heap.size w w' := by
  obtain ⟨rfl, _, _, _⟩ := hu
  have hp1 := hp _ (Joins.below_alloc1 w (.cells #[.int .i64 x.var, .string x.name, .int .i64 x.arity] 94))
  have hne : w.heap.size ≠ bo := by omega
  go_enter Tryz.func135, Tryz.ntmps135
  go_wp2_with (go_at_fn g; refine hp1.mono ?_; rintro e w1 ⟨rfl, hb⟩)
  go_ret
  exact ⟨rfl, below_tr (Joins.below_alloc1 w _) hb⟩
theorem e_iNotTyI : ∀ args w, (callFunc 135 args).run Tryz.prog w = .ok (.enter 135 args) w := enters_of Tryz.func135 (by kernel_rfl) rfl
theorem iEveryTyI (g : Nat) (lb : Array Value) (eg : ∀ args w, (callFunc g args).run Tryz.prog w = .ok (.enter g args) w) (ok : TyI → Bool) (l : List TyI) (v : Value) (w : World) (hR : RowRd 3 TyIEl w v l)
    (hp : ∀ i (hi : i < l.length) (u : Value) (W : World), Below w.heap.size w W → TyIVal W u l[i] → Calls Tryz.prog g (#[u] ++ lb) W fun e w' => e = .returned (.bool (ok l[i])) ∧ Below W.heap.size W w') :
    Calls Tryz.prog 108 #[v, .func (.func g) #[] lb] w fun e w' => e = .returned (.bool (l.all ok)) ∧ Below w.heap.size w w' := by
  have hC := fun (T : TypeId) => iContainsTyI 135 #[.pointer (some ⟨w.heap.size, 0, none⟩)] e_iNotTyI (fun x => !ok x) l v (w.alloc (.cells #[.func (.func g) #[] lb] T)) (hR.kept TyIEl.st (Kept.alloc _ _))
    (fun i hi u W hW hu => iNotTyI g lb eg (ok l[i]) l[i] u w.heap.size W ((hW.cell (p := ⟨w.heap.size, 0, none⟩) (by simp)).trans (by simp)) (Nat.lt_of_lt_of_le (by simp) hW.size) hu
      fun W' hB => hp i hi u W' (below_tr (Joins.below_alloc1 w _) (below_tr hW hB)) (hu.kept (Kept.of_below hB)))
  go_enter Tryz.func108, Tryz.ntmps108
  go_wp2_with (go_at_call 134; refine (hC _).mono ?_; rintro e w1 ⟨rfl, hb⟩)
  go_ret
  exact ⟨ret_bool (by rw [all_any]), below_tr (Joins.below_alloc1 w _) hb⟩
end Go.Proofs.YtaibgnfjjbncpaaGreat
namespace Go.Proofs.YtaibgnfjjbncpaaGreat
set_option linter.unusedVariables false
set_option maxRecDepth 100000
open Go.ChangeShapes Go.WideShapes Go.ChangeAt Go.RowKit Go.Maps Go.WideMaps

def boundB (params : Int) (x : TyI) : Bool := !decide (x.name.toList = []) || decide (x.var < params)
theorem iIsBound (params : Int) (bp : Nat) (x : TyI) (u : Value) (w : World) (hc : w.cell? ⟨bp, 0, none⟩ = some (.int .i64 params)) (hbp : bp < w.heap.size) (hu : TyIVal w u x) :
    Calls Tryz.prog 106 #[u, .pointer (some ⟨bp, 0, none⟩)] w fun e w' => e = .returned (.bool (boundB params x)) ∧ Below w.heap.size w w' := by
  obtain ⟨rfl, i0, i1, i2⟩ := hu
  have hbn : bp ≠ w.heap.size := by omega
  by_cases hn : x.name.toList = []
  · have h1 : x.name.toList.isEmpty = true := by simp [hn]
    have h2 : (x.name.toList != []) = false := by simp [hn]
    have HF := Lib.hid (show boundB params x = decide (x.var < params) from by simp [boundB, hn])
    go_enter Tryz.func106, Tryz.ntmps106
    go_wp2
    go_ret
    exact ⟨ret_bool HF.out.symm, Joins.below_alloc1 w _⟩
  · have h1 : x.name.toList.isEmpty = false := by simpa using hn
    have h2 : (x.name.toList != []) = true := by simpa using hn
    have HF := Lib.hid (show boundB params x = true from by simp [boundB, hn])
    clear hn
    go_enter Tryz.func106, Tryz.ntmps106
    go_wp2
    go_ret
    exact ⟨ret_bool HF.out.symm, Joins.below_alloc1 w _⟩
theorem e_iIsBound : ∀ args w, (callFunc 106 args).run Tryz.prog w = .ok (.enter 106 args) w := enters_of Tryz.func106 (by kernel_rfl) rfl
theorem con_no (params : Int) (c : Cn) (h : conB c.name = false) : isConB params c = false := by rw [isConB, h]; rfl
theorem con_bare (params : Int) (c : Cn) (h : conB c.name = true) (h2 : c.has = false) : isConB params c = decide (c.arg.length = 0) := by rw [isConB, h, if_pos h2]; rfl
theorem con_has (params : Int) (c : Cn) (h : conB c.name = true) (h2 : c.has = true) : isConB params c = (tyOkB c.arg && c.arg.all (boundB params)) := by
  rw [isConB, h, if_neg (by rw [h2]; simp)]; rfl
theorem iIsCon (params : Int) (c : Cn) (u : Value) (w : World) (hu : CnVal w u c) :
    Calls Tryz.prog 74 #[u, .int .i64 params] w fun e w' => e = .returned (.bool (isConB params c)) ∧ Below w.heap.size w w' := by
  obtain ⟨v2, rfl, i0, r2⟩ := hu
  have hN := fun W => iConOkB c.name W i0
  have hT := fun W (hK : Kept w W) => iTyOk c.arg v2 W (r2.kept TyIEl.st hK)
  have hE := fun W (hK : Kept w W) (bp : Nat) (hc : W.cell? ⟨bp, 0, none⟩ = some (.int .i64 params)) (hbp : bp < W.heap.size) => iEveryTyI 106 #[.pointer (some ⟨bp, 0, none⟩)] e_iIsBound (boundB params) c.arg v2 W (r2.kept TyIEl.st hK)
    (fun i hi u W' hW' hu => iIsBound params bp c.arg[i] u W' ((hW'.cell (p := ⟨bp, 0, none⟩) hbp).trans hc) (Nat.lt_of_lt_of_le hbp hW'.size) hu)
  obtain ⟨p2, c2, rfl, m2, -⟩ := r2.form
  unfold maxLen at m2
  clear r2
  have HN := Lib.hid (con_no params c)
  have HB := Lib.hid (con_bare params c)
  have HH := Lib.hid (con_has params c)
  generalize conB c.name = b1 at *
  cases b1
  · have HF := Lib.hid (HN.out rfl)
    go_enter Tryz.func74, Tryz.ntmps74
    go_wp2_with fail
    refine (hN _).mono ?_
    rintro e w1 ⟨rfl, hb1⟩
    go_wp2
    go_ret
    exact ⟨ret_bool HF.out.symm, below_tr (Joins.below_alloc2 w _ _) hb1⟩
  · cases hh : c.has
    · have HF := Lib.hid (HB.out rfl hh)
      go_enter Tryz.func74, Tryz.ntmps74
      go_wp2_with fail
      refine (hN _).mono ?_
      rintro e w1 ⟨rfl, hb1⟩
      obtain ⟨hc1, hf1⟩ := bcell hb1
      go_wp2
      go_ret
      refine ⟨ret_bool ?_, below_tr (Joins.below_alloc2 w _ _) hb1⟩
      rw [HF.out, Bool.eq_iff_iff]; simp
    · have HF := Lib.hid (HH.out rfl hh)
      clear HN HB HH
      generalize tyOkB c.arg = b2 at *
      go_enter Tryz.func74, Tryz.ntmps74
      go_wp2_with fail
      refine (hN _).mono ?_
      rintro e w1 ⟨rfl, hb1⟩
      obtain ⟨hc1, hf1⟩ := bcell hb1
      have B1 := below_tr (Joins.below_alloc2 w _ _) hb1
      go_wp2_with fail
      refine (hT _ (Kept.of_below B1)).mono ?_
      rintro e w2 ⟨rfl, hb2⟩
      have B2 := below_tr B1 hb2
      have hb12 := below_tr hb1 hb2
      have hsz := hb12.size
      simp at hsz
      obtain ⟨hc2, hf2⟩ := bcell hb12
      have hE1 := hE w2 (Kept.of_below B2) (w.heap.size + 1) (by rw [hc2 _ _ (by simp)]; simp) (by omega)
      clear hc1 hf1
      cases b2
      · go_wp2
        go_ret
        exact ⟨ret_bool (by rw [HF.out]; rfl), B2⟩
      · go_wp2_with fail
        refine hE1.mono ?_
        rintro e w3 ⟨rfl, hb3⟩
        go_wp2
        go_ret
        exact ⟨ret_bool (by rw [HF.out]; simp), below_tr B2 hb3⟩
theorem iIsConC (params : Int) (bt : Nat) (c : Cn) (u : Value) (w : World) (hc : w.cell? ⟨bt, 1, none⟩ = some (.int .i64 params)) (hbt : bt < w.heap.size) (hu : CnVal w u c) :
    Calls Tryz.prog 73 #[u, .pointer (some ⟨bt, 0, none⟩)] w fun e w' => e = .returned (.bool (isConB params c)) ∧ Below w.heap.size w w' := by
  have hN := fun W (hK : Kept w W) => iIsCon params c u W (hu.kept hK)
  obtain ⟨v2, rfl, i0, r2⟩ := hu
  obtain ⟨p2, c2, rfl, m2, -⟩ := r2.form
  have hbn : bt ≠ w.heap.size := by omega
  go_enter Tryz.func73, Tryz.ntmps73
  go_wp2_with fail
  refine (hN _ (Kept.alloc _ _)).mono ?_
  rintro e w1 ⟨rfl, hb1⟩
  go_wp2
  go_ret
  exact ⟨rfl, below_tr (Joins.below_alloc1 w _) hb1⟩
theorem e_iIsConC : ∀ args w, (callFunc 73 args).run Tryz.prog w = .ok (.enter 73 args) w := enters_of Tryz.func73 (by kernel_rfl) rfl
theorem ty_head (t : Tp) (h : ¬ (0 ≤ t.params ∧ t.params ≤ 2 ∧ 1 ≤ t.cons.length ∧ t.cons.length ≤ 8)) : isTypeB t = false := by
  cases hb : isTypeB t
  · rfl
  · exfalso
    unfold isTypeB at hb
    simp only [Bool.and_eq_true, decide_eq_true_eq] at hb
    exact h ⟨hb.2.1, hb.2.2.1, hb.2.2.2.1, hb.2.2.2.2.1⟩
theorem ty_name (t : Tp) (h : nameB t.name = false) : isTypeB t = false := by rw [isTypeB, h]; rfl
theorem ty_rest (t : Tp) (h : 0 ≤ t.params ∧ t.params ≤ 2 ∧ 1 ≤ t.cons.length ∧ t.cons.length ≤ 8) : isTypeB t = (nameB t.name && t.cons.all (isConB t.params)) := by
  obtain ⟨h1, h2, h3, h4⟩ := h
  simp [isTypeB, h1, h2, h3, h4]
theorem iIsType (t : Tp) (u : Value) (w : World) (hu : TpVal w u t) :
    Calls Tryz.prog 36 #[u] w fun e w' => e = .returned (.bool (isTypeB t)) ∧ Below w.heap.size w w' := by
  obtain ⟨v2, rfl, i0, i1, r2⟩ := hu
  have hN := fun W => iNameOkB t.name W i0
  have hE := fun W (hK : Kept w W) (bp : Nat) (hc : W.cell? ⟨bp, 1, none⟩ = some (.int .i64 t.params)) (hbp : bp < W.heap.size) => iEveryCn 73 #[.pointer (some ⟨bp, 0, none⟩)] e_iIsConC (isConB t.params) t.cons v2 W (r2.kept CnEl.st hK)
    (fun i hi u W' hW' hu => iIsConC t.params bp t.cons[i] u W' ((hW'.cell (p := ⟨bp, 1, none⟩) hbp).trans hc) (Nat.lt_of_lt_of_le hbp hW'.size) hu)
  obtain ⟨p2, c2, rfl, m2, -⟩ := r2.form
  unfold maxLen at m2
  clear r2
  have HN := Lib.hid (ty_name t)
  have HH := Lib.hid (ty_head t)
  have HR := Lib.hid (ty_rest t)
  generalize nameB t.name = b1 at *
  cases b1
  · have HF := Lib.hid (HN.out rfl)
    go_enter Tryz.func36, Tryz.ntmps36
    go_wp2_with fail
    refine (hN _).mono ?_
    rintro e w1 ⟨rfl, hb1⟩
    obtain ⟨hc1, hf1⟩ := bcell hb1
    go_wp2
    go_ret
    exact ⟨ret_bool HF.out.symm, below_tr (Joins.below_alloc1 w _) hb1⟩
  · by_cases h1 : 0 ≤ t.params
    · by_cases h2 : t.params ≤ 2
      · by_cases h3 : 1 ≤ t.cons.length
        · by_cases h4 : t.cons.length ≤ 8
          · have HF := Lib.hid (HR.out ⟨h1, h2, h3, h4⟩)
            have h3' : (1 : Int) ≤ (t.cons.length : Int) := by omega
            have h4' : (t.cons.length : Int) ≤ 8 := by omega
            clear h3 h4 HN HH HR
            go_enter Tryz.func36, Tryz.ntmps36
            go_wp2_with fail
            refine (hN _).mono ?_
            rintro e w1 ⟨rfl, hb1⟩
            obtain ⟨hc1, hf1⟩ := bcell hb1
            have B1 := below_tr (Joins.below_alloc1 w _) hb1
            have hsz := hb1.size
            simp at hsz
            have hE1 := hE w1 (Kept.of_below B1) w.heap.size (by rw [hc1 _ _ (by simp)]; simp) (by omega)
            go_wp2_with fail
            refine hE1.mono ?_
            rintro e w3 ⟨rfl, hb3⟩
            go_wp2
            go_ret
            exact ⟨ret_bool (by rw [HF.out]; simp), below_tr B1 hb3⟩
          · have HF := Lib.hid (HH.out (by omega))
            have h3' : (1 : Int) ≤ (t.cons.length : Int) := by omega
            have h4' : decide ((t.cons.length : Int) ≤ 8) = false := by simp; omega
            clear h3 h4 HN HH HR
            go_enter Tryz.func36, Tryz.ntmps36
            go_wp2_with fail
            refine (hN _).mono ?_
            rintro e w1 ⟨rfl, hb1⟩
            obtain ⟨hc1, hf1⟩ := bcell hb1
            go_wp2
            go_ret
            exact ⟨ret_bool HF.out.symm, below_tr (Joins.below_alloc1 w _) hb1⟩
        · have HF := Lib.hid (HH.out (by omega))
          have h3' : decide ((1 : Int) ≤ (t.cons.length : Int)) = false := by simp; omega
          clear h3 HN HH HR
          go_enter Tryz.func36, Tryz.ntmps36
          go_wp2_with fail
          refine (hN _).mono ?_
          rintro e w1 ⟨rfl, hb1⟩
          obtain ⟨hc1, hf1⟩ := bcell hb1
          go_wp2
          go_ret
          exact ⟨ret_bool HF.out.symm, below_tr (Joins.below_alloc1 w _) hb1⟩
      · have HF := Lib.hid (HH.out (by omega))
        have h2' : decide (t.params ≤ 2) = false := by simp; omega
        clear h2 HN HH HR
        go_enter Tryz.func36, Tryz.ntmps36
        go_wp2_with fail
        refine (hN _).mono ?_
        rintro e w1 ⟨rfl, hb1⟩
        obtain ⟨hc1, hf1⟩ := bcell hb1
        go_wp2
        go_ret
        exact ⟨ret_bool HF.out.symm, below_tr (Joins.below_alloc1 w _) hb1⟩
    · have HF := Lib.hid (HH.out (by omega))
      have h1' : decide (0 ≤ t.params) = false := by simp; omega
      clear h1 HN HH HR
      go_enter Tryz.func36, Tryz.ntmps36
      go_wp2_with fail
      refine (hN _).mono ?_
      rintro e w1 ⟨rfl, hb1⟩
      obtain ⟨hc1, hf1⟩ := bcell hb1
      go_wp2
      go_ret
      exact ⟨ret_bool HF.out.symm, below_tr (Joins.below_alloc1 w _) hb1⟩
theorem e_iIsType : ∀ args w, (callFunc 36 args).run Tryz.prog w = .ok (.enter 36 args) w := enters_of Tryz.func36 (by kernel_rfl) rfl
theorem iProgramOk (p : Pg) (v0 v1 : Value) (w : World) (h0 : RowRd 3 TpEl w v0 p.types) (h1 : RowRd 6 NdEl w v1 p.nodes) :
    Calls Tryz.prog 15 #[.agg #[v0, v1]] w fun e w' => e = .returned (.bool (pgOkB p)) ∧ Below w.heap.size w w' := by
  have HP := Lib.hid (pg_ok p)
  have hT := fun W (hK : Kept w W) => iEveryTp 36 #[] e_iIsType isTypeB p.types v0 W (h0.kept TpEl.st hK) (fun i hi u W' hW' hu => iIsType p.types[i] u W' hu)
  have hP := fun W (hK : Kept w W) => iPreNd p.nodes v1 W (h1.kept NdEl.st hK)
  have hkids := pg_kids p.nodes
  have hE := fun (hp : preB (p.nodes.map Nd.kids) = true) W (hK : Kept w W) (bp : Nat) (hc0 : W.cell? ⟨bp, 0, none⟩ = some v0) (hc1 : W.cell? ⟨bp, 1, none⟩ = some v1) (hbp : bp < W.heap.size) => iEveryNd 32 #[.pointer (some ⟨bp, 0, none⟩)] e_iRightNd (rightNB p.nodes) p.nodes v1 W (h1.kept NdEl.st hK)
    (fun i hi u W' hW' hu => iRightNd p.nodes v0 v1 bp p.nodes[i] u W' ((hW'.cell (p := ⟨bp, 0, none⟩) hbp).trans hc0) ((hW'.cell (p := ⟨bp, 1, none⟩) hbp).trans hc1) (Nat.lt_of_lt_of_le hbp hW'.size) (h1.kept NdEl.st (hK.trans (Kept.of_below hW'))) hu (hkids hp _ (List.getElem_mem hi)))
  clear hkids
  obtain ⟨pa, ca, rfl, ma, -⟩ := h0.form
  obtain ⟨pb, cb, rfl, mb, -⟩ := h1.form
  unfold maxLen at ma mb
  clear h0 h1
  generalize p.types.all isTypeB = b1 at *
  generalize hb2 : preB (p.nodes.map Nd.kids) = b2 at *
  generalize p.nodes.all (rightNB p.nodes) = b3 at *
  by_cases h8 : p.types.length ≤ 8
  · have HL := Lib.hid (show decide (p.types.length ≤ 8) = true from by simpa using h8)
    have h8' : (p.types.length : Int) ≤ 8 := by omega
    clear h8
    go_enter Tryz.func15, Tryz.ntmps15
    go_wp2_with fail
    refine (hT _ (Kept.alloc _ _)).mono ?_
    rintro e w1 ⟨rfl, hb1⟩
    obtain ⟨hc1, hf1⟩ := bcell hb1
    have B1 := below_tr (Joins.below_alloc1 w _) hb1
    cases b1
    · go_wp2
      go_ret
      exact ⟨ret_bool (by rw [HP.out, HL.out]; rfl), B1⟩
    · go_wp2_with fail
      refine (hP _ (Kept.of_below B1)).mono ?_
      rintro e w2 ⟨rfl, hb2'⟩
      have B2 := below_tr B1 hb2'
      have hb12 := below_tr hb1 hb2'
      have hsz := hb12.size
      simp at hsz
      obtain ⟨hc2, hf2⟩ := bcell hb12
      clear hc1 hf1
      cases b2
      · go_wp2
        go_ret
        exact ⟨ret_bool (by rw [HP.out, HL.out]; rfl), B2⟩
      · have hE1 := hE rfl w2 (Kept.of_below B2) w.heap.size (by rw [hc2 _ _ (by simp)]; simp) (by rw [hc2 _ _ (by simp)]; simp) (by omega)
        go_wp2_with fail
        refine hE1.mono ?_
        rintro e w3 ⟨rfl, hb3⟩
        go_wp2
        go_ret
        exact ⟨ret_bool (by rw [HP.out, HL.out]; simp), below_tr B2 hb3⟩
  · have HL := Lib.hid (show decide (p.types.length ≤ 8) = false from by simpa using h8)
    have h8' : decide ((p.types.length : Int) ≤ 8) = false := by simp; omega
    clear h8
    go_enter Tryz.func15, Tryz.ntmps15
    go_wp2
    go_ret
    exact ⟨ret_bool (by rw [HP.out, HL.out]; rfl), Joins.below_alloc1 w _⟩
theorem iProgramOkC (p : Pg) (v0 v1 : Value) (w : World) (h0 : RowRd 3 TpEl w v0 p.types) (h1 : RowRd 6 NdEl w v1 p.nodes) (hz : bPg p ≤ 1048576) :
    Calls Tryz.prog 15 #[.agg #[v0, v1]] w fun e w' => e = .returned (.bool (pgOkB p)) ∧ Below w.heap.size w w' := iProgramOk p v0 v1 w h0 h1
end Go.Proofs.YtaibgnfjjbncpaaGreat
