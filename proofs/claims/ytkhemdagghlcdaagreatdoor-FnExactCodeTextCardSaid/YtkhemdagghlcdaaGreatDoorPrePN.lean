/- The program's generic helpers at one element type, by program (tools/genfun.py). -/
import Derived.Test.YtkhemdagghlcdaaGreatDoorFnPN
import Derived.Deep.QuietTactic
import Derived.BigQuiet
import Derived.Deep.RegionHeld3
import Derived.Deep.RegionWith
import Derived.Outline
namespace Go.Proofs.YtkhemdagghlcdaaGreatDoor
set_option linter.unusedVariables false
set_option maxRecDepth 100000
open Go.ChangeShapes Go.WideShapes Go.ChangeAt Go.RowKit


theorem iKidsPN (x : PN) (v3 : Value) (w : World) : Calls Tryz.prog 67 #[.agg #[.int .i64 x.kind, .int .i64 x.n, .string x.s, v3]] w fun e w' => e = .returned v3 ∧ Below w.heap.size w w' := by
  go_enter Tryz.func67, Tryz.ntmps67
  go_wp2
  go_ret
  exact ⟨rfl, Joins.below_alloc1 w _⟩
theorem iLenPN (bk : Nat) (x : PN) (u : Value) (w : World) (hc : w.cell? ⟨bk, 0, none⟩ = some (.func (.func 67) #[] #[])) (hbk : bk < w.heap.size) (hu : PNVal w u x) :
    Calls Tryz.prog 88 #[u, .pointer (some ⟨bk, 0, none⟩)] w fun e w' => e = .returned (.int .i64 (x.kids.length : Int)) ∧ Below w.heap.size w w' := by
  obtain ⟨v3, rfl, _, _, _, r⟩ := hu
  have hK := fun W => iKidsPN x v3 W
  obtain ⟨p, c, rfl, m, -⟩ := r.form
  have hne : w.heap.size ≠ bk := by omega
  go_enter Tryz.func88, Tryz.ntmps88
  go_wp2_with (go_at_call 67; refine (hK _).mono ?_; rintro e w1 ⟨rfl, hb⟩)
  go_ret
  exact ⟨rfl, below_tr (Joins.below_alloc1 w _) hb⟩
theorem e_iLenPN : ∀ args w, (callFunc 88 args).run Tryz.prog w = .ok (.enter 88 args) w := enters_of Tryz.func88 (by kernel_rfl) rfl
set_option maxHeartbeats 4000000 in
theorem iNextPN (q : List PN) (vc vn : Value) (bc bk bn a d : Nat) (n : Int) (w : World) (hcc : w.cell? ⟨bc, 0, none⟩ = some vc) (hck : w.cell? ⟨bk, 0, none⟩ = some (.func (.func 67) #[] #[])) (hcn : w.cell? ⟨bn, 0, none⟩ = some vn)
    (hbc : bc < w.heap.size) (hbk : bk < w.heap.size) (hbn : bn < w.heap.size) (hC : RowRd 1 IntEl w vc (lens (q.map PN.kids))) (hR : RowRd 4 PNEl w vn q) (ha : a < q.length) (hd : d ≤ q[a].kids.length) :
    Calls Tryz.prog 89 #[.int .i64 a, .int .i64 d, .int .i64 n, .pointer (some ⟨bc, 0, none⟩), .pointer (some ⟨bk, 0, none⟩), .pointer (some ⟨bn, 0, none⟩)] w fun e w' => e = .returned (.bool (vPre (q.map PN.kids) () a d n).1) ∧ Below w.heap.size w w' := by
  have hle : (lens (q.map PN.kids)).length = q.length := by simp [lens]
  obtain ⟨p, cap, rfl, hm, hCf⟩ := hC.form
  obtain ⟨b, o, rfl, hb, hcs⟩ := hCf (by omega)
  have hca := (hcs a (by omega)).1
  have hla : (lens (q.map PN.kids))[a]'(by omega) = (q[a].kids.length : Int) := by simp [lens]
  rw [hla, Nat.mul_one] at hca
  rw [hle] at hcc
  clear hla hcs hCf hC
  unfold maxLen at hm
  rw [hle] at hm
  obtain ⟨p2, cap2, rfl, hm2, hRf⟩ := hR.form
  unfold maxLen at hm2
  obtain ⟨b2, o2, rfl, hb2, hn⟩ := hRf (by omega)
  have ex := hn a ha
  clear hn hRf hR
  by_cases h0 : d = q[a].kids.length
  · have HB := Lib.hid (show (vPre (q.map PN.kids) () a d n).1 = true from by
      subst h0
      have := vPre_end (q.map PN.kids) a (by simpa using ha) n
      simpa using this)
    clear ex
    generalize q[a] = x at *
    subst h0
    generalize x.kids.length = d at *
    go_enter Tryz.func89, Tryz.ntmps89
    go_wp2_with fail
    go_quiet (fail)
    go_wp2
    go_ret
    exact ⟨ret_bool HB.out.symm, below_drewN (Below.refl _ _) _⟩
  · have hd' : d < q[a].kids.length := by omega
    have HB := Lib.hid (show (vPre (q.map PN.kids) () a d n).1 = decide (q[a].kids[d] = n) from by
      have := vPre_at (q.map PN.kids) a d (by simpa using ha) (by simpa using hd') n
      simpa using this)
    have hdl : ((d : Int) == (q[a].kids.length : Int)) = false := by simp; omega
    clear hd h0
    generalize q[a] = x at *
    obtain ⟨⟨e0, i0⟩, ⟨e1, i1⟩, ⟨e2, i2⟩, ⟨v3, e3, r3⟩⟩ := ex
    obtain ⟨p3, c3, rfl, hm3, hkf⟩ := r3.form
    unfold maxLen at hm3
    obtain ⟨b3, o3, rfl, hb3, hks⟩ := hkf (by omega)
    obtain ⟨hkd, hi1, hi2⟩ := hks d hd'
    rw [Nat.mul_one] at hkd
    clear hks hkf
    have HD := Lib.hid HB.out
    clear HB
    generalize x.kids[d] = y at *
    have hKD := fun (v3 : Value) (W : World) => iKidsPN x v3 W
    have hI : ∀ W, Kept w W → (W.cell? ⟨bc, 0, none⟩ = some (.slice (some ⟨b, o, none⟩) q.length cap) ∧ W.cell? ⟨b, o + a, none⟩ = some (.int .i64 x.kids.length) ∧ W.cell? ⟨bk, 0, none⟩ = some (.func (.func 67) #[] #[]) ∧ W.cell? ⟨bn, 0, none⟩ = some (.slice (some ⟨b2, o2, none⟩) q.length cap2) ∧ W.cell? ⟨b3, o3 + d, none⟩ = some (.int .i64 y) ∧ W.cell? ⟨b2, o2 + a * 4, none⟩ = some (.int .i64 x.kind) ∧ W.cell? ⟨b2, o2 + a * 4 + 1, none⟩ = some (.int .i64 x.n) ∧ W.cell? ⟨b2, o2 + a * 4 + 2, none⟩ = some (.string x.s) ∧ W.cell? ⟨b2, o2 + a * 4 + 3, none⟩ = some (.slice (some ⟨b3, o3, none⟩) x.kids.length c3)) :=
      fun W hK => ⟨(hK.cell _ _ hbc).trans hcc, (hK.cell _ _ hb).trans hca, (hK.cell _ _ hbk).trans hck, (hK.cell _ _ hbn).trans hcn, (hK.cell _ _ hb3).trans hkd, (hK.cell _ _ hb2).trans e0, (hK.cell _ _ hb2).trans e1, (hK.cell _ _ hb2).trans e2, (hK.cell _ _ hb2).trans e3⟩
    clear hcc hca hck hcn hkd
    go_enter Tryz.func89, Tryz.ntmps89
    go_wp2_with fail
    go_region_held3 (fun W => W.cell? ⟨bc, 0, none⟩ = some (.slice (some ⟨b, o, none⟩) q.length cap) ∧ W.cell? ⟨b, o + a, none⟩ = some (.int .i64 x.kids.length) ∧ W.cell? ⟨bk, 0, none⟩ = some (.func (.func 67) #[] #[]) ∧ W.cell? ⟨bn, 0, none⟩ = some (.slice (some ⟨b2, o2, none⟩) q.length cap2) ∧ W.cell? ⟨b3, o3 + d, none⟩ = some (.int .i64 y) ∧ W.cell? ⟨b2, o2 + a * 4, none⟩ = some (.int .i64 x.kind) ∧ W.cell? ⟨b2, o2 + a * 4 + 1, none⟩ = some (.int .i64 x.n) ∧ W.cell? ⟨b2, o2 + a * 4 + 2, none⟩ = some (.string x.s) ∧ W.cell? ⟨b2, o2 + a * 4 + 3, none⟩ = some (.slice (some ⟨b3, o3, none⟩) x.kids.length c3))
      (first | exact hI _ (Kept.refl _) | exact hI _ (Kept.drew _) | exact hI _ ((Kept.drew _).trans (Kept.of_below hb1)))
      ((go_at_call 67; refine (hKD _ _).mono ?_; rintro e w1 ⟨rfl, hb1⟩))
    go_wp2
    go_ret
    refine ⟨ret_bool ?_, (Below.refl _ _).drew.trans hb1⟩
    rw [HD.out, Bool.eq_iff_iff]; simp
theorem e_iNextPN : ∀ args w, (callFunc 89 args).run Tryz.prog w = .ok (.enter 89 args) w := enters_of Tryz.func89 (by kernel_rfl) rfl
theorem iWalkPrePN (q : List PN) (vc vn : Value) (bc bk bn : Nat) (w : World) (hcc : w.cell? ⟨bc, 0, none⟩ = some vc) (hck : w.cell? ⟨bk, 0, none⟩ = some (.func (.func 67) #[] #[])) (hcn : w.cell? ⟨bn, 0, none⟩ = some vn)
    (hbc : bc < w.heap.size) (hbk : bk < w.heap.size) (hbn : bn < w.heap.size) (hC : RowRd 1 IntEl w vc (lens (q.map PN.kids))) (hR : RowRd 4 PNEl w vn q) (hl : q.length ≤ 1048576) :
    Calls Tryz.prog 90 #[vc, .int .i64 0, .func (.func 89) #[] #[.pointer (some ⟨bc, 0, none⟩), .pointer (some ⟨bk, 0, none⟩), .pointer (some ⟨bn, 0, none⟩)]] w fun e w' => e = .returned (.int .i64 (walkS (vPre (q.map PN.kids)) (lens (q.map PN.kids)) (q.length + 1) () 0).1) ∧ Below w.heap.size w w' := by
  have hle : (lens (q.map PN.kids)).length = q.length := by simp [lens]
  refine iWalk (vPre (q.map PN.kids)) (fun _ W => Below w.heap.size w W) 89 #[.pointer (some ⟨bc, 0, none⟩), .pointer (some ⟨bk, 0, none⟩), .pointer (some ⟨bn, 0, none⟩)] e_iNextPN (lens (q.map PN.kids)) vc (by omega) (fun _ W hW => hC.kept IntEl.st (Kept.of_below hW)) ?_ (q.length + 1) () 0 w (Below.refl _ _) (Nat.zero_le _) (by omega)
  intro u W a d n h hW hd h0 h1
  have hla : ((lens (q.map PN.kids))[a]'h).toNat = (q[a]'(by omega)).kids.length := by simp [lens]
  rw [hla] at hd
  exact (iNextPN q vc vn bc bk bn a d n W ((hW.cell (p := ⟨bc, 0, none⟩) hbc).trans hcc) ((hW.cell (p := ⟨bk, 0, none⟩) hbk).trans hck) ((hW.cell (p := ⟨bn, 0, none⟩) hbn).trans hcn) (Nat.lt_of_lt_of_le hbc hW.size) (Nat.lt_of_lt_of_le hbk hW.size) (Nat.lt_of_lt_of_le hbn hW.size)
    (hC.kept IntEl.st (Kept.of_below hW)) (hR.kept PNEl.st (Kept.of_below hW)) (by omega) hd).mono fun e w' ⟨h1, h2⟩ => ⟨h1, below_tr hW h2⟩
theorem iPrePN (q : List PN) (v : Value) (w : World) (hR : RowRd 4 PNEl w v q) :
    Calls Tryz.prog 66 #[v, .func (.func 67) #[] #[]] w fun e w' => e = .returned (.bool (preB (q.map PN.kids))) ∧ Below w.heap.size w w' := by
  have hR0 := hR
  obtain ⟨p, cap, rfl, hm, hRf⟩ := hR.form
  clear hRf
  unfold maxLen at hm
  by_cases h0 : 600 < q.length
  · have h0' : 600 < (q.length : Int) := by omega
    have HB := Lib.hid (show preB (q.map PN.kids) = false from by simp [preB]; omega)
    go_enter Tryz.func66, Tryz.ntmps66
    go_wp2
    go_ret
    exact ⟨ret_bool HB.out.symm, Joins.below_alloc2 w _ _⟩
  · have h0' : decide (600 < (q.length : Int)) = false := by simp; omega
    have h1 : decide (q.length ≤ 600) = true := by simp; omega
    have HB := Lib.hid (show preB (q.map PN.kids) = decide ((walkS (vPre (q.map PN.kids)) (lens (q.map PN.kids)) (q.length + 1) () 0).1 = (q.length : Int)) from by
      unfold preB; rw [List.length_map, h1]; simp)
    have hmap : q.map (fun x => (x.kids.length : Int)) = lens (q.map PN.kids) := by simp [lens]
    have hIx : ∀ x ∈ q, I64 (x.kids.length : Int) := by
      intro x hx
      obtain ⟨i, hi, rfl⟩ := List.getElem_of_mem hx
      obtain ⟨_, _, _, _, hRf⟩ := hR0.form
      obtain ⟨b, o, _, _, h⟩ := hRf (by omega)
      obtain ⟨⟨e0, i0⟩, ⟨e1, i1⟩, ⟨e2, i2⟩, ⟨v3, e3, r3⟩⟩ := h i hi
      obtain ⟨_, _, _, hm3, _⟩ := r3.form
      unfold maxLen at hm3
      exact ⟨by omega, by omega⟩
    have hWK := fun (vc : Value) (bc : Nat) (W : World) => iWalkPrePN q vc (.slice p q.length cap) bc (w.heap.size + 1) w.heap.size W
    have hMP := fun (W : World) (hK : Kept w W) (hc : W.cell? ⟨w.heap.size + 1, 0, none⟩ = some (.func (.func 67) #[] #[])) (hlt : w.heap.size + 1 < W.heap.size) =>
      iMapPN 88 #[.pointer (some ⟨w.heap.size + 1, 0, none⟩)] e_iLenPN (fun x => (x.kids.length : Int)) q (.slice p q.length cap) W (hR0.kept PNEl.st hK) (by omega) hIx
        (fun i hi u W' hW' hu => iLenPN (w.heap.size + 1) q[i] u W' ((hW'.cell (p := ⟨w.heap.size + 1, 0, none⟩) hlt).trans hc) (Nat.lt_of_lt_of_le hlt hW'.size) hu)
    have hq := Lib.hid (show q.length ≤ 1048576 by omega)
    clear h0 h1
    go_enter Tryz.func66, Tryz.ntmps66
    go_wp2_with (go_at_call 87; refine (hMP _ (Kept.al2 _ _ _) (by simp) (by simp)).mono ?_; rintro e w1 ⟨v', rfl, hv', hb⟩; rw [hmap] at hv'; have hvf := hv'.form; obtain ⟨pv, cv, rfl, mv, -⟩ := hvf)
    clear hMP hmap hIx hR
    have hsz := hb.size
    simp at hsz
    have f0 : w1.cell? ⟨w.heap.size, 0, none⟩ = some (.slice p q.length cap) := (hb.cell (p := ⟨w.heap.size, 0, none⟩) (by simp; omega)).trans (by simp)
    have f1 : w1.cell? ⟨w.heap.size + 1, 0, none⟩ = some (.func (.func 67) #[] #[]) := (hb.cell (p := ⟨w.heap.size + 1, 0, none⟩) (by simp)).trans (by simp)
    have b0 := below_tr (Joins.below_alloc2 w _ _) hb
    clear hb
    obtain ⟨O, hO⟩ : ∃ O, O = Obj.cells #[.slice pv (lens (q.map PN.kids)).length cv] 83 := ⟨_, rfl⟩
    have kO : Kept w1 (w1.alloc O) := Kept.alloc _ _
    have g0 := (kO.cell w.heap.size 0 (by omega)).trans f0
    have g1 := (kO.cell (w.heap.size + 1) 0 (by omega)).trans f1
    have gC : (w1.alloc O).cell? ⟨w1.heap.size, 0, none⟩ = some (.slice pv (lens (q.map PN.kids)).length cv) := by rw [hO]; simp
    have hvO := hv'.kept IntEl.st kO
    have z0 : w1.heap.size < (w1.alloc O).heap.size := by simp
    have bO : Below w.heap.size w (w1.alloc O) := b0.alloc (by omega) O
    rw [← hO]
    clear hO hv' f0 f1 kO
    generalize w1.alloc O = wb at *
    have HW := fun W (hK : Kept wb W) => Lib.hid (hWK _ w1.heap.size W ((hK.cell _ _ z0).trans gC) ((hK.cell (w.heap.size + 1) 0 (by omega)).trans g1) ((hK.cell w.heap.size 0 (by omega)).trans g0) (Nat.lt_of_lt_of_le z0 hK.size) (Nat.lt_of_lt_of_le (by omega) hK.size) (Nat.lt_of_lt_of_le (by omega) hK.size)
      (hvO.kept IntEl.st hK) (hR0.kept PNEl.st ((Kept.of_below bO).trans hK)) hq.out)
    have hI : ∀ W, Kept wb W → (W.cell? ⟨w.heap.size, 0, none⟩ = some (.slice p q.length cap) ∧ W.cell? ⟨w1.heap.size, 0, none⟩ = some (.slice pv (lens (q.map PN.kids)).length cv)) := fun W hK => ⟨(hK.cell w.heap.size 0 (by omega)).trans g0, (hK.cell _ _ z0).trans gC⟩
    clear hWK hvO g0 g1 gC
    generalize (walkS (vPre (q.map PN.kids)) (lens (q.map PN.kids)) (q.length + 1) () 0).1 = r at *
    go_wp2_with fail
    go_region_held3 (fun W => W.cell? ⟨w.heap.size, 0, none⟩ = some (.slice p q.length cap) ∧ W.cell? ⟨w1.heap.size, 0, none⟩ = some (.slice pv (lens (q.map PN.kids)).length cv))
      (first | exact hI _ (Kept.refl _) | exact hI _ (Kept.drew _) | exact hI _ ((Kept.drew _).trans (Kept.of_below hb2)))
      ((go_at_call 90; refine (HW _ (by first | exact Kept.drew _ | exact Kept.refl _)).out.mono ?_; rintro e w2 ⟨rfl, hb2⟩))
    go_wp2
    go_ret
    refine ⟨ret_bool ?_, below_tr bO.drew hb2⟩
    rw [HB.out, Bool.eq_iff_iff]; simp
end Go.Proofs.YtkhemdagghlcdaaGreatDoor
