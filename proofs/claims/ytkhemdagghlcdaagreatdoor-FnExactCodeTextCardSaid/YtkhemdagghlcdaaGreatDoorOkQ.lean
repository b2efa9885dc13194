/- The model's check of a pattern, whole. -/
import Derived.Test.YtkhemdagghlcdaaGreatDoorOkP
namespace Go.Proofs.YtkhemdagghlcdaaGreatDoor
set_option linter.unusedVariables false
set_option maxRecDepth 100000
open Go.ChangeShapes Go.WideShapes Go.ChangeAt Go.RowKit

set_option maxHeartbeats 4000000 in
theorem sPatOk (q : List PN) (v : Value) (w : World) (hR : RowRd 4 PNEl w v q) :
    Calls Tryz.prog 26 #[.agg #[v]] w fun e w' => e = .returned (.bool (patOkB q)) ∧ Below w.heap.size w w' := by
  have hR0 := hR
  obtain ⟨p, cap, rfl, hm, hRf⟩ := hR.form
  clear hR
  unfold maxLen at hm
  by_cases h1 : q.length < 1
  · have HB := Lib.hid (show patOkB q = false from propB_f fun h => by have := h.1; omega)
    have h1' : (q.length : Int) < 1 := by omega
    go_enter Tryz.func26, Tryz.ntmps26
    go_wp2
    go_ret
    exact ⟨ret_bool HB.out.symm, Joins.below_alloc1 w _⟩
  by_cases h2 : 600 < q.length
  · have HB := Lib.hid (show patOkB q = false from propB_f fun h => by have := h.2.1; omega)
    have h1' : ¬ (q.length : Int) < 1 := by omega
    have h2' : 600 < (q.length : Int) := by omega
    go_enter Tryz.func26, Tryz.ntmps26
    go_wp2
    go_ret
    exact ⟨ret_bool HB.out.symm, Joins.below_alloc1 w _⟩
  have h1' : decide ((q.length : Int) < 1) = false := by simp; omega
  have h2' : decide (600 < (q.length : Int)) = false := by simp; omega
  have h3' : ¬ (q.length : Int) < 1 := by omega
  have h4' : ¬ 600 < (q.length : Int) := by omega
  have HL := Lib.hid (And.intro (show 1 ≤ q.length by omega) (show q.length ≤ 600 by omega))
  clear h1 h2
  go_enter Tryz.func26, Tryz.ntmps26
  go_wp2
  go_loopw [19] (fun i wr => ∃ k : Nat, i = .int .i64 k ∧ k ≤ q.length ∧ (∀ i (hi : i < k) (h : i < q.length), pnB q q[i] = true ∧ ∀ j (hj : j < i), ¬ clash q[i] q[j]) ∧ Below (w.alloc (.cells #[.slice p q.length cap] 59)).heap.size (w.alloc (.cells #[.slice p q.length cap] 59)) wr) (fun i _ => q.length - (intOf i).toNat)
  case atStart => exact ⟨0, rfl, Nat.zero_le _, fun i hi => absurd hi (by omega), Below.refl _ _⟩
  case round =>
    obtain ⟨k, rfl, hk, hall, hbel⟩ := hrel
    generalize wr = wo at *
    have HA := Lib.hid hall
    clear hall
    obtain ⟨hcl, hfr⟩ := bcell hbel
    have hsz := hbel.size
    simp at hsz
    have c0 : wo.cell? ⟨w.heap.size, 0, none⟩ = some (.slice p q.length cap) := by rw [hcl _ _ (by simp)]; simp
    have hK : Kept w wo := (Kept.alloc _ _).trans (Kept.of_below hbel)
    clear hcl hfr
    by_cases hlt : k < q.length
    · obtain ⟨b, o, rfl, hbw, hc⟩ := hRf (by omega)
      have HC := Lib.hid hc
      obtain ⟨⟨e0, i0⟩, ⟨e1, i1⟩, ⟨e2, i2⟩, ⟨u, e3, r3⟩⟩ := PNEl.st w wo b _ _ hK hbw (hc k hlt)
      clear hc hRf
      have r3' := r3
      obtain ⟨bk, ck, rfl, hmk, -⟩ := r3.form
      clear r3
      obtain ⟨x, hx⟩ : ∃ x, x = q[k] := ⟨_, rfl⟩
      rw [← hx] at e0 e1 e2 e3 i0 i1 i2 r3' hmk
      have HX := Lib.hid hx
      clear hx
      have hlt0 : w.heap.size < wo.heap.size := by omega
      have hne0 : w.heap.size ≠ wo.heap.size := by omega
      go_wp2_with fail
      refine (sPNode q _ _ _ _ x.kids _ _ (hR0.kept PNEl.st (hK.trans (Kept.alloc _ _))) (r3'.kept IntEl.st (Kept.alloc _ _)) i2).mono ?_
      rintro e w1 ⟨rfl, hb1⟩
      have hb1w : Below wo.heap.size wo w1 := below_tr (Joins.below_alloc1 wo _) hb1
      have hbel1 := hbel.trans (hb1w.mono (by simp; omega))
      have hs1 : wo.heap.size < w1.heap.size := by have := hb1.size; simp at this; omega
      have c1 := (hb1w.cell (p := ⟨w.heap.size, 0, none⟩) (by show w.heap.size < _; omega)).trans c0
      have x0 : w1.cell? ⟨wo.heap.size, 0, none⟩ = some (.int .i64 x.kind) := by rw [hb1.cell (p := ⟨wo.heap.size, 0, none⟩) (by simp)]; simp
      have x2 : w1.cell? ⟨wo.heap.size, 2, none⟩ = some (.string x.s) := by rw [hb1.cell (p := ⟨wo.heap.size, 2, none⟩) (by simp)]; simp
      have hK1 : Kept w w1 := hK.trans (Kept.of_below hb1w)
      clear e0 e1 e2 e3 c0 hb1
      have HP : Hid (pnodeB (pairB q x.kids) x.kind x.n x.s (x.kids.length : Int) = pnB q x) := Lib.hid rfl
      cases hnb : pnodeB (pairB q x.kids) x.kind x.n x.s (x.kids.length : Int)
      · have HB := Lib.hid (show patOkB q = false from propB_f fun h => by
          have := (h.2.2.1 k hlt).1
          rw [← HX.out, ← HP.out, hnb] at this; cases this)
        go_wp2
        go_ret
        exact ⟨ret_bool HB.out.symm, (Joins.below_alloc1 w _).trans (hbel1.mono (by simp))⟩
      · have HN := Lib.hid hnb
        clear hnb
        go_wp2
        go_loopw [5] (fun j wi => ∃ m : Nat, j = .int .i64 m ∧ m ≤ k ∧ (∀ j (hj : j < m) (h : j < q.length), ¬ clash x q[j]) ∧ Below w1.heap.size w1 wi) (fun j _ => k - (intOf j).toNat)
        case atStart => exact ⟨0, rfl, Nat.zero_le _, fun j hj => absurd hj (by omega), Below.refl _ _⟩
        case round =>
          obtain ⟨m, rfl, hmk2, hcl2, hbi⟩ := hrel
          have HCl := Lib.hid hcl2
          clear hcl2
          have y0 := (hbi.cell (p := ⟨wo.heap.size, 0, none⟩) hs1).trans x0
          have y2 := (hbi.cell (p := ⟨wo.heap.size, 2, none⟩) hs1).trans x2
          have d0 := (hbi.cell (p := ⟨w.heap.size, 0, none⟩) (by show w.heap.size < _; omega)).trans c1
          by_cases hmlt : m < k
          · obtain ⟨⟨f0, l0⟩, ⟨f1, l1⟩, ⟨f2, l2⟩, -⟩ := PNEl.st w wr b _ _ (hK1.trans (Kept.of_below hbi)) hbw (HC.out m (by omega))
            clear f1
            obtain ⟨y, hy⟩ : ∃ y, y = q[m]'(by omega) := ⟨_, rfl⟩
            rw [← hy] at f0 f2 l0 l1 l2
            have HY := Lib.hid hy
            clear hy
            have hmq : m < q.length := by omega
            by_cases hx2 : x.kind = 2
            · have t1 : (x.kind == 2) = true := by simpa using hx2
              by_cases hy2 : y.kind = 2
              · have t2 : (y.kind == 2) = true := by simpa using hy2
                by_cases hs : y.s = x.s
                · have t4 : (y.s.toList == x.s.toList) = true := by simp [hs]
                  have HB := Lib.hid (show patOkB q = false from propB_f fun h => by
                    have := (h.2.2.1 k hlt).2 m hmlt
                    rw [← HX.out, ← HY.out] at this
                    exact this ⟨hx2, hy2, hs⟩)
                  clear hx2 hy2 hs
                  go_wp2_with fail
                  go_quiet (fail)
                  go_wp2
                  go_ret
                  exact ⟨ret_bool HB.out.symm, below_drewN ((Joins.below_alloc1 w _).trans ((hbel1.trans (hbi.mono (by simp; omega))).mono (by simp))) _⟩
                · have t4 : (y.s.toList == x.s.toList) = false := by rw [Bool.eq_false_iff]; intro h; exact hs (toL_inj (by simpa using h))
                  have HS := Lib.hid hs
                  clear hs hx2 hy2
                  go_wp2_with fail
                  go_quiet (fail)
                  go_wp2
                  go_roundw
                  case rel => exact ⟨m + 1, by go_num, by omega, fun j hj h => by
                    by_cases he : j = m
                    · subst he; rw [← HY.out]; exact fun hcl => HS.out hcl.2.2
                    · exact HCl.out j (by omega) h, below_drewN hbi _⟩
                  case measure => simp [intOf]; omega
              · have t2 : (y.kind == 2) = false := by simpa using hy2
                have HS := Lib.hid hy2
                clear hy2 hx2
                go_wp2_with fail
                go_quiet (fail)
                go_wp2
                go_roundw
                case rel => exact ⟨m + 1, by go_num, by omega, fun j hj h => by
                    by_cases he : j = m
                    · subst he; rw [← HY.out]; exact fun hcl => HS.out hcl.2.1
                    · exact HCl.out j (by omega) h, below_drewN hbi _⟩
                case measure => simp [intOf]; omega
            · have t1 : (x.kind == 2) = false := by simpa using hx2
              have HS := Lib.hid hx2
              clear hx2
              go_wp2_with fail
              go_quiet (fail)
              go_wp2
              go_roundw
              case rel => exact ⟨m + 1, by go_num, by omega, fun j hj h => by
                    by_cases he : j = m
                    · subst he; exact fun hcl => HS.out hcl.1
                    · exact HCl.out j (by omega) h, below_drewN hbi _⟩
              case measure => simp [intOf]; omega
          · obtain rfl : m = k := by omega
            go_wp2
            go_roundw
            case rel => exact ⟨m + 1, by go_num, by omega, fun i hi h => by
                by_cases he : i = m
                · subst he; rw [← HX.out]; exact ⟨by rw [← HP.out]; exact HN.out, fun j hj => HCl.out j hj (by omega)⟩
                · exact HA.out i (by omega) h, hbel1.trans (hbi.mono (by simp; omega))⟩
            case measure => simp [intOf]; omega
    · obtain rfl : k = q.length := by omega
      have HB := Lib.hid (show patOkB q = decide (pendF (q.length + 1) (q.map PN.kids) 0 = (q.length : Int)) from by
        by_cases he : pendF (q.length + 1) (q.map PN.kids) 0 = (q.length : Int)
        · rw [show patOkB q = true from propB_t ⟨HL.out.1, HL.out.2, fun i h => HA.out i h h, he⟩]; simp [he]
        · rw [show patOkB q = false from propB_f fun h => he h.2.2.2]; simp [he])
      clear hRf
      have hlt0 : w.heap.size < wo.heap.size := by omega
      have HE := fun W (hK2 : Kept wo W) => Lib.hid (sPEnd (q.length + 1) q _ 0 W ((hR0.kept PNEl.st hK).kept PNEl.st hK2) (by omega) (by omega) (by omega))
      go_wp2_with fail
      go_region_held3 (fun w' => w'.cell? ⟨w.heap.size, 0, none⟩ = some (.slice p q.length cap) ∧ Kept wo w')
        (first | exact ⟨c0, Kept.refl _⟩ | exact ⟨c0, Kept.drew _⟩ | exact ⟨(hb1.cell (p := ⟨w.heap.size, 0, none⟩) hlt0).trans c0, (Kept.drew _).trans (Kept.of_below hb1)⟩)
        ((go_at_call 50; refine (HE _ (by first | exact Kept.drew _ | exact Kept.refl _)).out.mono ?_; rintro e w1 ⟨rfl, hb1⟩))
      go_wp2
      go_ret
      refine ⟨ret_bool ?_, (Joins.below_alloc1 w _).trans (hbel.drew.trans (hb1.mono (by simp; omega)) |>.mono (by simp))⟩
      rw [HB.out, Bool.eq_iff_iff]; simp
theorem sPatOkC (q : List PN) (v : Value) (w : World) (hR : RowRd 4 PNEl w v q) (hz : bPat q ≤ 1048576) :
    Calls Tryz.prog 26 #[.agg #[v]] w fun e w' => e = .returned (.bool (patOkB q)) ∧ Below w.heap.size w w' := sPatOk q v w hR
end Go.Proofs.YtkhemdagghlcdaaGreatDoor
