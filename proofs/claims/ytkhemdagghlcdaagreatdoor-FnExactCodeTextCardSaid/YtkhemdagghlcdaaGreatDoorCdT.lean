/- The model's check of code. -/
import Derived.Test.YtkhemdagghlcdaaGreatDoorCdS
namespace Go.Proofs.YtkhemdagghlcdaaGreatDoor
set_option linter.unusedVariables false
set_option maxRecDepth 100000
open Go.ChangeShapes Go.WideShapes Go.ChangeAt Go.RowKit

set_option maxHeartbeats 1000000 in
theorem sCodeOk (c : Cd) (v0 v1 : Value) (w : World) (h0 : RowRd 4 InsEl w v0 c.ins) (h1 : RowRd 1 PatEl w v1 c.pats) :
    Calls Tryz.prog 11 #[.agg #[v0, v1]] w fun e w' => e = .returned (.bool (codeOkB c)) ∧ Below w.heap.size w w' := by
  obtain ⟨ins, pats⟩ := c
  simp only at h0 h1
  have h00 := h0
  have h10 := h1
  obtain ⟨a0, c0, rfl, hm0, hR0⟩ := h0.form
  obtain ⟨a1, c1, rfl, hm1, hR1⟩ := h1.form
  unfold maxLen at hm0 hm1
  by_cases hA : ins.length = 0
  · have HB := Lib.hid (show codeOkB ⟨ins, pats⟩ = false from by simp [codeOkB, hA])
    have hl : decide ((ins.length : Int) < 1) = true := by simp; omega
    have hl2 : (ins.length : Int) = 0 := by omega
    clear hR0 hR1 h0 h1 h00 h10 hA
    go_enter Tryz.func11, Tryz.ntmps11
    go_wp2
    go_ret
    exact ⟨ret_bool HB.out.symm, Joins.below_alloc1 w _⟩
  by_cases hC : 3000 < ins.length
  · have HB := Lib.hid (show codeOkB ⟨ins, pats⟩ = false from by simp [codeOkB]; omega)
    have hl : decide ((ins.length : Int) < 1) = false := by simp; omega
    have hl2 : decide (3000 < (ins.length : Int)) = true := by simp; omega
    clear hR0 hR1 h0 h1 h00 h10
    go_enter Tryz.func11, Tryz.ntmps11
    go_wp2
    go_ret
    exact ⟨ret_bool HB.out.symm, Joins.below_alloc1 w _⟩
  have HB := Lib.hid (show codeOkB ⟨ins, pats⟩ = (pats.all patOkB && ins.all (insB ins.length pats.length)) from by
    have e1 : decide (1 ≤ ins.length) = true := by simp; omega
    have e2 : decide (ins.length ≤ 3000) = true := by simp; omega
    simp only [codeOkB, e1, e2, Bool.true_and]; rw [Bool.and_comm])
  have hl : decide ((ins.length : Int) < 1) = false := by simp; omega
  have hl2 : decide (3000 < (ins.length : Int)) = false := by simp; omega
  clear h0 h1
  obtain ⟨O, hO⟩ : ∃ O, O = Obj.cells #[.slice a0 ins.length c0, .slice a1 pats.length c1] 31 := ⟨_, rfl⟩
  have bO : Below w.heap.size w (w.alloc O) := Joins.below_alloc1 w O
  have d0 : (w.alloc O).cell? ⟨w.heap.size, 0, none⟩ = some (.slice a0 ins.length c0) := by rw [hO]; simp
  have d1 : (w.alloc O).cell? ⟨w.heap.size, 1, none⟩ = some (.slice a1 pats.length c1) := by rw [hO]; simp
  have z : w.heap.size < (w.alloc O).heap.size := by simp
  go_enter Tryz.func11, Tryz.ntmps11
  go_wp2_with (first | rw [← hO])
  clear hO
  generalize w.alloc O = W at *
  go_loopw [20] (fun i wr => ∃ k : Nat, i = .int .i64 k ∧ k ≤ pats.length ∧ Hid ((pats.take k).all patOkB = true) ∧ Below W.heap.size W wr) (fun i _ => pats.length - (intOf i).toNat)
  case atStart => exact ⟨0, rfl, Nat.zero_le _, rfl, Below.refl _ _⟩
  case round =>
    obtain ⟨k, rfl, hk, HA, hbel⟩ := hrel
    obtain ⟨hcl, hfr⟩ := bcell hbel
    have c0' := (hcl _ 0 z).trans d0
    have c1' := (hcl _ 1 z).trans d1
    have hsz := hbel.size
    clear hcl hfr
    have hK : Kept w wr := (Kept.of_below bO).trans (Kept.of_below hbel)
    by_cases hlt : k < pats.length
    · obtain ⟨b, o, rfl, hbw, hc⟩ := hR1 (by omega)
      have ex := PatEl.st w wr b _ _ hK hbw (hc k hlt)
      rw [Nat.mul_one] at ex
      have hbwr := Nat.lt_of_lt_of_le hbw hK.size
      have HN := Lib.hid (all_no patOkB pats k hlt)
      have HY := Lib.hid (all_snoc patOkB pats k hlt HA.out)
      clear hc hR1 hR0 HA
      generalize pats[k] = q at *
      obtain ⟨v, e0, r0⟩ := ex
      have r00 := r0
      obtain ⟨p, cp, rfl, -, -⟩ := r0.form
      have HP := fun W' (hK' : Kept wr W') => Lib.hid (sPatOk q _ W' (r00.kept PNEl.st hK'))
      clear r0 r00
      go_wp2_with fail
      refine (HP _ (Kept.alloc _ _)).out.mono ?_
      rintro e w1 ⟨rfl, hb1⟩
      have hb2 := below_tr (Joins.below_alloc1 wr _) hb1
      cases hx : patOkB q
      · have HF := Lib.hid (show codeOkB ⟨ins, pats⟩ = false from by rw [HB.out, HN.out hx, Bool.false_and])
        go_wp2
        go_ret
        exact ⟨ret_bool HF.out.symm, below_tr (below_tr bO hbel) hb2 (by omega)⟩
      · go_wp2
        go_roundw
        case rel => exact ⟨k + 1, by go_num, by omega, HY.out hx, below_tr hbel hb2⟩
        case measure => simp [intOf]; omega
    · obtain rfl : k = pats.length := by omega
      rw [List.take_length] at HA
      have HB2 := Lib.hid (show codeOkB ⟨ins, pats⟩ = ins.all (insB ins.length pats.length) from by rw [HB.out, HA.out, Bool.true_and])
      clear HB HA hR1
      have bW := below_tr bO hbel
      have zr : w.heap.size < wr.heap.size := by omega
      clear hbel bO d0 d1 z hsz
      generalize wr = W1 at *
      go_wp2
      go_loopw [31] (fun i wr => ∃ k : Nat, i = .int .i64 k ∧ k ≤ ins.length ∧ Hid ((ins.take k).all (insB ins.length pats.length) = true) ∧ Below W1.heap.size W1 wr) (fun i _ => ins.length - (intOf i).toNat)
      case atStart => exact ⟨0, rfl, Nat.zero_le _, rfl, Below.refl _ _⟩
      case round =>
        obtain ⟨k, rfl, hk, HA, hbel⟩ := hrel
        obtain ⟨hcl, hfr⟩ := bcell hbel
        have e0' := (hcl _ 0 zr).trans c0'
        have e1' := (hcl _ 1 zr).trans c1'
        have hsz := hbel.size
        clear hcl hfr
        have hK2 : Kept w wr := hK.trans (Kept.of_below hbel)
        by_cases hlt : k < ins.length
        · obtain ⟨b, o, rfl, hbw, hc⟩ := hR0 (by omega)
          have ex := InsEl.st w wr b _ _ hK2 hbw (hc k hlt)
          have HN := Lib.hid (all_no (insB ins.length pats.length) ins k hlt)
          have HY := Lib.hid (all_snoc (insB ins.length pats.length) ins k hlt HA.out)
          clear hc hR0 HA
          generalize ins[k] = x at *
          obtain ⟨⟨x0, -⟩, ⟨x1, -⟩, ⟨x2, -⟩, ⟨x3, hs⟩⟩ := ex
          have HI := fun a0 W' => Lib.hid (sInsOk a0 a1 ins.length pats.length c0 c1 x W' hs)
          have hne : wr.heap.size ≠ w.heap.size := by omega
          have zz : w.heap.size < wr.heap.size := by omega
          have zz1 : w.heap.size < wr.heap.size + 1 := by omega
          go_wp2_with fail
          refine (HI _ _).out.mono ?_
          rintro e w1 ⟨rfl, hb1⟩
          have hb2 := below_tr (Joins.below_alloc1 wr _) hb1
          cases hx : insB ins.length pats.length x
          · have HF := Lib.hid (show codeOkB ⟨ins, pats⟩ = false from by rw [HB2.out, HN.out hx])
            go_wp2
            go_ret
            exact ⟨ret_bool HF.out.symm, below_tr (below_tr bW hbel (by omega)) hb2 (by omega)⟩
          · go_wp2
            go_roundw
            case rel => exact ⟨k + 1, by go_num, by omega, HY.out hx, below_tr hbel hb2⟩
            case measure => simp [intOf]; omega
        · obtain rfl : k = ins.length := by omega
          rw [List.take_length] at HA
          have HF := Lib.hid (show codeOkB ⟨ins, pats⟩ = true from by rw [HB2.out, HA.out])
          clear HB2 HA hR0
          go_wp2
          go_ret
          exact ⟨ret_bool HF.out.symm, below_tr bW hbel (by omega)⟩
theorem sCodeOkC (c : Cd) (v0 v1 : Value) (w : World) (h0 : RowRd 4 InsEl w v0 c.ins) (h1 : RowRd 1 PatEl w v1 c.pats) (hz : bCd c ≤ 1048576) :
    Calls Tryz.prog 11 #[.agg #[v0, v1]] w fun e w' => e = .returned (.bool (codeOkB c)) ∧ Below w.heap.size w w' := sCodeOk c v0 v1 w h0 h1
end Go.Proofs.YtkhemdagghlcdaaGreatDoor
