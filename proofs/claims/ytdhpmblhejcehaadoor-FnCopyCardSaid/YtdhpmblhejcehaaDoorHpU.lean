/- The model's check of heaps: the whole. -/
import Derived.Test.YtdhpmblhejcehaaDoorHpT
namespace Go.Proofs.YtdhpmblhejcehaaDoor
set_option linter.unusedVariables false
set_option maxRecDepth 100000
open Go.ChangeShapes Go.WideShapes Go.ChangeAt Go.RowKit

/-- A cell's nine places. -/
theorem ce_at {w : World} {b o : Nat} {x : Ce} (h : CeEl w b o x) :
    (w.cell? ⟨b, o, none⟩ = some (.int .i64 x.kind) ∧ w.cell? ⟨b, o + 1, none⟩ = some (.int .i64 x.n) ∧ w.cell? ⟨b, o + 2, none⟩ = some (.string x.s) ∧ w.cell? ⟨b, o + 3, none⟩ = some (.int .i64 x.a.kind) ∧ w.cell? ⟨b, o + 4, none⟩ = some (.int .i64 x.a.n) ∧ w.cell? ⟨b, o + 5, none⟩ = some (.string x.a.s) ∧ w.cell? ⟨b, o + 6, none⟩ = some (.int .i64 x.b.kind) ∧ w.cell? ⟨b, o + 7, none⟩ = some (.int .i64 x.b.n) ∧ w.cell? ⟨b, o + 8, none⟩ = some (.string x.b.s)) ∧
    (I64 x.kind ∧ I64 x.n ∧ x.s.size ≤ maxLen ∧ I64 x.a.kind ∧ I64 x.a.n ∧ x.a.s.size ≤ maxLen ∧ I64 x.b.kind ∧ I64 x.b.n ∧ x.b.s.size ≤ maxLen) := by
  obtain ⟨⟨h0, i0⟩, ⟨h1, i1⟩, ⟨h2, i2⟩, ⟨⟨h3, i3⟩, ⟨h4, i4⟩, ⟨h5, i5⟩⟩, ⟨⟨h6, i6⟩, ⟨h7, i7⟩, ⟨h8, i8⟩⟩⟩ := h
  exact ⟨⟨h0, h1, h2, h3, h4, h5, h6, h7, h8⟩, i0, i1, i2, i3, i4, i5, i6, i7, i8⟩
set_option maxHeartbeats 2000000 in
theorem sHeapOk (h : List Ce) (r : List Vl) (v0 v1 : Value) (w : World) (h0 : RowRd 9 CeEl w v0 h) (h1 : RowRd 3 VlEl w v1 r) :
    Calls Tryd.prog 7 #[v0, v1] w fun e w' => e = .returned (.bool (heapB h r)) ∧ Below w.heap.size w w' := by
  obtain ⟨a0, c0, rfl, hm0, hR0⟩ := h0.form
  obtain ⟨a1, c1, rfl, hm1, hR1⟩ := h1.form
  clear h0 h1
  unfold maxLen at hm0 hm1
  by_cases hC : 4000 < h.length
  · have HB := Lib.hid (show heapB h r = false from by simp [heapB]; omega)
    have hl2 : decide (4000 < (h.length : Int)) = true := by simp; omega
    clear hR0 hR1
    go_enter Tryd.func7, Tryd.ntmps7
    go_wp2
    go_ret
    exact ⟨ret_bool HB.out.symm, Below.refl _ _⟩
  have HB := Lib.hid (show heapB h r = (h.all (cellB h.length) && r.all (valB h.length)) from by
    have e2 : decide (h.length ≤ 4000) = true := by simp; omega
    simp only [heapB, e2, Bool.true_and])
  have hl2 : decide (4000 < (h.length : Int)) = false := by simp; omega
  clear hC
  go_enter Tryd.func7, Tryd.ntmps7
  go_wp2
  go_loopw [14] (fun i wr => ∃ k : Nat, i = .int .i64 k ∧ k ≤ h.length ∧ Hid ((h.take k).all (cellB h.length) = true) ∧ Below w.heap.size w wr) (fun i _ => h.length - (intOf i).toNat)
  case atStart => exact ⟨0, rfl, Nat.zero_le _, rfl, Below.refl _ _⟩
  case round =>
    obtain ⟨k, rfl, hk, HA, hbel⟩ := hrel
    have hK : Kept w wr := Kept.of_below hbel
    have hsz := hbel.size
    by_cases hlt : k < h.length
    · obtain ⟨b, o, rfl, hbw, hc⟩ := hR0 (by omega)
      have ex := CeEl.st w wr b _ _ hK hbw (hc k hlt)
      have HN := Lib.hid (all_no (cellB h.length) h k hlt)
      have HY := Lib.hid (all_snoc (cellB h.length) h k hlt HA.out)
      clear hc hR1 hR0 HA
      generalize h[k] = x at *
      obtain ⟨⟨e0, e1, e2, e3, e4, e5, e6, e7, e8⟩, i0, i1, i2, i3, i4, i5, i6, i7, i8⟩ := ce_at ex
      have HI := fun W' => Lib.hid (sCell (some ⟨b, o, none⟩) h.length c0 x W' i2 i5 i8)
      clear ex
      go_wp2_with fail
      refine (HI _).out.mono ?_
      rintro e w1 ⟨rfl, hb1⟩
      have hb2 := below_tr (Joins.below_alloc1 wr _) hb1
      cases hx : cellB h.length x
      · have HF := Lib.hid (show heapB h r = false from by rw [HB.out, HN.out hx, Bool.false_and])
        go_wp2
        go_ret
        exact ⟨ret_bool HF.out.symm, below_tr hbel hb2⟩
      · go_wp2
        go_roundw
        case rel => exact ⟨k + 1, by go_num, by omega, HY.out hx, below_tr hbel hb2⟩
        case measure => simp [intOf]; omega
    · obtain rfl : k = h.length := by omega
      rw [List.take_length] at HA
      have HB2 := Lib.hid (show heapB h r = r.all (valB h.length) from by rw [HB.out, HA.out, Bool.true_and])
      clear HB HA hR0
      generalize wr = W1 at *
      go_wp2
      go_loopw [25] (fun i wr => ∃ k : Nat, i = .int .i64 k ∧ k ≤ r.length ∧ Hid ((r.take k).all (valB h.length) = true) ∧ Below W1.heap.size W1 wr) (fun i _ => r.length - (intOf i).toNat)
      case atStart => exact ⟨0, rfl, Nat.zero_le _, rfl, Below.refl _ _⟩
      case round =>
        obtain ⟨k, rfl, hk, HA, hbel2⟩ := hrel
        have hK2 : Kept w wr := hK.trans (Kept.of_below hbel2)
        have hsz2 := hbel2.size
        by_cases hlt : k < r.length
        · obtain ⟨b, o, rfl, hbw, hc⟩ := hR1 (by omega)
          obtain ⟨⟨e0, i0⟩, ⟨e1, i1⟩, ⟨e2, i2⟩⟩ := VlEl.st w wr b _ _ hK2 hbw (hc k hlt)
          have HN := Lib.hid (all_no (valB h.length) r k hlt)
          have HY := Lib.hid (all_snoc (valB h.length) r k hlt HA.out)
          clear hc hR1 HA
          generalize r[k] = x at *
          have HI := fun W' => Lib.hid (sVal a0 h.length c0 x W' i2)
          go_wp2_with fail
          refine (HI _).out.mono ?_
          rintro e w1 ⟨rfl, hb1⟩
          have hb2 := below_tr (Joins.below_alloc1 wr _) hb1
          cases hx : valB h.length x
          · have HF := Lib.hid (show heapB h r = false from by rw [HB2.out, HN.out hx])
            go_wp2
            go_ret
            exact ⟨ret_bool HF.out.symm, below_tr hbel (below_tr hbel2 hb2) (by omega)⟩
          · go_wp2
            go_roundw
            case rel => exact ⟨k + 1, by go_num, by omega, HY.out hx, below_tr hbel2 hb2⟩
            case measure => simp [intOf]; omega
        · obtain rfl : k = r.length := by omega
          rw [List.take_length] at HA
          have HF := Lib.hid (show heapB h r = true from by rw [HB2.out, HA.out])
          clear HB2 HA hR1
          go_wp2
          go_ret
          exact ⟨ret_bool HF.out.symm, below_tr hbel hbel2 (by omega)⟩
theorem sHeapOkC (h : List Ce) (r : List Vl) (v0 v1 : Value) (w : World) (h0 : RowRd 9 CeEl w v0 h) (h1 : RowRd 3 VlEl w v1 r) (hz0 : bulkL bCe h ≤ 1048576) (hz1 : bulkL bVl r ≤ 1048576) :
    Calls Tryd.prog 7 #[v0, v1] w fun e w' => e = .returned (.bool (heapB h r)) ∧ Below w.heap.size w w' := sHeapOk h r v0 v1 w h0 h1
end Go.Proofs.YtdhpmblhejcehaaDoor
