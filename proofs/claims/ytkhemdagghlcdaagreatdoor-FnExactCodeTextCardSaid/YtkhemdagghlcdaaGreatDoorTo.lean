/- What came in, laid down anew, by program (tools/gendeep.py). -/
import Derived.Test.YtkhemdagghlcdaaGreatDoorOwnData
import Derived.Test.YtkhemdagghlcdaaGreatDoorRows
import Derived.WalkKit
import Derived.WalkSmall
import Derived.ProofKit
import Derived.OpenShut
import Derived.Lib.Hide
import Derived.Lib.SmallJoins
import Derived.StillTailTactics
import Derived.Deep.QuietTactic
import Derived.BigQuiet
import Derived.Outline
namespace Go.Proofs.YtkhemdagghlcdaaGreatDoor
set_option linter.unusedVariables false
set_option maxRecDepth 100000
open Go.ChangeShapes Go.WideShapes Go.ChangeAt Go.RowKit
theorem toIntS (l : List Int) (v : Value) (w : World) (hR : RowRd 1 IntEl w v l) (hlen : l.length ≤ 1048576) :
    Calls Tryz.prog 100 #[v] w (RowPost 1 (Flat IntEl) l w) := by
  obtain ⟨a, cap, rfl, hm, hR⟩ := hR.form
  have hm' := hm
  unfold maxLen at hm
  obtain ⟨W0, hmk, hT⟩ := make_t (P := Tryz.prog) (E := (Flat IntEl)) w 83 3 (.int .i64 0) 1 8 l Tryz.underlying83 (by kernel_rfl) hlen (by decide) (by decide)
  have HT := Lib.hid hT
  clear hT
  go_enter Tryz.func100, Tryz.ntmps100
  go_wp2
  have hT := HT.out
  clear hmk HT
  go_loopw [4] (fun i wr => ∃ (j : Nat) (Fs : List (List Nat)), i = .int .i64 j ∧ j ≤ l.length ∧ TInv 1 (Flat IntEl) w w.heap.size l Fs j wr) (fun i _ => l.length - (intOf i).toNat)
  case atStart => exact ⟨0, [], rfl, Nat.zero_le _, hT⟩
  case round =>
    obtain ⟨j, Fs, rfl, hj, hI⟩ := hrel
    by_cases hlt : j < l.length
    · obtain ⟨b, o, rfl, hbw, hc⟩ := hR (by omega)
      have ex := IntEl.st w wr b _ _ (Kept.of_below hI.bel) hbw (hc j hlt)
      clear hc hR hT
      have HI := Lib.hid hI
      have hg := hI.lt
      have hfr := hI.fr
      obtain ⟨y0, z0⟩ := hI.all (j) (by omega)
      clear hI
      generalize hx : l[j] = x at *
      have HX := Lib.hid hx
      clear hx
      obtain ⟨e0, i0⟩ := ex
      rw [Nat.mul_one] at e0
      go_wp2
      go_roundw
      case rel =>
        have hO := (Out.refl w.heap.size (j) 1 [] wr).set (j) (.int .i64 x) ⟨by omega, by omega⟩
        have hA : ∀ d, d < 1 → ∃ u, World.cell? (wr.setCell ⟨w.heap.size, j, none⟩ (.int .i64 x)) ⟨w.heap.size, j + d, none⟩ = some u := fun d hd => by
          obtain rfl : d = 0 := by omega
          exact ⟨_, World.cell?_setCell_same _ _ _ (z0)⟩
        have hD : Flat IntEl (wr.setCell ⟨w.heap.size, j, none⟩ (.int .i64 x)) w.heap.size (j) x ([]) := ⟨rfl, World.cell?_setCell_same _ _ _ (z0), i0⟩
        exact ⟨j + 1, Fs ++ [[]], by go_num, by omega, HI.out.step IntFlat.loc (Flat.sized IntEl) hlt (fun f hf => by simp at hf) List.nodup_nil (by rw [Nat.mul_one]; exact hO) (by rw [Nat.mul_one]; exact hA) (by rw [HX.out, Nat.mul_one]; exact hD)⟩
      case measure => simp [intOf]; omega
    · obtain rfl : j = l.length := by omega
      go_wp2
      go_ret
      exact hI.fin rfl hm' rfl
def ToPNodePost (x : PN) (w : World) (e : Ending) (w' : World) : Prop := ∃ (u3 : Value) (F3 : List Nat), e = .returned (.agg #[.int .i64 x.kind, .int .i64 x.n, .string x.s, u3]) ∧ RowOwn 1 (Flat IntEl) w' u3 x.kids F3 ∧ (∀ g ∈ F3, w.heap.size ≤ g) ∧ (F3).Nodup ∧ Below w.heap.size w w'
set_option maxHeartbeats 1000000 in
theorem toPNode (x : PN) (v3 : Value) (w : World) (r3 : RowRd 1 IntEl w v3 x.kids) (hz : bPN x ≤ 1048576) :
    Calls Tryz.prog 79 #[.agg #[.int .i64 x.kind, .int .i64 x.n, .string x.s, v3]] w (ToPNodePost x w) := by
  obtain ⟨a3, ca3, e3, -, -⟩ := r3.form
  subst e3
  simp only [bPN] at hz
  have HZ := Lib.hid hz
  clear hz
  go_enter Tryz.func79, Tryz.ntmps79
  go_wp2_with fail
  refine (toIntS x.kids _ _ (r3.kept IntEl.st (by repeat (first | with_reducible exact Kept.al3 _ _ _ _ | (with_reducible refine Kept.set ?_ _ (by omega)) ))) (by have := HZ.out; have := bulkL_len bInt x.kids; omega)).mono ?_
  rintro e w1 ⟨u3, F3, rfl, ru3, hF3, hN3, hb1⟩
  obtain ⟨b3, cb3, e3, -, -⟩ := (ru3.reads (Flat.reads IntEl)).form
  subst e3
  obtain ⟨hc1, hf1⟩ := bcell hb1
  have hz1 : w.heap.size + 2 < w1.heap.size := by have := hb1.size; simp at this; omega
  have hy1 : w.heap.size + 1 < w1.heap.size := by omega
  have hx1 : w.heap.size < w1.heap.size := by omega
  go_wp2
  refine bodyPost_ret (v := .agg #[.int .i64 x.kind, .int .i64 x.n, .string x.s, .slice b3 x.kids.length cb3]) (by simp [results, Tryz.results79, go_sem, hc1]) rfl ⟨_, F3, rfl, ?_, ?_, ?_, ?_⟩
  · repeat (first | with_reducible exact ru3 | (with_reducible refine RowOwn.set IntFlat.loc (Flat.sized IntEl) ?_ _ _ (fun e => by have := hF3 _ e; simp at this; omega)))
  · intro g hg; have := hF3 g hg; simp at this; omega
  · exact hN3
  · repeat (first | (with_reducible refine Below.setCell ?_ (by first | (simp; done) | (simp; omega) | (rw [setCell_size]; omega)) _) | with_reducible exact below_tr (Joins.below_alloc3 w _ _ _) hb1)
theorem toPNodeS (l : List PN) (v : Value) (w : World) (hR : RowRd 4 PNEl w v l) (hlen : l.length ≤ 1048576) (hz : bulkL bPN l ≤ 1048576) :
    Calls Tryz.prog 54 #[v] w (RowPost 4 PNOwn l w) := by
  obtain ⟨a, cap, rfl, hm, hR⟩ := hR.form
  have hm' := hm
  unfold maxLen at hm
  obtain ⟨W0, hmk, hT⟩ := make_t (P := Tryz.prog) (E := PNOwn) w 57 85 (.agg #[.int .i64 0, .int .i64 0, .string ⟨#[]⟩, .slice none 0 0]) 4 56 l Tryz.underlying57 (by kernel_rfl) hlen (by decide) (by decide)
  have HT := Lib.hid hT
  clear hT
  go_enter Tryz.func54, Tryz.ntmps54
  go_wp2
  have hT := HT.out
  clear hmk HT
  go_loopw [4] (fun i wr => ∃ (j : Nat) (Fs : List (List Nat)), i = .int .i64 j ∧ j ≤ l.length ∧ TInv 4 PNOwn w w.heap.size l Fs j wr) (fun i _ => l.length - (intOf i).toNat)
  case atStart => exact ⟨0, [], rfl, Nat.zero_le _, hT⟩
  case round =>
    obtain ⟨j, Fs, rfl, hj, hI⟩ := hrel
    by_cases hlt : j < l.length
    · obtain ⟨b, o, rfl, hbw, hc⟩ := hR (by omega)
      have ex := PNEl.st w wr b _ _ (Kept.of_below hI.bel) hbw (hc j hlt)
      have hbl := bulkL_mem bPN l j hlt
      have HBL := Lib.hid (show bPN l[j] ≤ 1048576 by omega)
      clear hbl
      clear hc hR hT
      have HI := Lib.hid hI
      have hg := hI.lt
      have hfr := hI.fr
      obtain ⟨y0, z0⟩ := hI.all (j * 4) (by omega)
      obtain ⟨y1, z1⟩ := hI.all (j * 4 + 1) (by omega)
      obtain ⟨y2, z2⟩ := hI.all (j * 4 + 2) (by omega)
      obtain ⟨y3, z3⟩ := hI.all (j * 4 + 3) (by omega)
      clear hI
      generalize hx : l[j] = x at *
      have HX := Lib.hid hx
      clear hx
      obtain ⟨⟨e0, i0⟩, ⟨e1, i1⟩, ⟨e2, i2⟩, ⟨v3, e3, r3⟩⟩ := ex
      obtain ⟨a3, ca3, rfl, -, -⟩ := r3.form
      go_wp2_with fail
      refine (toPNode x _ _ r3 HBL.out).mono ?_
      rintro e w1 ⟨u3, F3, rfl, ru3, hF, hN, hb1⟩
      obtain ⟨b3, cb3, e_3, -, -⟩ := (ru3.reads (Flat.reads IntEl)).form
      subst e_3
      have q0 := (hb1.cell (p := ⟨w.heap.size, j * 4, none⟩) hg).trans z0
      have q1 := (hb1.cell (p := ⟨w.heap.size, j * 4 + 1, none⟩) hg).trans z1
      have q2 := (hb1.cell (p := ⟨w.heap.size, j * 4 + 2, none⟩) hg).trans z2
      have q3 := (hb1.cell (p := ⟨w.heap.size, j * 4 + 3, none⟩) hg).trans z3
      have hfr1 : ∀ i, w1.frozen? ⟨w.heap.size, i, none⟩ = false := fun i => (hb1.frozen (p := ⟨w.heap.size, i, none⟩) hg).trans (hfr i)
      clear z0 z1 z2 z3 hfr e0 e1 e2 e3
      go_wp2
      go_roundw
      case rel =>
        have hO := (((((Out.refl w.heap.size (j * 4) 4 [] wr).below hg hb1).set (j * 4) (.int .i64 x.kind) ⟨by omega, by omega⟩).set (j * 4 + 1) (.int .i64 x.n) ⟨by omega, by omega⟩).set (j * 4 + 2) (.string x.s) ⟨by omega, by omega⟩).set (j * 4 + 3) (.slice b3 x.kids.length cb3) ⟨by omega, by omega⟩
        have hA : ∀ d, d < 4 → ∃ u, World.cell? ((((w1.setCell ⟨w.heap.size, j * 4, none⟩ (.int .i64 x.kind)).setCell ⟨w.heap.size, j * 4 + 1, none⟩ (.int .i64 x.n)).setCell ⟨w.heap.size, j * 4 + 2, none⟩ (.string x.s)).setCell ⟨w.heap.size, j * 4 + 3, none⟩ (.slice b3 x.kids.length cb3)) ⟨w.heap.size, j * 4 + d, none⟩ = some u := fun d hd => by
          rcases (show d = 0 ∨ d = 1 ∨ d = 2 ∨ d = 3 by omega) with rfl | rfl | rfl | rfl
          · exact ⟨_, (cell_off (by omega)).trans ((cell_off (by omega)).trans ((cell_off (by omega)).trans (World.cell?_setCell_same _ _ _ (q0))))⟩
          · exact ⟨_, (cell_off (by omega)).trans ((cell_off (by omega)).trans (World.cell?_setCell_same _ _ _ ((cell_off (by omega)).trans (q1))))⟩
          · exact ⟨_, (cell_off (by omega)).trans (World.cell?_setCell_same _ _ _ ((cell_off (by omega)).trans ((cell_off (by omega)).trans (q2))))⟩
          · exact ⟨_, World.cell?_setCell_same _ _ _ ((cell_off (by omega)).trans ((cell_off (by omega)).trans ((cell_off (by omega)).trans (q3))))⟩
        have hD : PNOwn ((((w1.setCell ⟨w.heap.size, j * 4, none⟩ (.int .i64 x.kind)).setCell ⟨w.heap.size, j * 4 + 1, none⟩ (.int .i64 x.n)).setCell ⟨w.heap.size, j * 4 + 2, none⟩ (.string x.s)).setCell ⟨w.heap.size, j * 4 + 3, none⟩ (.slice b3 x.kids.length cb3)) w.heap.size (j * 4) x (F3) := ⟨F3, rfl, ⟨(cell_off (by omega)).trans ((cell_off (by omega)).trans ((cell_off (by omega)).trans (World.cell?_setCell_same _ _ _ (q0)))), i0⟩, ⟨(cell_off (by omega)).trans ((cell_off (by omega)).trans (World.cell?_setCell_same _ _ _ ((cell_off (by omega)).trans (q1)))), i1⟩, ⟨(cell_off (by omega)).trans (World.cell?_setCell_same _ _ _ ((cell_off (by omega)).trans ((cell_off (by omega)).trans (q2)))), i2⟩, ⟨_, World.cell?_setCell_same _ _ _ ((cell_off (by omega)).trans ((cell_off (by omega)).trans ((cell_off (by omega)).trans (q3)))), ((((ru3).set IntFlat.loc (Flat.sized IntEl) (j * 4) (.int .i64 x.kind) (fun e => absurd (hF _ (e)) (by omega))).set IntFlat.loc (Flat.sized IntEl) (j * 4 + 1) (.int .i64 x.n) (fun e => absurd (hF _ (e)) (by omega))).set IntFlat.loc (Flat.sized IntEl) (j * 4 + 2) (.string x.s) (fun e => absurd (hF _ (e)) (by omega))).set IntFlat.loc (Flat.sized IntEl) (j * 4 + 3) (.slice b3 x.kids.length cb3) (fun e => absurd (hF _ (e)) (by omega))⟩⟩
        exact ⟨j + 1, Fs ++ [F3], by go_num, by omega, HI.out.step PNOwn.loc PNOwn.sized hlt hF hN hO hA (by rw [HX.out]; exact hD)⟩
      case measure => simp [intOf]; omega
    · obtain rfl : j = l.length := by omega
      go_wp2
      go_ret
      exact hI.fin rfl hm' rfl
def ToPatPost (x : List PN) (w : World) (e : Ending) (w' : World) : Prop := ∃ (u0 : Value) (F0 : List Nat), e = .returned (.agg #[u0]) ∧ RowOwn 4 PNOwn w' u0 x F0 ∧ (∀ g ∈ F0, w.heap.size ≤ g) ∧ (F0).Nodup ∧ Below w.heap.size w w'
set_option maxHeartbeats 1000000 in
theorem toPat (x : List PN) (v0 : Value) (w : World) (r0 : RowRd 4 PNEl w v0 x) (hz : bPat x ≤ 1048576) :
    Calls Tryz.prog 32 #[.agg #[v0]] w (ToPatPost x w) := by
  obtain ⟨a0, ca0, e0, -, -⟩ := r0.form
  subst e0
  simp only [bPat] at hz
  have HZ := Lib.hid hz
  clear hz
  go_enter Tryz.func32, Tryz.ntmps32
  go_wp2_with fail
  refine (toPNodeS x _ _ (r0.kept PNEl.st (by repeat (first | with_reducible exact Kept.al3 _ _ _ _ | (with_reducible refine Kept.set ?_ _ (by omega)) ))) (by have := HZ.out; have := bulkL_len bPN x; omega) (by have := HZ.out; omega)).mono ?_
  rintro e w1 ⟨u0, F0, rfl, ru0, hF0, hN0, hb1⟩
  obtain ⟨b0, cb0, e0, -, -⟩ := (ru0.reads PNOwn.reads).form
  subst e0
  obtain ⟨hc1, hf1⟩ := bcell hb1
  have hz1 : w.heap.size + 2 < w1.heap.size := by have := hb1.size; simp at this; omega
  have hy1 : w.heap.size + 1 < w1.heap.size := by omega
  have hx1 : w.heap.size < w1.heap.size := by omega
  go_wp2
  refine bodyPost_ret (v := .agg #[.slice b0 x.length cb0]) (by simp [results, Tryz.results32, go_sem, hc1]) rfl ⟨_, F0, rfl, ?_, ?_, ?_, ?_⟩
  · repeat (first | with_reducible exact ru0 | (with_reducible refine RowOwn.set PNOwn.loc PNOwn.sized ?_ _ _ (fun e => by have := hF0 _ e; simp at this; omega)))
  · intro g hg; have := hF0 g hg; simp at this; omega
  · exact hN0
  · repeat (first | (with_reducible refine Below.setCell ?_ (by first | (simp; done) | (simp; omega) | (rw [setCell_size]; omega)) _) | with_reducible exact below_tr (Joins.below_alloc3 w _ _ _) hb1)
theorem toPatS (l : List (List PN)) (v : Value) (w : World) (hR : RowRd 1 PatEl w v l) (hlen : l.length ≤ 1048576) (hz : bulkL bPat l ≤ 1048576) :
    Calls Tryz.prog 16 #[v] w (RowPost 1 PatOwn l w) := by
  obtain ⟨a, cap, rfl, hm, hR⟩ := hR.form
  have hm' := hm
  unfold maxLen at hm
  obtain ⟨W0, hmk, hT⟩ := make_t (P := Tryz.prog) (E := PatOwn) w 29 59 (.agg #[.slice none 0 0]) 1 24 l Tryz.underlying29 (by kernel_rfl) hlen (by decide) (by decide)
  have HT := Lib.hid hT
  clear hT
  go_enter Tryz.func16, Tryz.ntmps16
  go_wp2
  have hT := HT.out
  clear hmk HT
  go_loopw [4] (fun i wr => ∃ (j : Nat) (Fs : List (List Nat)), i = .int .i64 j ∧ j ≤ l.length ∧ TInv 1 PatOwn w w.heap.size l Fs j wr) (fun i _ => l.length - (intOf i).toNat)
  case atStart => exact ⟨0, [], rfl, Nat.zero_le _, hT⟩
  case round =>
    obtain ⟨j, Fs, rfl, hj, hI⟩ := hrel
    by_cases hlt : j < l.length
    · obtain ⟨b, o, rfl, hbw, hc⟩ := hR (by omega)
      have ex := PatEl.st w wr b _ _ (Kept.of_below hI.bel) hbw (hc j hlt)
      have hbl := bulkL_mem bPat l j hlt
      have HBL := Lib.hid (show bPat l[j] ≤ 1048576 by omega)
      clear hbl
      clear hc hR hT
      have HI := Lib.hid hI
      have hg := hI.lt
      have hfr := hI.fr
      obtain ⟨y0, z0⟩ := hI.all (j) (by omega)
      clear hI
      generalize hx : l[j] = x at *
      have HX := Lib.hid hx
      clear hx
      obtain ⟨v0, e0, r0⟩ := ex
      obtain ⟨a0, ca0, rfl, -, -⟩ := r0.form
      rw [Nat.mul_one] at e0
      go_wp2_with fail
      refine (toPat x _ _ r0 HBL.out).mono ?_
      rintro e w1 ⟨u0, F0, rfl, ru0, hF, hN, hb1⟩
      obtain ⟨b0, cb0, e_0, -, -⟩ := (ru0.reads PNOwn.reads).form
      subst e_0
      have q0 := (hb1.cell (p := ⟨w.heap.size, j, none⟩) hg).trans z0
      have hfr1 : ∀ i, w1.frozen? ⟨w.heap.size, i, none⟩ = false := fun i => (hb1.frozen (p := ⟨w.heap.size, i, none⟩) hg).trans (hfr i)
      clear z0 hfr e0
      go_wp2
      go_roundw
      case rel =>
        have hO := ((Out.refl w.heap.size (j) 1 [] wr).below hg hb1).set (j) (.slice b0 x.length cb0) ⟨by omega, by omega⟩
        have hA : ∀ d, d < 1 → ∃ u, World.cell? (w1.setCell ⟨w.heap.size, j, none⟩ (.slice b0 x.length cb0)) ⟨w.heap.size, j + d, none⟩ = some u := fun d hd => by
          obtain rfl : d = 0 := by omega
          exact ⟨_, World.cell?_setCell_same _ _ _ (q0)⟩
        have hD : PatOwn (w1.setCell ⟨w.heap.size, j, none⟩ (.slice b0 x.length cb0)) w.heap.size (j) x (F0) := ⟨_, World.cell?_setCell_same _ _ _ (q0), (ru0).set PNOwn.loc PNOwn.sized (j) (.slice b0 x.length cb0) (fun e => absurd (hF _ (e)) (by omega))⟩
        exact ⟨j + 1, Fs ++ [F0], by go_num, by omega, HI.out.step PatOwn.loc PatOwn.sized hlt hF hN (by rw [Nat.mul_one]; exact hO) (by rw [Nat.mul_one]; exact hA) (by rw [HX.out, Nat.mul_one]; exact hD)⟩
      case measure => simp [intOf]; omega
    · obtain rfl : j = l.length := by omega
      go_wp2
      go_ret
      exact hI.fin rfl hm' rfl
theorem toIns (x : Ins_) (w : World) :
    Calls Tryz.prog 31 #[.agg #[.int .i64 x.op, .int .i64 x.a, .int .i64 x.b, .string x.s]] w (fun e w' => e = .returned (.agg #[.int .i64 x.op, .int .i64 x.a, .int .i64 x.b, .string x.s]) ∧ Below w.heap.size w w') := by
  go_enter Tryz.func31, Tryz.ntmps31
  go_wp2
  refine bodyPost_ret (v := .agg #[.int .i64 x.op, .int .i64 x.a, .int .i64 x.b, .string x.s]) (by simp [results, Tryz.results31, go_sem]) rfl ⟨rfl, ?_⟩
  exact Joins.below_alloc3 w _ _ _
theorem toInsS (l : List Ins_) (v : Value) (w : World) (hR : RowRd 4 InsEl w v l) (hlen : l.length ≤ 1048576) (hz : bulkL bIns l ≤ 1048576) :
    Calls Tryz.prog 15 #[v] w (RowPost 4 InsOwn l w) := by
  obtain ⟨a, cap, rfl, hm, hR⟩ := hR.form
  have hm' := hm
  unfold maxLen at hm
  obtain ⟨W0, hmk, hT⟩ := make_t (P := Tryz.prog) (E := InsOwn) w 28 39 (.agg #[.int .i64 0, .int .i64 0, .int .i64 0, .string ⟨#[]⟩]) 4 40 l Tryz.underlying28 (by kernel_rfl) hlen (by decide) (by decide)
  have HT := Lib.hid hT
  clear hT
  go_enter Tryz.func15, Tryz.ntmps15
  go_wp2
  have hT := HT.out
  clear hmk HT
  go_loopw [4] (fun i wr => ∃ (j : Nat) (Fs : List (List Nat)), i = .int .i64 j ∧ j ≤ l.length ∧ TInv 4 InsOwn w w.heap.size l Fs j wr) (fun i _ => l.length - (intOf i).toNat)
  case atStart => exact ⟨0, [], rfl, Nat.zero_le _, hT⟩
  case round =>
    obtain ⟨j, Fs, rfl, hj, hI⟩ := hrel
    by_cases hlt : j < l.length
    · obtain ⟨b, o, rfl, hbw, hc⟩ := hR (by omega)
      have ex := InsEl.st w wr b _ _ (Kept.of_below hI.bel) hbw (hc j hlt)
      clear hc hR hT
      have HI := Lib.hid hI
      have hg := hI.lt
      have hfr := hI.fr
      obtain ⟨y0, z0⟩ := hI.all (j * 4) (by omega)
      obtain ⟨y1, z1⟩ := hI.all (j * 4 + 1) (by omega)
      obtain ⟨y2, z2⟩ := hI.all (j * 4 + 2) (by omega)
      obtain ⟨y3, z3⟩ := hI.all (j * 4 + 3) (by omega)
      clear hI
      generalize hx : l[j] = x at *
      have HX := Lib.hid hx
      clear hx
      obtain ⟨⟨e0, i0⟩, ⟨e1, i1⟩, ⟨e2, i2⟩, ⟨e3, i3⟩⟩ := ex
      go_wp2_with fail
      refine (toIns x _).mono ?_
      rintro e w1 ⟨rfl, hb1⟩
      have q0 := (hb1.cell (p := ⟨w.heap.size, j * 4, none⟩) hg).trans z0
      have q1 := (hb1.cell (p := ⟨w.heap.size, j * 4 + 1, none⟩) hg).trans z1
      have q2 := (hb1.cell (p := ⟨w.heap.size, j * 4 + 2, none⟩) hg).trans z2
      have q3 := (hb1.cell (p := ⟨w.heap.size, j * 4 + 3, none⟩) hg).trans z3
      have hfr1 : ∀ i, w1.frozen? ⟨w.heap.size, i, none⟩ = false := fun i => (hb1.frozen (p := ⟨w.heap.size, i, none⟩) hg).trans (hfr i)
      clear z0 z1 z2 z3 hfr e0 e1 e2 e3
      go_wp2
      go_roundw
      case rel =>
        have hO := (((((Out.refl w.heap.size (j * 4) 4 [] wr).below hg hb1).set (j * 4) (.int .i64 x.op) ⟨by omega, by omega⟩).set (j * 4 + 1) (.int .i64 x.a) ⟨by omega, by omega⟩).set (j * 4 + 2) (.int .i64 x.b) ⟨by omega, by omega⟩).set (j * 4 + 3) (.string x.s) ⟨by omega, by omega⟩
        have hA : ∀ d, d < 4 → ∃ u, World.cell? ((((w1.setCell ⟨w.heap.size, j * 4, none⟩ (.int .i64 x.op)).setCell ⟨w.heap.size, j * 4 + 1, none⟩ (.int .i64 x.a)).setCell ⟨w.heap.size, j * 4 + 2, none⟩ (.int .i64 x.b)).setCell ⟨w.heap.size, j * 4 + 3, none⟩ (.string x.s)) ⟨w.heap.size, j * 4 + d, none⟩ = some u := fun d hd => by
          rcases (show d = 0 ∨ d = 1 ∨ d = 2 ∨ d = 3 by omega) with rfl | rfl | rfl | rfl
          · exact ⟨_, (cell_off (by omega)).trans ((cell_off (by omega)).trans ((cell_off (by omega)).trans (World.cell?_setCell_same _ _ _ (q0))))⟩
          · exact ⟨_, (cell_off (by omega)).trans ((cell_off (by omega)).trans (World.cell?_setCell_same _ _ _ ((cell_off (by omega)).trans (q1))))⟩
          · exact ⟨_, (cell_off (by omega)).trans (World.cell?_setCell_same _ _ _ ((cell_off (by omega)).trans ((cell_off (by omega)).trans (q2))))⟩
          · exact ⟨_, World.cell?_setCell_same _ _ _ ((cell_off (by omega)).trans ((cell_off (by omega)).trans ((cell_off (by omega)).trans (q3))))⟩
        have hD : InsOwn ((((w1.setCell ⟨w.heap.size, j * 4, none⟩ (.int .i64 x.op)).setCell ⟨w.heap.size, j * 4 + 1, none⟩ (.int .i64 x.a)).setCell ⟨w.heap.size, j * 4 + 2, none⟩ (.int .i64 x.b)).setCell ⟨w.heap.size, j * 4 + 3, none⟩ (.string x.s)) w.heap.size (j * 4) x ([]) := ⟨rfl, ⟨(cell_off (by omega)).trans ((cell_off (by omega)).trans ((cell_off (by omega)).trans (World.cell?_setCell_same _ _ _ (q0)))), i0⟩, ⟨(cell_off (by omega)).trans ((cell_off (by omega)).trans (World.cell?_setCell_same _ _ _ ((cell_off (by omega)).trans (q1)))), i1⟩, ⟨(cell_off (by omega)).trans (World.cell?_setCell_same _ _ _ ((cell_off (by omega)).trans ((cell_off (by omega)).trans (q2)))), i2⟩, ⟨World.cell?_setCell_same _ _ _ ((cell_off (by omega)).trans ((cell_off (by omega)).trans ((cell_off (by omega)).trans (q3)))), i3⟩⟩
        exact ⟨j + 1, Fs ++ [[]], by go_num, by omega, HI.out.step InsOwn.loc InsOwn.sized hlt (fun f hf => by simp at hf) List.nodup_nil hO hA (by rw [HX.out]; exact hD)⟩
      case measure => simp [intOf]; omega
    · obtain rfl : j = l.length := by omega
      go_wp2
      go_ret
      exact hI.fin rfl hm' rfl
def ToCodePost (x : Cd) (w : World) (e : Ending) (w' : World) : Prop := ∃ (u0 u1 : Value) (F0 F1 : List Nat), e = .returned (.agg #[u0, u1]) ∧ RowOwn 4 InsOwn w' u0 x.ins F0 ∧ RowOwn 1 PatOwn w' u1 x.pats F1 ∧ (∀ g ∈ F0 ++ F1, w.heap.size ≤ g) ∧ (F0 ++ F1).Nodup ∧ Below w.heap.size w w'
set_option maxHeartbeats 1000000 in
theorem toCode (x : Cd) (v0 : Value) (v1 : Value) (w : World) (r0 : RowRd 4 InsEl w v0 x.ins) (r1 : RowRd 1 PatEl w v1 x.pats) (hz : bCd x ≤ 1048576) :
    Calls Tryz.prog 6 #[.agg #[v0, v1]] w (ToCodePost x w) := by
  obtain ⟨a0, ca0, e0, -, -⟩ := r0.form
  subst e0
  obtain ⟨a1, ca1, e1, -, -⟩ := r1.form
  subst e1
  simp only [bCd] at hz
  have HZ := Lib.hid hz
  clear hz
  go_enter Tryz.func6, Tryz.ntmps6
  go_wp2_with fail
  refine (toInsS x.ins _ _ (r0.kept InsEl.st (by repeat (first | with_reducible exact Kept.al3 _ _ _ _ | (with_reducible refine Kept.set ?_ _ (by omega)) ))) (by have := HZ.out; have := bulkL_len bIns x.ins; omega) (by have := HZ.out; omega)).mono ?_
  rintro e w1 ⟨u0, F0, rfl, ru0, hF0, hN0, hb1⟩
  obtain ⟨b0, cb0, e0, -, -⟩ := (ru0.reads InsOwn.reads).form
  subst e0
  obtain ⟨hc1, hf1⟩ := bcell hb1
  have hz1 : w.heap.size + 2 < w1.heap.size := by have := hb1.size; simp at this; omega
  have hy1 : w.heap.size + 1 < w1.heap.size := by omega
  have hx1 : w.heap.size < w1.heap.size := by omega
  go_wp2_with fail
  refine (toPatS x.pats _ _ (r1.kept PatEl.st (by repeat (first | with_reducible exact Kept.al3 _ _ _ _ | with_reducible exact (Kept.al3 _ _ _ _).trans (Kept.of_below hb1) | (with_reducible refine Kept.set ?_ _ (by omega)) ))) (by have := HZ.out; have := bulkL_len bPat x.pats; omega) (by have := HZ.out; omega)).mono ?_
  rintro e w2 ⟨u1, F1, rfl, ru1, hF1, hN1, hb2⟩
  obtain ⟨b1, cb1, e1, -, -⟩ := (ru1.reads PatOwn.reads).form
  subst e1
  obtain ⟨hc2, hf2⟩ := bcell hb2
  simp only [setCell_size] at hc2 hf2
  have hz2 : w.heap.size + 2 < w2.heap.size := by have := hb2.size; rw [setCell_size] at this; omega
  have hy2 : w.heap.size + 1 < w2.heap.size := by omega
  have hx2 : w.heap.size < w2.heap.size := by omega
  go_wp2
  refine bodyPost_ret (v := .agg #[.slice b0 x.ins.length cb0, .slice b1 x.pats.length cb1]) (by simp [results, Tryz.results6, go_sem, hc1, hy1, hc2]) rfl ⟨_, _, F0, F1, rfl, ?_, ?_, ?_, ?_, ?_⟩
  · repeat (first | with_reducible exact ru0 | (with_reducible refine RowOwn.set InsOwn.loc InsOwn.sized ?_ _ _ (fun e => by have := hF0 _ e; simp at this; omega)) | (with_reducible refine RowOwn.kept InsOwn.loc InsOwn.sized ?_ hb2))
  · repeat (first | with_reducible exact ru1 | (with_reducible refine RowOwn.set PatOwn.loc PatOwn.sized ?_ _ _ (fun e => by have := hF1 _ e; rw [setCell_size] at this; omega)))
  · intro g hg; rcases List.mem_append.1 hg with hg | hg
    · have := hF0 g hg; simp at this; omega
    · have := hF1 g hg; rw [setCell_size] at this; omega
  · exact List.nodup_append.2 ⟨hN0, hN1, fun a ha b hb => by have h1 := ru0.sized InsOwn.sized a ha; have h2 := hF1 b hb; rw [setCell_size] at h2; omega⟩
  · repeat (first | (with_reducible refine Below.setCell ?_ (by first | (simp; done) | (simp; omega) | (rw [setCell_size]; omega)) _) | (with_reducible refine Below.trans ?_ (hb2.mono (by first | (simp; done) | (simp; omega) | (rw [setCell_size]; omega)))) | with_reducible exact below_tr (Joins.below_alloc3 w _ _ _) hb1)
end Go.Proofs.YtkhemdagghlcdaaGreatDoor
