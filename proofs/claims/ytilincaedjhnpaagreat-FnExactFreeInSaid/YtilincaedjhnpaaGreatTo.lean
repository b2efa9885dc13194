/- What came in, laid down anew, by program (tools/gendeep.py). -/
import Derived.Test.YtilincaedjhnpaaGreatOwnData
import Derived.Test.YtilincaedjhnpaaGreatRows
import Derived.WalkKit
import Derived.WalkSmall
import Derived.ProofKit
import Derived.OpenShut
import Derived.Lib.Hide
import Derived.Lib.SmallJoins
import Derived.StillTailTactics
import Derived.Deep.QuietTactic
import Derived.BigQuiet
import Derived.Outline
namespace Go.Proofs.YtilincaedjhnpaaGreat
set_option linter.unusedVariables false
set_option maxRecDepth 100000
open Go.ChangeShapes Go.WideShapes Go.ChangeAt Go.RowKit
theorem toIntS (l : List Int) (v : Value) (w : World) (hR : RowRd 1 IntEl w v l) (hlen : l.length ≤ 1048576) :
    Calls Tryz.prog 55 #[v] w (RowPost 1 (Flat IntEl) l w) := by
  obtain ⟨a, cap, rfl, hm, hR⟩ := hR.form
  have hm' := hm
  unfold maxLen at hm
  obtain ⟨W0, hmk, hT⟩ := make_t (P := Tryz.prog) (E := (Flat IntEl)) w 51 3 (.int .i64 0) 1 8 l Tryz.underlying51 (by kernel_rfl) hlen (by decide) (by decide)
  have HT := Lib.hid hT
  clear hT
  go_enter Tryz.func55, Tryz.ntmps55
  go_wp2
  have hT := HT.out
  clear hmk HT
  go_loopw [4] (fun i wr => ∃ (j : Nat) (Fs : List (List Nat)), i = .int .i64 j ∧ j ≤ l.length ∧ TInv 1 (Flat IntEl) w w.heap.size l Fs j wr) (fun i _ => l.length - (intOf i).toNat)
  case atStart => exact ⟨0, [], rfl, Nat.zero_le _, hT⟩
  case round =>
    obtain ⟨j, Fs, rfl, hj, hI⟩ := hrel
    by_cases hlt : j < l.length
    · obtain ⟨b, o, rfl, hbw, hc⟩ := hR (by omega)
      have ex := IntEl.st w wr b _ _ (Kept.of_below hI.bel) hbw (hc j hlt)
      clear hc hR hT
      have HI := Lib.hid hI
      have hg := hI.lt
      have hfr := hI.fr
      obtain ⟨y0, z0⟩ := hI.all (j) (by omega)
      clear hI
      generalize hx : l[j] = x at *
      have HX := Lib.hid hx
      clear hx
      obtain ⟨e0, i0⟩ := ex
      rw [Nat.mul_one] at e0
      go_wp2
      go_roundw
      case rel =>
        have hO := (Out.refl w.heap.size (j) 1 [] wr).set (j) (.int .i64 x) ⟨by omega, by omega⟩
        have hA : ∀ d, d < 1 → ∃ u, World.cell? (wr.setCell ⟨w.heap.size, j, none⟩ (.int .i64 x)) ⟨w.heap.size, j + d, none⟩ = some u := fun d hd => by
          obtain rfl : d = 0 := by omega
          exact ⟨_, World.cell?_setCell_same _ _ _ (z0)⟩
        have hD : Flat IntEl (wr.setCell ⟨w.heap.size, j, none⟩ (.int .i64 x)) w.heap.size (j) x ([]) := ⟨rfl, World.cell?_setCell_same _ _ _ (z0), i0⟩
        exact ⟨j + 1, Fs ++ [[]], by go_num, by omega, HI.out.step IntFlat.loc (Flat.sized IntEl) hlt (fun f hf => by simp at hf) List.nodup_nil (by rw [Nat.mul_one]; exact hO) (by rw [Nat.mul_one]; exact hA) (by rw [HX.out, Nat.mul_one]; exact hD)⟩
      case measure => simp [intOf]; omega
    · obtain rfl : j = l.length := by omega
      go_wp2
      go_ret
      exact hI.fin rfl hm' rfl
theorem toTyItem (x : TyI) (w : World) :
    Calls Tryz.prog 147 #[.agg #[.int .i64 x.var, .string x.name, .int .i64 x.arity]] w (fun e w' => e = .returned (.agg #[.int .i64 x.var, .string x.name, .int .i64 x.arity]) ∧ Below w.heap.size w w') := by
  go_enter Tryz.func147, Tryz.ntmps147
  go_wp2
  refine bodyPost_ret (v := .agg #[.int .i64 x.var, .string x.name, .int .i64 x.arity]) (by simp [results, Tryz.results147, go_sem]) rfl ⟨rfl, ?_⟩
  exact Joins.below_alloc3 w _ _ _
theorem toTyItemS (l : List TyI) (v : Value) (w : World) (hR : RowRd 3 TyIEl w v l) (hlen : l.length ≤ 1048576) (hz : bulkL bTyI l ≤ 1048576) :
    Calls Tryz.prog 132 #[v] w (RowPost 3 TyIOwn l w) := by
  obtain ⟨a, cap, rfl, hm, hR⟩ := hR.form
  have hm' := hm
  unfold maxLen at hm
  obtain ⟨W0, hmk, hT⟩ := make_t (P := Tryz.prog) (E := TyIOwn) w 59 90 (.agg #[.int .i64 0, .string ⟨#[]⟩, .int .i64 0]) 3 32 l Tryz.underlying59 (by kernel_rfl) hlen (by decide) (by decide)
  have HT := Lib.hid hT
  clear hT
  go_enter Tryz.func132, Tryz.ntmps132
  go_wp2
  have hT := HT.out
  clear hmk HT
  go_loopw [4] (fun i wr => ∃ (j : Nat) (Fs : List (List Nat)), i = .int .i64 j ∧ j ≤ l.length ∧ TInv 3 TyIOwn w w.heap.size l Fs j wr) (fun i _ => l.length - (intOf i).toNat)
  case atStart => exact ⟨0, [], rfl, Nat.zero_le _, hT⟩
  case round =>
    obtain ⟨j, Fs, rfl, hj, hI⟩ := hrel
    by_cases hlt : j < l.length
    · obtain ⟨b, o, rfl, hbw, hc⟩ := hR (by omega)
      have ex := TyIEl.st w wr b _ _ (Kept.of_below hI.bel) hbw (hc j hlt)
      clear hc hR hT
      have HI := Lib.hid hI
      have hg := hI.lt
      have hfr := hI.fr
      obtain ⟨y0, z0⟩ := hI.all (j * 3) (by omega)
      obtain ⟨y1, z1⟩ := hI.all (j * 3 + 1) (by omega)
      obtain ⟨y2, z2⟩ := hI.all (j * 3 + 2) (by omega)
      clear hI
      generalize hx : l[j] = x at *
      have HX := Lib.hid hx
      clear hx
      obtain ⟨⟨e0, i0⟩, ⟨e1, i1⟩, ⟨e2, i2⟩⟩ := ex
      go_wp2_with fail
      refine (toTyItem x _).mono ?_
      rintro e w1 ⟨rfl, hb1⟩
      have q0 := (hb1.cell (p := ⟨w.heap.size, j * 3, none⟩) hg).trans z0
      have q1 := (hb1.cell (p := ⟨w.heap.size, j * 3 + 1, none⟩) hg).trans z1
      have q2 := (hb1.cell (p := ⟨w.heap.size, j * 3 + 2, none⟩) hg).trans z2
      have hfr1 : ∀ i, w1.frozen? ⟨w.heap.size, i, none⟩ = false := fun i => (hb1.frozen (p := ⟨w.heap.size, i, none⟩) hg).trans (hfr i)
      clear z0 z1 z2 hfr e0 e1 e2
      go_wp2
      go_roundw
      case rel =>
        have hO := ((((Out.refl w.heap.size (j * 3) 3 [] wr).below hg hb1).set (j * 3) (.int .i64 x.var) ⟨by omega, by omega⟩).set (j * 3 + 1) (.string x.name) ⟨by omega, by omega⟩).set (j * 3 + 2) (.int .i64 x.arity) ⟨by omega, by omega⟩
        have hA : ∀ d, d < 3 → ∃ u, World.cell? (((w1.setCell ⟨w.heap.size, j * 3, none⟩ (.int .i64 x.var)).setCell ⟨w.heap.size, j * 3 + 1, none⟩ (.string x.name)).setCell ⟨w.heap.size, j * 3 + 2, none⟩ (.int .i64 x.arity)) ⟨w.heap.size, j * 3 + d, none⟩ = some u := fun d hd => by
          rcases (show d = 0 ∨ d = 1 ∨ d = 2 by omega) with rfl | rfl | rfl
          · exact ⟨_, (cell_off (by omega)).trans ((cell_off (by omega)).trans (World.cell?_setCell_same _ _ _ (q0)))⟩
          · exact ⟨_, (cell_off (by omega)).trans (World.cell?_setCell_same _ _ _ ((cell_off (by omega)).trans (q1)))⟩
          · exact ⟨_, World.cell?_setCell_same _ _ _ ((cell_off (by omega)).trans ((cell_off (by omega)).trans (q2)))⟩
        have hD : TyIOwn (((w1.setCell ⟨w.heap.size, j * 3, none⟩ (.int .i64 x.var)).setCell ⟨w.heap.size, j * 3 + 1, none⟩ (.string x.name)).setCell ⟨w.heap.size, j * 3 + 2, none⟩ (.int .i64 x.arity)) w.heap.size (j * 3) x ([]) := ⟨rfl, ⟨(cell_off (by omega)).trans ((cell_off (by omega)).trans (World.cell?_setCell_same _ _ _ (q0))), i0⟩, ⟨(cell_off (by omega)).trans (World.cell?_setCell_same _ _ _ ((cell_off (by omega)).trans (q1))), i1⟩, ⟨World.cell?_setCell_same _ _ _ ((cell_off (by omega)).trans ((cell_off (by omega)).trans (q2))), i2⟩⟩
        exact ⟨j + 1, Fs ++ [[]], by go_num, by omega, HI.out.step TyIOwn.loc TyIOwn.sized hlt (fun f hf => by simp at hf) List.nodup_nil hO hA (by rw [HX.out]; exact hD)⟩
      case measure => simp [intOf]; omega
    · obtain rfl : j = l.length := by omega
      go_wp2
      go_ret
      exact hI.fin rfl hm' rfl
def ToTyPost (x : List TyI) (w : World) (e : Ending) (w' : World) : Prop := ∃ (u0 : Value) (F0 : List Nat), e = .returned (.agg #[u0]) ∧ RowOwn 3 TyIOwn w' u0 x F0 ∧ (∀ g ∈ F0, w.heap.size ≤ g) ∧ (F0).Nodup ∧ Below w.heap.size w w'
set_option maxHeartbeats 1000000 in
theorem toTy (x : List TyI) (v0 : Value) (w : World) (r0 : RowRd 3 TyIEl w v0 x) (hz : bTy x ≤ 1048576) :
    Calls Tryz.prog 108 #[.agg #[v0]] w (ToTyPost x w) := by
  obtain ⟨a0, ca0, e0, -, -⟩ := r0.form
  subst e0
  simp only [bTy] at hz
  have HZ := Lib.hid hz
  clear hz
  go_enter Tryz.func108, Tryz.ntmps108
  go_wp2_with fail
  refine (toTyItemS x _ _ (r0.kept TyIEl.st (by repeat (first | with_reducible exact Kept.al3 _ _ _ _ | (with_reducible refine Kept.set ?_ _ (by omega)) ))) (by have := HZ.out; have := bulkL_len bTyI x; omega) (by have := HZ.out; omega)).mono ?_
  rintro e w1 ⟨u0, F0, rfl, ru0, hF0, hN0, hb1⟩
  obtain ⟨b0, cb0, e0, -, -⟩ := (ru0.reads TyIOwn.reads).form
  subst e0
  obtain ⟨hc1, hf1⟩ := bcell hb1
  have hz1 : w.heap.size + 2 < w1.heap.size := by have := hb1.size; simp at this; omega
  have hy1 : w.heap.size + 1 < w1.heap.size := by omega
  have hx1 : w.heap.size < w1.heap.size := by omega
  go_wp2
  refine bodyPost_ret (v := .agg #[.slice b0 x.length cb0]) (by simp [results, Tryz.results108, go_sem, hc1]) rfl ⟨_, F0, rfl, ?_, ?_, ?_, ?_⟩
  · repeat (first | with_reducible exact ru0 | (with_reducible refine RowOwn.set TyIOwn.loc TyIOwn.sized ?_ _ _ (fun e => by have := hF0 _ e; simp at this; omega)))
  · intro g hg; have := hF0 g hg; simp at this; omega
  · exact hN0
  · repeat (first | (with_reducible refine Below.setCell ?_ (by first | (simp; done) | (simp; omega) | (rw [setCell_size]; omega)) _) | with_reducible exact below_tr (Joins.below_alloc3 w _ _ _) hb1)
def ToPNodePost (x : PN) (w : World) (e : Ending) (w' : World) : Prop := ∃ (u3 : Value) (F3 : List Nat), e = .returned (.agg #[.int .i64 x.kind, .int .i64 x.n, .string x.s, u3]) ∧ RowOwn 1 (Flat IntEl) w' u3 x.kids F3 ∧ (∀ g ∈ F3, w.heap.size ≤ g) ∧ (F3).Nodup ∧ Below w.heap.size w w'
set_option maxHeartbeats 1000000 in
theorem toPNode (x : PN) (v3 : Value) (w : World) (r3 : RowRd 1 IntEl w v3 x.kids) (hz : bPN x ≤ 1048576) :
    Calls Tryz.prog 133 #[.agg #[.int .i64 x.kind, .int .i64 x.n, .string x.s, v3]] w (ToPNodePost x w) := by
  obtain ⟨a3, ca3, e3, -, -⟩ := r3.form
  subst e3
  simp only [bPN] at hz
  have HZ := Lib.hid hz
  clear hz
  go_enter Tryz.func133, Tryz.ntmps133
  go_wp2_with fail
  refine (toIntS x.kids _ _ (r3.kept IntEl.st (by repeat (first | with_reducible exact Kept.al3 _ _ _ _ | (with_reducible refine Kept.set ?_ _ (by omega)) ))) (by have := HZ.out; have := bulkL_len bInt x.kids; omega)).mono ?_
  rintro e w1 ⟨u3, F3, rfl, ru3, hF3, hN3, hb1⟩
  obtain ⟨b3, cb3, e3, -, -⟩ := (ru3.reads (Flat.reads IntEl)).form
  subst e3
  obtain ⟨hc1, hf1⟩ := bcell hb1
  have hz1 : w.heap.size + 2 < w1.heap.size := by have := hb1.size; simp at this; omega
  have hy1 : w.heap.size + 1 < w1.heap.size := by omega
  have hx1 : w.heap.size < w1.heap.size := by omega
  go_wp2
  refine bodyPost_ret (v := .agg #[.int .i64 x.kind, .int .i64 x.n, .string x.s, .slice b3 x.kids.length cb3]) (by simp [results, Tryz.results133, go_sem, hc1]) rfl ⟨_, F3, rfl, ?_, ?_, ?_, ?_⟩
  · repeat (first | with_reducible exact ru3 | (with_reducible refine RowOwn.set IntFlat.loc (Flat.sized IntEl) ?_ _ _ (fun e => by have := hF3 _ e; simp at this; omega)))
  · intro g hg; have := hF3 g hg; simp at this; omega
  · exact hN3
  · repeat (first | (with_reducible refine Below.setCell ?_ (by first | (simp; done) | (simp; omega) | (rw [setCell_size]; omega)) _) | with_reducible exact below_tr (Joins.below_alloc3 w _ _ _) hb1)
theorem toPNodeS (l : List PN) (v : Value) (w : World) (hR : RowRd 4 PNEl w v l) (hlen : l.length ≤ 1048576) (hz : bulkL bPN l ≤ 1048576) :
    Calls Tryz.prog 109 #[v] w (RowPost 4 PNOwn l w) := by
  obtain ⟨a, cap, rfl, hm, hR⟩ := hR.form
  have hm' := hm
  unfold maxLen at hm
  obtain ⟨W0, hmk, hT⟩ := make_t (P := Tryz.prog) (E := PNOwn) w 71 96 (.agg #[.int .i64 0, .int .i64 0, .string ⟨#[]⟩, .slice none 0 0]) 4 56 l Tryz.underlying71 (by kernel_rfl) hlen (by decide) (by decide)
  have HT := Lib.hid hT
  clear hT
  go_enter Tryz.func109, Tryz.ntmps109
  go_wp2
  have hT := HT.out
  clear hmk HT
  go_loopw [4] (fun i wr => ∃ (j : Nat) (Fs : List (List Nat)), i = .int .i64 j ∧ j ≤ l.length ∧ TInv 4 PNOwn w w.heap.size l Fs j wr) (fun i _ => l.length - (intOf i).toNat)
  case atStart => exact ⟨0, [], rfl, Nat.zero_le _, hT⟩
  case round =>
    obtain ⟨j, Fs, rfl, hj, hI⟩ := hrel
    by_cases hlt : j < l.length
    · obtain ⟨b, o, rfl, hbw, hc⟩ := hR (by omega)
      have ex := PNEl.st w wr b _ _ (Kept.of_below hI.bel) hbw (hc j hlt)
      have hbl := bulkL_mem bPN l j hlt
      have HBL := Lib.hid (show bPN l[j] ≤ 1048576 by omega)
      clear hbl
      clear hc hR hT
      have HI := Lib.hid hI
      have hg := hI.lt
      have hfr := hI.fr
      obtain ⟨y0, z0⟩ := hI.all (j * 4) (by omega)
      obtain ⟨y1, z1⟩ := hI.all (j * 4 + 1) (by omega)
      obtain ⟨y2, z2⟩ := hI.all (j * 4 + 2) (by omega)
      obtain ⟨y3, z3⟩ := hI.all (j * 4 + 3) (by omega)
      clear hI
      generalize hx : l[j] = x at *
      have HX := Lib.hid hx
      clear hx
      obtain ⟨⟨e0, i0⟩, ⟨e1, i1⟩, ⟨e2, i2⟩, ⟨v3, e3, r3⟩⟩ := ex
      obtain ⟨a3, ca3, rfl, -, -⟩ := r3.form
      go_wp2_with fail
      refine (toPNode x _ _ r3 HBL.out).mono ?_
      rintro e w1 ⟨u3, F3, rfl, ru3, hF, hN, hb1⟩
      obtain ⟨b3, cb3, e_3, -, -⟩ := (ru3.reads (Flat.reads IntEl)).form
      subst e_3
      have q0 := (hb1.cell (p := ⟨w.heap.size, j * 4, none⟩) hg).trans z0
      have q1 := (hb1.cell (p := ⟨w.heap.size, j * 4 + 1, none⟩) hg).trans z1
      have q2 := (hb1.cell (p := ⟨w.heap.size, j * 4 + 2, none⟩) hg).trans z2
      have q3 := (hb1.cell (p := ⟨w.heap.size, j * 4 + 3, none⟩) hg).trans z3
      have hfr1 : ∀ i, w1.frozen? ⟨w.heap.size, i, none⟩ = false := fun i => (hb1.frozen (p := ⟨w.heap.size, i, none⟩) hg).trans (hfr i)
      clear z0 z1 z2 z3 hfr e0 e1 e2 e3
      go_wp2
      go_roundw
      case rel =>
        have hO := (((((Out.refl w.heap.size (j * 4) 4 [] wr).below hg hb1).set (j * 4) (.int .i64 x.kind) ⟨by omega, by omega⟩).set (j * 4 + 1) (.int .i64 x.n) ⟨by omega, by omega⟩).set (j * 4 + 2) (.string x.s) ⟨by omega, by omega⟩).set (j * 4 + 3) (.slice b3 x.kids.length cb3) ⟨by omega, by omega⟩
        have hA : ∀ d, d < 4 → ∃ u, World.cell? ((((w1.setCell ⟨w.heap.size, j * 4, none⟩ (.int .i64 x.kind)).setCell ⟨w.heap.size, j * 4 + 1, none⟩ (.int .i64 x.n)).setCell ⟨w.heap.size, j * 4 + 2, none⟩ (.string x.s)).setCell ⟨w.heap.size, j * 4 + 3, none⟩ (.slice b3 x.kids.length cb3)) ⟨w.heap.size, j * 4 + d, none⟩ = some u := fun d hd => by
          rcases (show d = 0 ∨ d = 1 ∨ d = 2 ∨ d = 3 by omega) with rfl | rfl | rfl | rfl
          · exact ⟨_, (cell_off (by omega)).trans ((cell_off (by omega)).trans ((cell_off (by omega)).trans (World.cell?_setCell_same _ _ _ (q0))))⟩
          · exact ⟨_, (cell_off (by omega)).trans ((cell_off (by omega)).trans (World.cell?_setCell_same _ _ _ ((cell_off (by omega)).trans (q1))))⟩
          · exact ⟨_, (cell_off (by omega)).trans (World.cell?_setCell_same _ _ _ ((cell_off (by omega)).trans ((cell_off (by omega)).trans (q2))))⟩
          · exact ⟨_, World.cell?_setCell_same _ _ _ ((cell_off (by omega)).trans ((cell_off (by omega)).trans ((cell_off (by omega)).trans (q3))))⟩
        have hD : PNOwn ((((w1.setCell ⟨w.heap.size, j * 4, none⟩ (.int .i64 x.kind)).setCell ⟨w.heap.size, j * 4 + 1, none⟩ (.int .i64 x.n)).setCell ⟨w.heap.size, j * 4 + 2, none⟩ (.string x.s)).setCell ⟨w.heap.size, j * 4 + 3, none⟩ (.slice b3 x.kids.length cb3)) w.heap.size (j * 4) x (F3) := ⟨F3, rfl, ⟨(cell_off (by omega)).trans ((cell_off (by omega)).trans ((cell_off (by omega)).trans (World.cell?_setCell_same _ _ _ (q0)))), i0⟩, ⟨(cell_off (by omega)).trans ((cell_off (by omega)).trans (World.cell?_setCell_same _ _ _ ((cell_off (by omega)).trans (q1)))), i1⟩, ⟨(cell_off (by omega)).trans (World.cell?_setCell_same _ _ _ ((cell_off (by omega)).trans ((cell_off (by omega)).trans (q2)))), i2⟩, ⟨_, World.cell?_setCell_same _ _ _ ((cell_off (by omega)).trans ((cell_off (by omega)).trans ((cell_off (by omega)).trans (q3)))), ((((ru3).set IntFlat.loc (Flat.sized IntEl) (j * 4) (.int .i64 x.kind) (fun e => absurd (hF _ (e)) (by omega))).set IntFlat.loc (Flat.sized IntEl) (j * 4 + 1) (.int .i64 x.n) (fun e => absurd (hF _ (e)) (by omega))).set IntFlat.loc (Flat.sized IntEl) (j * 4 + 2) (.string x.s) (fun e => absurd (hF _ (e)) (by omega))).set IntFlat.loc (Flat.sized IntEl) (j * 4 + 3) (.slice b3 x.kids.length cb3) (fun e => absurd (hF _ (e)) (by omega))⟩⟩
        exact ⟨j + 1, Fs ++ [F3], by go_num, by omega, HI.out.step PNOwn.loc PNOwn.sized hlt hF hN hO hA (by rw [HX.out]; exact hD)⟩
      case measure => simp [intOf]; omega
    · obtain rfl : j = l.length := by omega
      go_wp2
      go_ret
      exact hI.fin rfl hm' rfl
def ToPatPost (x : List PN) (w : World) (e : Ending) (w' : World) : Prop := ∃ (u0 : Value) (F0 : List Nat), e = .returned (.agg #[u0]) ∧ RowOwn 4 PNOwn w' u0 x F0 ∧ (∀ g ∈ F0, w.heap.size ≤ g) ∧ (F0).Nodup ∧ Below w.heap.size w w'
set_option maxHeartbeats 1000000 in
theorem toPat (x : List PN) (v0 : Value) (w : World) (r0 : RowRd 4 PNEl w v0 x) (hz : bPat x ≤ 1048576) :
    Calls Tryz.prog 86 #[.agg #[v0]] w (ToPatPost x w) := by
  obtain ⟨a0, ca0, e0, -, -⟩ := r0.form
  subst e0
  simp only [bPat] at hz
  have HZ := Lib.hid hz
  clear hz
  go_enter Tryz.func86, Tryz.ntmps86
  go_wp2_with fail
  refine (toPNodeS x _ _ (r0.kept PNEl.st (by repeat (first | with_reducible exact Kept.al3 _ _ _ _ | (with_reducible refine Kept.set ?_ _ (by omega)) ))) (by have := HZ.out; have := bulkL_len bPN x; omega) (by have := HZ.out; omega)).mono ?_
  rintro e w1 ⟨u0, F0, rfl, ru0, hF0, hN0, hb1⟩
  obtain ⟨b0, cb0, e0, -, -⟩ := (ru0.reads PNOwn.reads).form
  subst e0
  obtain ⟨hc1, hf1⟩ := bcell hb1
  have hz1 : w.heap.size + 2 < w1.heap.size := by have := hb1.size; simp at this; omega
  have hy1 : w.heap.size + 1 < w1.heap.size := by omega
  have hx1 : w.heap.size < w1.heap.size := by omega
  go_wp2
  refine bodyPost_ret (v := .agg #[.slice b0 x.length cb0]) (by simp [results, Tryz.results86, go_sem, hc1]) rfl ⟨_, F0, rfl, ?_, ?_, ?_, ?_⟩
  · repeat (first | with_reducible exact ru0 | (with_reducible refine RowOwn.set PNOwn.loc PNOwn.sized ?_ _ _ (fun e => by have := hF0 _ e; simp at this; omega)))
  · intro g hg; have := hF0 g hg; simp at this; omega
  · exact hN0
  · repeat (first | (with_reducible refine Below.setCell ?_ (by first | (simp; done) | (simp; omega) | (rw [setCell_size]; omega)) _) | with_reducible exact below_tr (Joins.below_alloc3 w _ _ _) hb1)
theorem toPatS (l : List (List PN)) (v : Value) (w : World) (hR : RowRd 1 PatEl w v l) (hlen : l.length ≤ 1048576) (hz : bulkL bPat l ≤ 1048576) :
    Calls Tryz.prog 56 #[v] w (RowPost 1 PatOwn l w) := by
  obtain ⟨a, cap, rfl, hm, hR⟩ := hR.form
  have hm' := hm
  unfold maxLen at hm
  obtain ⟨W0, hmk, hT⟩ := make_t (P := Tryz.prog) (E := PatOwn) w 65 73 (.agg #[.slice none 0 0]) 1 24 l Tryz.underlying65 (by kernel_rfl) hlen (by decide) (by decide)
  have HT := Lib.hid hT
  clear hT
  go_enter Tryz.func56, Tryz.ntmps56
  go_wp2
  have hT := HT.out
  clear hmk HT
  go_loopw [4] (fun i wr => ∃ (j : Nat) (Fs : List (List Nat)), i = .int .i64 j ∧ j ≤ l.length ∧ TInv 1 PatOwn w w.heap.size l Fs j wr) (fun i _ => l.length - (intOf i).toNat)
  case atStart => exact ⟨0, [], rfl, Nat.zero_le _, hT⟩
  case round =>
    obtain ⟨j, Fs, rfl, hj, hI⟩ := hrel
    by_cases hlt : j < l.length
    · obtain ⟨b, o, rfl, hbw, hc⟩ := hR (by omega)
      have ex := PatEl.st w wr b _ _ (Kept.of_below hI.bel) hbw (hc j hlt)
      have hbl := bulkL_mem bPat l j hlt
      have HBL := Lib.hid (show bPat l[j] ≤ 1048576 by omega)
      clear hbl
      clear hc hR hT
      have HI := Lib.hid hI
      have hg := hI.lt
      have hfr := hI.fr
      obtain ⟨y0, z0⟩ := hI.all (j) (by omega)
      clear hI
      generalize hx : l[j] = x at *
      have HX := Lib.hid hx
      clear hx
      obtain ⟨v0, e0, r0⟩ := ex
      obtain ⟨a0, ca0, rfl, -, -⟩ := r0.form
      rw [Nat.mul_one] at e0
      go_wp2_with fail
      refine (toPat x _ _ r0 HBL.out).mono ?_
      rintro e w1 ⟨u0, F0, rfl, ru0, hF, hN, hb1⟩
      obtain ⟨b0, cb0, e_0, -, -⟩ := (ru0.reads PNOwn.reads).form
      subst e_0
      have q0 := (hb1.cell (p := ⟨w.heap.size, j, none⟩) hg).trans z0
      have hfr1 : ∀ i, w1.frozen? ⟨w.heap.size, i, none⟩ = false := fun i => (hb1.frozen (p := ⟨w.heap.size, i, none⟩) hg).trans (hfr i)
      clear z0 hfr e0
      go_wp2
      go_roundw
      case rel =>
        have hO := ((Out.refl w.heap.size (j) 1 [] wr).below hg hb1).set (j) (.slice b0 x.length cb0) ⟨by omega, by omega⟩
        have hA : ∀ d, d < 1 → ∃ u, World.cell? (w1.setCell ⟨w.heap.size, j, none⟩ (.slice b0 x.length cb0)) ⟨w.heap.size, j + d, none⟩ = some u := fun d hd => by
          obtain rfl : d = 0 := by omega
          exact ⟨_, World.cell?_setCell_same _ _ _ (q0)⟩
        have hD : PatOwn (w1.setCell ⟨w.heap.size, j, none⟩ (.slice b0 x.length cb0)) w.heap.size (j) x (F0) := ⟨_, World.cell?_setCell_same _ _ _ (q0), (ru0).set PNOwn.loc PNOwn.sized (j) (.slice b0 x.length cb0) (fun e => absurd (hF _ (e)) (by omega))⟩
        exact ⟨j + 1, Fs ++ [F0], by go_num, by omega, HI.out.step PatOwn.loc PatOwn.sized hlt hF hN (by rw [Nat.mul_one]; exact hO) (by rw [Nat.mul_one]; exact hA) (by rw [HX.out, Nat.mul_one]; exact hD)⟩
      case measure => simp [intOf]; omega
    · obtain rfl : j = l.length := by omega
      go_wp2
      go_ret
      exact hI.fin rfl hm' rfl
def ToConPost (x : Cn) (w : World) (e : Ending) (w' : World) : Prop := ∃ (u2 : Value) (F2 : List Nat), e = .returned (.agg #[.string x.name, .bool x.has, u2]) ∧ RowOwn 3 TyIOwn w' u2 x.arg F2 ∧ (∀ g ∈ F2, w.heap.size ≤ g) ∧ (F2).Nodup ∧ Below w.heap.size w w'
set_option maxHeartbeats 1000000 in
theorem toCon (x : Cn) (v2 : Value) (w : World) (r2 : RowRd 3 TyIEl w v2 x.arg) (hz : bCn x ≤ 1048576) :
    Calls Tryz.prog 85 #[.agg #[.string x.name, .bool x.has, v2]] w (ToConPost x w) := by
  obtain ⟨a2, ca2, e2, -, -⟩ := r2.form
  subst e2
  simp only [bCn, bTy] at hz
  have HZ := Lib.hid hz
  clear hz
  go_enter Tryz.func85, Tryz.ntmps85
  go_wp2_with fail
  refine (toTy x.arg _ _ (r2.kept TyIEl.st (by repeat (first | with_reducible exact Kept.al3 _ _ _ _ | (with_reducible refine Kept.set ?_ _ (by omega)) ))) (by have := HZ.out; simp only [bTy]; omega)).mono ?_
  rintro e w1 ⟨u2, F2, rfl, ru2, hF2, hN2, hb1⟩
  obtain ⟨b2, cb2, e2, -, -⟩ := (ru2.reads TyIOwn.reads).form
  subst e2
  obtain ⟨hc1, hf1⟩ := bcell hb1
  have hz1 : w.heap.size + 2 < w1.heap.size := by have := hb1.size; simp at this; omega
  have hy1 : w.heap.size + 1 < w1.heap.size := by omega
  have hx1 : w.heap.size < w1.heap.size := by omega
  go_wp2
  refine bodyPost_ret (v := .agg #[.string x.name, .bool x.has, .slice b2 x.arg.length cb2]) (by simp [results, Tryz.results85, go_sem, hc1]) rfl ⟨_, F2, rfl, ?_, ?_, ?_, ?_⟩
  · repeat (first | with_reducible exact ru2 | (with_reducible refine RowOwn.set TyIOwn.loc TyIOwn.sized ?_ _ _ (fun e => by have := hF2 _ e; simp at this; omega)))
  · intro g hg; have := hF2 g hg; simp at this; omega
  · exact hN2
  · repeat (first | (with_reducible refine Below.setCell ?_ (by first | (simp; done) | (simp; omega) | (rw [setCell_size]; omega)) _) | with_reducible exact below_tr (Joins.below_alloc3 w _ _ _) hb1)
theorem toConS (l : List Cn) (v : Value) (w : World) (hR : RowRd 3 CnEl w v l) (hlen : l.length ≤ 1048576) (hz : bulkL bCn l ≤ 1048576) :
    Calls Tryz.prog 54 #[v] w (RowPost 3 CnOwn l w) := by
  obtain ⟨a, cap, rfl, hm, hR⟩ := hR.form
  have hm' := hm
  unfold maxLen at hm
  obtain ⟨W0, hmk, hT⟩ := make_t (P := Tryz.prog) (E := CnOwn) w 55 63 (.agg #[.string ⟨#[]⟩, .bool false, .slice none 0 0]) 3 48 l Tryz.underlying55 (by kernel_rfl) hlen (by decide) (by decide)
  have HT := Lib.hid hT
  clear hT
  go_enter Tryz.func54, Tryz.ntmps54
  go_wp2
  have hT := HT.out
  clear hmk HT
  go_loopw [4] (fun i wr => ∃ (j : Nat) (Fs : List (List Nat)), i = .int .i64 j ∧ j ≤ l.length ∧ TInv 3 CnOwn w w.heap.size l Fs j wr) (fun i _ => l.length - (intOf i).toNat)
  case atStart => exact ⟨0, [], rfl, Nat.zero_le _, hT⟩
  case round =>
    obtain ⟨j, Fs, rfl, hj, hI⟩ := hrel
    by_cases hlt : j < l.length
    · obtain ⟨b, o, rfl, hbw, hc⟩ := hR (by omega)
      have ex := CnEl.st w wr b _ _ (Kept.of_below hI.bel) hbw (hc j hlt)
      have hbl := bulkL_mem bCn l j hlt
      have HBL := Lib.hid (show bCn l[j] ≤ 1048576 by omega)
      clear hbl
      clear hc hR hT
      have HI := Lib.hid hI
      have hg := hI.lt
      have hfr := hI.fr
      obtain ⟨y0, z0⟩ := hI.all (j * 3) (by omega)
      obtain ⟨y1, z1⟩ := hI.all (j * 3 + 1) (by omega)
      obtain ⟨y2, z2⟩ := hI.all (j * 3 + 2) (by omega)
      clear hI
      generalize hx : l[j] = x at *
      have HX := Lib.hid hx
      clear hx
      obtain ⟨⟨e0, i0⟩, e1, ⟨v2, e2, r2⟩⟩ := ex
      unfold BoolEl at e1
      obtain ⟨a2, ca2, rfl, -, -⟩ := r2.form
      go_wp2_with fail
      refine (toCon x _ _ r2 HBL.out).mono ?_
      rintro e w1 ⟨u2, F2, rfl, ru2, hF, hN, hb1⟩
      obtain ⟨b2, cb2, e_2, -, -⟩ := (ru2.reads TyIOwn.reads).form
      subst e_2
      have q0 := (hb1.cell (p := ⟨w.heap.size, j * 3, none⟩) hg).trans z0
      have q1 := (hb1.cell (p := ⟨w.heap.size, j * 3 + 1, none⟩) hg).trans z1
      have q2 := (hb1.cell (p := ⟨w.heap.size, j * 3 + 2, none⟩) hg).trans z2
      have hfr1 : ∀ i, w1.frozen? ⟨w.heap.size, i, none⟩ = false := fun i => (hb1.frozen (p := ⟨w.heap.size, i, none⟩) hg).trans (hfr i)
      clear z0 z1 z2 hfr e0 e1 e2
      go_wp2
      go_roundw
      case rel =>
        have hO := ((((Out.refl w.heap.size (j * 3) 3 [] wr).below hg hb1).set (j * 3) (.string x.name) ⟨by omega, by omega⟩).set (j * 3 + 1) (.bool x.has) ⟨by omega, by omega⟩).set (j * 3 + 2) (.slice b2 x.arg.length cb2) ⟨by omega, by omega⟩
        have hA : ∀ d, d < 3 → ∃ u, World.cell? (((w1.setCell ⟨w.heap.size, j * 3, none⟩ (.string x.name)).setCell ⟨w.heap.size, j * 3 + 1, none⟩ (.bool x.has)).setCell ⟨w.heap.size, j * 3 + 2, none⟩ (.slice b2 x.arg.length cb2)) ⟨w.heap.size, j * 3 + d, none⟩ = some u := fun d hd => by
          rcases (show d = 0 ∨ d = 1 ∨ d = 2 by omega) with rfl | rfl | rfl
          · exact ⟨_, (cell_off (by omega)).trans ((cell_off (by omega)).trans (World.cell?_setCell_same _ _ _ (q0)))⟩
          · exact ⟨_, (cell_off (by omega)).trans (World.cell?_setCell_same _ _ _ ((cell_off (by omega)).trans (q1)))⟩
          · exact ⟨_, World.cell?_setCell_same _ _ _ ((cell_off (by omega)).trans ((cell_off (by omega)).trans (q2)))⟩
        have hD : CnOwn (((w1.setCell ⟨w.heap.size, j * 3, none⟩ (.string x.name)).setCell ⟨w.heap.size, j * 3 + 1, none⟩ (.bool x.has)).setCell ⟨w.heap.size, j * 3 + 2, none⟩ (.slice b2 x.arg.length cb2)) w.heap.size (j * 3) x (F2) := ⟨F2, rfl, ⟨(cell_off (by omega)).trans ((cell_off (by omega)).trans (World.cell?_setCell_same _ _ _ (q0))), i0⟩, (cell_off (by omega)).trans (World.cell?_setCell_same _ _ _ ((cell_off (by omega)).trans (q1))), ⟨_, World.cell?_setCell_same _ _ _ ((cell_off (by omega)).trans ((cell_off (by omega)).trans (q2))), (((ru2).set TyIOwn.loc TyIOwn.sized (j * 3) (.string x.name) (fun e => absurd (hF _ (e)) (by omega))).set TyIOwn.loc TyIOwn.sized (j * 3 + 1) (.bool x.has) (fun e => absurd (hF _ (e)) (by omega))).set TyIOwn.loc TyIOwn.sized (j * 3 + 2) (.slice b2 x.arg.length cb2) (fun e => absurd (hF _ (e)) (by omega))⟩⟩
        exact ⟨j + 1, Fs ++ [F2], by go_num, by omega, HI.out.step CnOwn.loc CnOwn.sized hlt hF hN hO hA (by rw [HX.out]; exact hD)⟩
      case measure => simp [intOf]; omega
    · obtain rfl : j = l.length := by omega
      go_wp2
      go_ret
      exact hI.fin rfl hm' rfl
def ToTypePost (x : Tp) (w : World) (e : Ending) (w' : World) : Prop := ∃ (u2 : Value) (F2 : List Nat), e = .returned (.agg #[.string x.name, .int .i64 x.params, u2]) ∧ RowOwn 3 CnOwn w' u2 x.cons F2 ∧ (∀ g ∈ F2, w.heap.size ≤ g) ∧ (F2).Nodup ∧ Below w.heap.size w w'
set_option maxHeartbeats 1000000 in
theorem toType (x : Tp) (v2 : Value) (w : World) (r2 : RowRd 3 CnEl w v2 x.cons) (hz : bTp x ≤ 1048576) :
    Calls Tryz.prog 30 #[.agg #[.string x.name, .int .i64 x.params, v2]] w (ToTypePost x w) := by
  obtain ⟨a2, ca2, e2, -, -⟩ := r2.form
  subst e2
  simp only [bTp] at hz
  have HZ := Lib.hid hz
  clear hz
  go_enter Tryz.func30, Tryz.ntmps30
  go_wp2_with fail
  refine (toConS x.cons _ _ (r2.kept CnEl.st (by repeat (first | with_reducible exact Kept.al3 _ _ _ _ | (with_reducible refine Kept.set ?_ _ (by omega)) ))) (by have := HZ.out; have := bulkL_len bCn x.cons; omega) (by have := HZ.out; omega)).mono ?_
  rintro e w1 ⟨u2, F2, rfl, ru2, hF2, hN2, hb1⟩
  obtain ⟨b2, cb2, e2, -, -⟩ := (ru2.reads CnOwn.reads).form
  subst e2
  obtain ⟨hc1, hf1⟩ := bcell hb1
  have hz1 : w.heap.size + 2 < w1.heap.size := by have := hb1.size; simp at this; omega
  have hy1 : w.heap.size + 1 < w1.heap.size := by omega
  have hx1 : w.heap.size < w1.heap.size := by omega
  go_wp2
  refine bodyPost_ret (v := .agg #[.string x.name, .int .i64 x.params, .slice b2 x.cons.length cb2]) (by simp [results, Tryz.results30, go_sem, hc1]) rfl ⟨_, F2, rfl, ?_, ?_, ?_, ?_⟩
  · repeat (first | with_reducible exact ru2 | (with_reducible refine RowOwn.set CnOwn.loc CnOwn.sized ?_ _ _ (fun e => by have := hF2 _ e; simp at this; omega)))
  · intro g hg; have := hF2 g hg; simp at this; omega
  · exact hN2
  · repeat (first | (with_reducible refine Below.setCell ?_ (by first | (simp; done) | (simp; omega) | (rw [setCell_size]; omega)) _) | with_reducible exact below_tr (Joins.below_alloc3 w _ _ _) hb1)
theorem toTypeS (l : List Tp) (v : Value) (w : World) (hR : RowRd 3 TpEl w v l) (hlen : l.length ≤ 1048576) (hz : bulkL bTp l ≤ 1048576) :
    Calls Tryz.prog 16 #[v] w (RowPost 3 TpOwn l w) := by
  obtain ⟨a, cap, rfl, hm, hR⟩ := hR.form
  have hm' := hm
  unfold maxLen at hm
  obtain ⟨W0, hmk, hT⟩ := make_t (P := Tryz.prog) (E := TpOwn) w 28 57 (.agg #[.string ⟨#[]⟩, .int .i64 0, .slice none 0 0]) 3 48 l Tryz.underlying28 (by kernel_rfl) hlen (by decide) (by decide)
  have HT := Lib.hid hT
  clear hT
  go_enter Tryz.func16, Tryz.ntmps16
  go_wp2
  have hT := HT.out
  clear hmk HT
  go_loopw [4] (fun i wr => ∃ (j : Nat) (Fs : List (List Nat)), i = .int .i64 j ∧ j ≤ l.length ∧ TInv 3 TpOwn w w.heap.size l Fs j wr) (fun i _ => l.length - (intOf i).toNat)
  case atStart => exact ⟨0, [], rfl, Nat.zero_le _, hT⟩
  case round =>
    obtain ⟨j, Fs, rfl, hj, hI⟩ := hrel
    by_cases hlt : j < l.length
    · obtain ⟨b, o, rfl, hbw, hc⟩ := hR (by omega)
      have ex := TpEl.st w wr b _ _ (Kept.of_below hI.bel) hbw (hc j hlt)
      have hbl := bulkL_mem bTp l j hlt
      have HBL := Lib.hid (show bTp l[j] ≤ 1048576 by omega)
      clear hbl
      clear hc hR hT
      have HI := Lib.hid hI
      have hg := hI.lt
      have hfr := hI.fr
      obtain ⟨y0, z0⟩ := hI.all (j * 3) (by omega)
      obtain ⟨y1, z1⟩ := hI.all (j * 3 + 1) (by omega)
      obtain ⟨y2, z2⟩ := hI.all (j * 3 + 2) (by omega)
      clear hI
      generalize hx : l[j] = x at *
      have HX := Lib.hid hx
      clear hx
      obtain ⟨⟨e0, i0⟩, ⟨e1, i1⟩, ⟨v2, e2, r2⟩⟩ := ex
      obtain ⟨a2, ca2, rfl, -, -⟩ := r2.form
      go_wp2_with fail
      refine (toType x _ _ r2 HBL.out).mono ?_
      rintro e w1 ⟨u2, F2, rfl, ru2, hF, hN, hb1⟩
      obtain ⟨b2, cb2, e_2, -, -⟩ := (ru2.reads CnOwn.reads).form
      subst e_2
      have q0 := (hb1.cell (p := ⟨w.heap.size, j * 3, none⟩) hg).trans z0
      have q1 := (hb1.cell (p := ⟨w.heap.size, j * 3 + 1, none⟩) hg).trans z1
      have q2 := (hb1.cell (p := ⟨w.heap.size, j * 3 + 2, none⟩) hg).trans z2
      have hfr1 : ∀ i, w1.frozen? ⟨w.heap.size, i, none⟩ = false := fun i => (hb1.frozen (p := ⟨w.heap.size, i, none⟩) hg).trans (hfr i)
      clear z0 z1 z2 hfr e0 e1 e2
      go_wp2
      go_roundw
      case rel =>
        have hO := ((((Out.refl w.heap.size (j * 3) 3 [] wr).below hg hb1).set (j * 3) (.string x.name) ⟨by omega, by omega⟩).set (j * 3 + 1) (.int .i64 x.params) ⟨by omega, by omega⟩).set (j * 3 + 2) (.slice b2 x.cons.length cb2) ⟨by omega, by omega⟩
        have hA : ∀ d, d < 3 → ∃ u, World.cell? (((w1.setCell ⟨w.heap.size, j * 3, none⟩ (.string x.name)).setCell ⟨w.heap.size, j * 3 + 1, none⟩ (.int .i64 x.params)).setCell ⟨w.heap.size, j * 3 + 2, none⟩ (.slice b2 x.cons.length cb2)) ⟨w.heap.size, j * 3 + d, none⟩ = some u := fun d hd => by
          rcases (show d = 0 ∨ d = 1 ∨ d = 2 by omega) with rfl | rfl | rfl
          · exact ⟨_, (cell_off (by omega)).trans ((cell_off (by omega)).trans (World.cell?_setCell_same _ _ _ (q0)))⟩
          · exact ⟨_, (cell_off (by omega)).trans (World.cell?_setCell_same _ _ _ ((cell_off (by omega)).trans (q1)))⟩
          · exact ⟨_, World.cell?_setCell_same _ _ _ ((cell_off (by omega)).trans ((cell_off (by omega)).trans (q2)))⟩
        have hD : TpOwn (((w1.setCell ⟨w.heap.size, j * 3, none⟩ (.string x.name)).setCell ⟨w.heap.size, j * 3 + 1, none⟩ (.int .i64 x.params)).setCell ⟨w.heap.size, j * 3 + 2, none⟩ (.slice b2 x.cons.length cb2)) w.heap.size (j * 3) x (F2) := ⟨F2, rfl, ⟨(cell_off (by omega)).trans ((cell_off (by omega)).trans (World.cell?_setCell_same _ _ _ (q0))), i0⟩, ⟨(cell_off (by omega)).trans (World.cell?_setCell_same _ _ _ ((cell_off (by omega)).trans (q1))), i1⟩, ⟨_, World.cell?_setCell_same _ _ _ ((cell_off (by omega)).trans ((cell_off (by omega)).trans (q2))), (((ru2).set CnOwn.loc CnOwn.sized (j * 3) (.string x.name) (fun e => absurd (hF _ (e)) (by omega))).set CnOwn.loc CnOwn.sized (j * 3 + 1) (.int .i64 x.params) (fun e => absurd (hF _ (e)) (by omega))).set CnOwn.loc CnOwn.sized (j * 3 + 2) (.slice b2 x.cons.length cb2) (fun e => absurd (hF _ (e)) (by omega))⟩⟩
        exact ⟨j + 1, Fs ++ [F2], by go_num, by omega, HI.out.step TpOwn.loc TpOwn.sized hlt hF hN hO hA (by rw [HX.out]; exact hD)⟩
      case measure => simp [intOf]; omega
    · obtain rfl : j = l.length := by omega
      go_wp2
      go_ret
      exact hI.fin rfl hm' rfl
def ToNodePost (x : Nd) (w : World) (e : Ending) (w' : World) : Prop := ∃ (u4 u5 : Value) (F4 F5 : List Nat), e = .returned (.agg #[.int .i64 x.kind, .int .i64 x.at_, .int .i64 x.n, .string x.s, u4, u5]) ∧ RowOwn 1 (Flat IntEl) w' u4 x.kids F4 ∧ RowOwn 1 PatOwn w' u5 x.pats F5 ∧ (∀ g ∈ F4 ++ F5, w.heap.size ≤ g) ∧ (F4 ++ F5).Nodup ∧ Below w.heap.size w w'
set_option maxHeartbeats 1000000 in
theorem toNode (x : Nd) (v4 : Value) (v5 : Value) (w : World) (r4 : RowRd 1 IntEl w v4 x.kids) (r5 : RowRd 1 PatEl w v5 x.pats) (hz : bNd x ≤ 1048576) :
    Calls Tryz.prog 31 #[.agg #[.int .i64 x.kind, .int .i64 x.at_, .int .i64 x.n, .string x.s, v4, v5]] w (ToNodePost x w) := by
  obtain ⟨a4, ca4, e4, -, -⟩ := r4.form
  subst e4
  obtain ⟨a5, ca5, e5, -, -⟩ := r5.form
  subst e5
  simp only [bNd] at hz
  have HZ := Lib.hid hz
  clear hz
  go_enter Tryz.func31, Tryz.ntmps31
  go_wp2_with fail
  refine (toIntS x.kids _ _ (r4.kept IntEl.st (by repeat (first | with_reducible exact Kept.al3 _ _ _ _ | (with_reducible refine Kept.set ?_ _ (by omega)) ))) (by have := HZ.out; have := bulkL_len bInt x.kids; omega)).mono ?_
  rintro e w1 ⟨u4, F4, rfl, ru4, hF4, hN4, hb1⟩
  obtain ⟨b4, cb4, e4, -, -⟩ := (ru4.reads (Flat.reads IntEl)).form
  subst e4
  obtain ⟨hc1, hf1⟩ := bcell hb1
  have hz1 : w.heap.size + 2 < w1.heap.size := by have := hb1.size; simp at this; omega
  have hy1 : w.heap.size + 1 < w1.heap.size := by omega
  have hx1 : w.heap.size < w1.heap.size := by omega
  go_wp2_with fail
  refine (toPatS x.pats _ _ (r5.kept PatEl.st (by repeat (first | with_reducible exact Kept.al3 _ _ _ _ | with_reducible exact (Kept.al3 _ _ _ _).trans (Kept.of_below hb1) | (with_reducible refine Kept.set ?_ _ (by omega)) ))) (by have := HZ.out; have := bulkL_len bPat x.pats; omega) (by have := HZ.out; omega)).mono ?_
  rintro e w2 ⟨u5, F5, rfl, ru5, hF5, hN5, hb2⟩
  obtain ⟨b5, cb5, e5, -, -⟩ := (ru5.reads PatOwn.reads).form
  subst e5
  obtain ⟨hc2, hf2⟩ := bcell hb2
  simp only [setCell_size] at hc2 hf2
  have hz2 : w.heap.size + 2 < w2.heap.size := by have := hb2.size; rw [setCell_size] at this; omega
  have hy2 : w.heap.size + 1 < w2.heap.size := by omega
  have hx2 : w.heap.size < w2.heap.size := by omega
  go_wp2
  refine bodyPost_ret (v := .agg #[.int .i64 x.kind, .int .i64 x.at_, .int .i64 x.n, .string x.s, .slice b4 x.kids.length cb4, .slice b5 x.pats.length cb5]) (by simp [results, Tryz.results31, go_sem, hc1, hy1, hc2]) rfl ⟨_, _, F4, F5, rfl, ?_, ?_, ?_, ?_, ?_⟩
  · repeat (first | with_reducible exact ru4 | (with_reducible refine RowOwn.set IntFlat.loc (Flat.sized IntEl) ?_ _ _ (fun e => by have := hF4 _ e; simp at this; omega)) | (with_reducible refine RowOwn.kept IntFlat.loc (Flat.sized IntEl) ?_ hb2))
  · repeat (first | with_reducible exact ru5 | (with_reducible refine RowOwn.set PatOwn.loc PatOwn.sized ?_ _ _ (fun e => by have := hF5 _ e; rw [setCell_size] at this; omega)))
  · intro g hg; rcases List.mem_append.1 hg with hg | hg
    · have := hF4 g hg; simp at this; omega
    · have := hF5 g hg; rw [setCell_size] at this; omega
  · exact List.nodup_append.2 ⟨hN4, hN5, fun a ha b hb => by have h1 := ru4.sized (Flat.sized IntEl) a ha; have h2 := hF5 b hb; rw [setCell_size] at h2; omega⟩
  · repeat (first | (with_reducible refine Below.setCell ?_ (by first | (simp; done) | (simp; omega) | (rw [setCell_size]; omega)) _) | (with_reducible refine Below.trans ?_ (hb2.mono (by first | (simp; done) | (simp; omega) | (rw [setCell_size]; omega)))) | with_reducible exact below_tr (Joins.below_alloc3 w _ _ _) hb1)
theorem toNodeS (l : List Nd) (v : Value) (w : World) (hR : RowRd 6 NdEl w v l) (hlen : l.length ≤ 1048576) (hz : bulkL bNd l ≤ 1048576) :
    Calls Tryz.prog 17 #[v] w (RowPost 6 NdOwn l w) := by
  obtain ⟨a, cap, rfl, hm, hR⟩ := hR.form
  have hm' := hm
  unfold maxLen at hm
  obtain ⟨W0, hmk, hT⟩ := make_t (P := Tryz.prog) (E := NdOwn) w 29 67 (.agg #[.int .i64 0, .int .i64 0, .int .i64 0, .string ⟨#[]⟩, .slice none 0 0, .slice none 0 0]) 6 88 l Tryz.underlying29 (by kernel_rfl) hlen (by decide) (by decide)
  have HT := Lib.hid hT
  clear hT
  go_enter Tryz.func17, Tryz.ntmps17
  go_wp2
  have hT := HT.out
  clear hmk HT
  go_loopw [4] (fun i wr => ∃ (j : Nat) (Fs : List (List Nat)), i = .int .i64 j ∧ j ≤ l.length ∧ TInv 6 NdOwn w w.heap.size l Fs j wr) (fun i _ => l.length - (intOf i).toNat)
  case atStart => exact ⟨0, [], rfl, Nat.zero_le _, hT⟩
  case round =>
    obtain ⟨j, Fs, rfl, hj, hI⟩ := hrel
    by_cases hlt : j < l.length
    · obtain ⟨b, o, rfl, hbw, hc⟩ := hR (by omega)
      have ex := NdEl.st w wr b _ _ (Kept.of_below hI.bel) hbw (hc j hlt)
      have hbl := bulkL_mem bNd l j hlt
      have HBL := Lib.hid (show bNd l[j] ≤ 1048576 by omega)
      clear hbl
      clear hc hR hT
      have HI := Lib.hid hI
      have hg := hI.lt
      have hfr := hI.fr
      obtain ⟨y0, z0⟩ := hI.all (j * 6) (by omega)
      obtain ⟨y1, z1⟩ := hI.all (j * 6 + 1) (by omega)
      obtain ⟨y2, z2⟩ := hI.all (j * 6 + 2) (by omega)
      obtain ⟨y3, z3⟩ := hI.all (j * 6 + 3) (by omega)
      obtain ⟨y4, z4⟩ := hI.all (j * 6 + 4) (by omega)
      obtain ⟨y5, z5⟩ := hI.all (j * 6 + 5) (by omega)
      clear hI
      generalize hx : l[j] = x at *
      have HX := Lib.hid hx
      clear hx
      obtain ⟨⟨e0, i0⟩, ⟨e1, i1⟩, ⟨e2, i2⟩, ⟨e3, i3⟩, ⟨v4, e4, r4⟩, ⟨v5, e5, r5⟩⟩ := ex
      obtain ⟨a4, ca4, rfl, -, -⟩ := r4.form
      obtain ⟨a5, ca5, rfl, -, -⟩ := r5.form
      go_wp2_with fail
      refine (toNode x _ _ _ r4 r5 HBL.out).mono ?_
      rintro e w1 ⟨u4, u5, F4, F5, rfl, ru4, ru5, hF, hN, hb1⟩
      obtain ⟨b4, cb4, e_4, -, -⟩ := (ru4.reads (Flat.reads IntEl)).form
      subst e_4
      obtain ⟨b5, cb5, e_5, -, -⟩ := (ru5.reads PatOwn.reads).form
      subst e_5
      have q0 := (hb1.cell (p := ⟨w.heap.size, j * 6, none⟩) hg).trans z0
      have q1 := (hb1.cell (p := ⟨w.heap.size, j * 6 + 1, none⟩) hg).trans z1
      have q2 := (hb1.cell (p := ⟨w.heap.size, j * 6 + 2, none⟩) hg).trans z2
      have q3 := (hb1.cell (p := ⟨w.heap.size, j * 6 + 3, none⟩) hg).trans z3
      have q4 := (hb1.cell (p := ⟨w.heap.size, j * 6 + 4, none⟩) hg).trans z4
      have q5 := (hb1.cell (p := ⟨w.heap.size, j * 6 + 5, none⟩) hg).trans z5
      have hfr1 : ∀ i, w1.frozen? ⟨w.heap.size, i, none⟩ = false := fun i => (hb1.frozen (p := ⟨w.heap.size, i, none⟩) hg).trans (hfr i)
      clear z0 z1 z2 z3 z4 z5 hfr e0 e1 e2 e3 e4 e5
      go_wp2
      go_roundw
      case rel =>
        have hO := (((((((Out.refl w.heap.size (j * 6) 6 [] wr).below hg hb1).set (j * 6) (.int .i64 x.kind) ⟨by omega, by omega⟩).set (j * 6 + 1) (.int .i64 x.at_) ⟨by omega, by omega⟩).set (j * 6 + 2) (.int .i64 x.n) ⟨by omega, by omega⟩).set (j * 6 + 3) (.string x.s) ⟨by omega, by omega⟩).set (j * 6 + 4) (.slice b4 x.kids.length cb4) ⟨by omega, by omega⟩).set (j * 6 + 5) (.slice b5 x.pats.length cb5) ⟨by omega, by omega⟩
        have hA : ∀ d, d < 6 → ∃ u, World.cell? ((((((w1.setCell ⟨w.heap.size, j * 6, none⟩ (.int .i64 x.kind)).setCell ⟨w.heap.size, j * 6 + 1, none⟩ (.int .i64 x.at_)).setCell ⟨w.heap.size, j * 6 + 2, none⟩ (.int .i64 x.n)).setCell ⟨w.heap.size, j * 6 + 3, none⟩ (.string x.s)).setCell ⟨w.heap.size, j * 6 + 4, none⟩ (.slice b4 x.kids.length cb4)).setCell ⟨w.heap.size, j * 6 + 5, none⟩ (.slice b5 x.pats.length cb5)) ⟨w.heap.size, j * 6 + d, none⟩ = some u := fun d hd => by
          rcases (show d = 0 ∨ d = 1 ∨ d = 2 ∨ d = 3 ∨ d = 4 ∨ d = 5 by omega) with rfl | rfl | rfl | rfl | rfl | rfl
          · exact ⟨_, (cell_off (by omega)).trans ((cell_off (by omega)).trans ((cell_off (by omega)).trans ((cell_off (by omega)).trans ((cell_off (by omega)).trans (World.cell?_setCell_same _ _ _ (q0))))))⟩
          · exact ⟨_, (cell_off (by omega)).trans ((cell_off (by omega)).trans ((cell_off (by omega)).trans ((cell_off (by omega)).trans (World.cell?_setCell_same _ _ _ ((cell_off (by omega)).trans (q1))))))⟩
          · exact ⟨_, (cell_off (by omega)).trans ((cell_off (by omega)).trans ((cell_off (by omega)).trans (World.cell?_setCell_same _ _ _ ((cell_off (by omega)).trans ((cell_off (by omega)).trans (q2))))))⟩
          · exact ⟨_, (cell_off (by omega)).trans ((cell_off (by omega)).trans (World.cell?_setCell_same _ _ _ ((cell_off (by omega)).trans ((cell_off (by omega)).trans ((cell_off (by omega)).trans (q3))))))⟩
          · exact ⟨_, (cell_off (by omega)).trans (World.cell?_setCell_same _ _ _ ((cell_off (by omega)).trans ((cell_off (by omega)).trans ((cell_off (by omega)).trans ((cell_off (by omega)).trans (q4))))))⟩
          · exact ⟨_, World.cell?_setCell_same _ _ _ ((cell_off (by omega)).trans ((cell_off (by omega)).trans ((cell_off (by omega)).trans ((cell_off (by omega)).trans ((cell_off (by omega)).trans (q5))))))⟩
        have hD : NdOwn ((((((w1.setCell ⟨w.heap.size, j * 6, none⟩ (.int .i64 x.kind)).setCell ⟨w.heap.size, j * 6 + 1, none⟩ (.int .i64 x.at_)).setCell ⟨w.heap.size, j * 6 + 2, none⟩ (.int .i64 x.n)).setCell ⟨w.heap.size, j * 6 + 3, none⟩ (.string x.s)).setCell ⟨w.heap.size, j * 6 + 4, none⟩ (.slice b4 x.kids.length cb4)).setCell ⟨w.heap.size, j * 6 + 5, none⟩ (.slice b5 x.pats.length cb5)) w.heap.size (j * 6) x (F4 ++ F5) := ⟨F4, F5, rfl, ⟨(cell_off (by omega)).trans ((cell_off (by omega)).trans ((cell_off (by omega)).trans ((cell_off (by omega)).trans ((cell_off (by omega)).trans (World.cell?_setCell_same _ _ _ (q0)))))), i0⟩, ⟨(cell_off (by omega)).trans ((cell_off (by omega)).trans ((cell_off (by omega)).trans ((cell_off (by omega)).trans (World.cell?_setCell_same _ _ _ ((cell_off (by omega)).trans (q1)))))), i1⟩, ⟨(cell_off (by omega)).trans ((cell_off (by omega)).trans ((cell_off (by omega)).trans (World.cell?_setCell_same _ _ _ ((cell_off (by omega)).trans ((cell_off (by omega)).trans (q2)))))), i2⟩, ⟨(cell_off (by omega)).trans ((cell_off (by omega)).trans (World.cell?_setCell_same _ _ _ ((cell_off (by omega)).trans ((cell_off (by omega)).trans ((cell_off (by omega)).trans (q3)))))), i3⟩, ⟨_, (cell_off (by omega)).trans (World.cell?_setCell_same _ _ _ ((cell_off (by omega)).trans ((cell_off (by omega)).trans ((cell_off (by omega)).trans ((cell_off (by omega)).trans (q4)))))), ((((((ru4).set IntFlat.loc (Flat.sized IntEl) (j * 6) (.int .i64 x.kind) (fun e => absurd (hF _ (List.mem_append_left _ e)) (by omega))).set IntFlat.loc (Flat.sized IntEl) (j * 6 + 1) (.int .i64 x.at_) (fun e => absurd (hF _ (List.mem_append_left _ e)) (by omega))).set IntFlat.loc (Flat.sized IntEl) (j * 6 + 2) (.int .i64 x.n) (fun e => absurd (hF _ (List.mem_append_left _ e)) (by omega))).set IntFlat.loc (Flat.sized IntEl) (j * 6 + 3) (.string x.s) (fun e => absurd (hF _ (List.mem_append_left _ e)) (by omega))).set IntFlat.loc (Flat.sized IntEl) (j * 6 + 4) (.slice b4 x.kids.length cb4) (fun e => absurd (hF _ (List.mem_append_left _ e)) (by omega))).set IntFlat.loc (Flat.sized IntEl) (j * 6 + 5) (.slice b5 x.pats.length cb5) (fun e => absurd (hF _ (List.mem_append_left _ e)) (by omega))⟩, ⟨_, World.cell?_setCell_same _ _ _ ((cell_off (by omega)).trans ((cell_off (by omega)).trans ((cell_off (by omega)).trans ((cell_off (by omega)).trans ((cell_off (by omega)).trans (q5)))))), ((((((ru5).set PatOwn.loc PatOwn.sized (j * 6) (.int .i64 x.kind) (fun e => absurd (hF _ (List.mem_append_right _ e)) (by omega))).set PatOwn.loc PatOwn.sized (j * 6 + 1) (.int .i64 x.at_) (fun e => absurd (hF _ (List.mem_append_right _ e)) (by omega))).set PatOwn.loc PatOwn.sized (j * 6 + 2) (.int .i64 x.n) (fun e => absurd (hF _ (List.mem_append_right _ e)) (by omega))).set PatOwn.loc PatOwn.sized (j * 6 + 3) (.string x.s) (fun e => absurd (hF _ (List.mem_append_right _ e)) (by omega))).set PatOwn.loc PatOwn.sized (j * 6 + 4) (.slice b4 x.kids.length cb4) (fun e => absurd (hF _ (List.mem_append_right _ e)) (by omega))).set PatOwn.loc PatOwn.sized (j * 6 + 5) (.slice b5 x.pats.length cb5) (fun e => absurd (hF _ (List.mem_append_right _ e)) (by omega))⟩⟩
        exact ⟨j + 1, Fs ++ [F4 ++ F5], by go_num, by omega, HI.out.step NdOwn.loc NdOwn.sized hlt hF hN hO hA (by rw [HX.out]; exact hD)⟩
      case measure => simp [intOf]; omega
    · obtain rfl : j = l.length := by omega
      go_wp2
      go_ret
      exact hI.fin rfl hm' rfl
def ToProgramPost (x : Pg) (w : World) (e : Ending) (w' : World) : Prop := ∃ (u0 u1 : Value) (F0 F1 : List Nat), e = .returned (.agg #[u0, u1]) ∧ RowOwn 3 TpOwn w' u0 x.types F0 ∧ RowOwn 6 NdOwn w' u1 x.nodes F1 ∧ (∀ g ∈ F0 ++ F1, w.heap.size ≤ g) ∧ (F0 ++ F1).Nodup ∧ Below w.heap.size w w'
set_option maxHeartbeats 1000000 in
theorem toProgram (x : Pg) (v0 : Value) (v1 : Value) (w : World) (r0 : RowRd 3 TpEl w v0 x.types) (r1 : RowRd 6 NdEl w v1 x.nodes) (hz : bPg x ≤ 1048576) :
    Calls Tryz.prog 7 #[.agg #[v0, v1]] w (ToProgramPost x w) := by
  obtain ⟨a0, ca0, e0, -, -⟩ := r0.form
  subst e0
  obtain ⟨a1, ca1, e1, -, -⟩ := r1.form
  subst e1
  simp only [bPg] at hz
  have HZ := Lib.hid hz
  clear hz
  go_enter Tryz.func7, Tryz.ntmps7
  go_wp2_with fail
  refine (toTypeS x.types _ _ (r0.kept TpEl.st (by repeat (first | with_reducible exact Kept.al3 _ _ _ _ | (with_reducible refine Kept.set ?_ _ (by omega)) ))) (by have := HZ.out; have := bulkL_len bTp x.types; omega) (by have := HZ.out; omega)).mono ?_
  rintro e w1 ⟨u0, F0, rfl, ru0, hF0, hN0, hb1⟩
  obtain ⟨b0, cb0, e0, -, -⟩ := (ru0.reads TpOwn.reads).form
  subst e0
  obtain ⟨hc1, hf1⟩ := bcell hb1
  have hz1 : w.heap.size + 2 < w1.heap.size := by have := hb1.size; simp at this; omega
  have hy1 : w.heap.size + 1 < w1.heap.size := by omega
  have hx1 : w.heap.size < w1.heap.size := by omega
  go_wp2_with fail
  refine (toNodeS x.nodes _ _ (r1.kept NdEl.st (by repeat (first | with_reducible exact Kept.al3 _ _ _ _ | with_reducible exact (Kept.al3 _ _ _ _).trans (Kept.of_below hb1) | (with_reducible refine Kept.set ?_ _ (by omega)) ))) (by have := HZ.out; have := bulkL_len bNd x.nodes; omega) (by have := HZ.out; omega)).mono ?_
  rintro e w2 ⟨u1, F1, rfl, ru1, hF1, hN1, hb2⟩
  obtain ⟨b1, cb1, e1, -, -⟩ := (ru1.reads NdOwn.reads).form
  subst e1
  obtain ⟨hc2, hf2⟩ := bcell hb2
  simp only [setCell_size] at hc2 hf2
  have hz2 : w.heap.size + 2 < w2.heap.size := by have := hb2.size; rw [setCell_size] at this; omega
  have hy2 : w.heap.size + 1 < w2.heap.size := by omega
  have hx2 : w.heap.size < w2.heap.size := by omega
  go_wp2
  refine bodyPost_ret (v := .agg #[.slice b0 x.types.length cb0, .slice b1 x.nodes.length cb1]) (by simp [results, Tryz.results7, go_sem, hc1, hy1, hc2]) rfl ⟨_, _, F0, F1, rfl, ?_, ?_, ?_, ?_, ?_⟩
  · repeat (first | with_reducible exact ru0 | (with_reducible refine RowOwn.set TpOwn.loc TpOwn.sized ?_ _ _ (fun e => by have := hF0 _ e; simp at this; omega)) | (with_reducible refine RowOwn.kept TpOwn.loc TpOwn.sized ?_ hb2))
  · repeat (first | with_reducible exact ru1 | (with_reducible refine RowOwn.set NdOwn.loc NdOwn.sized ?_ _ _ (fun e => by have := hF1 _ e; rw [setCell_size] at this; omega)))
  · intro g hg; rcases List.mem_append.1 hg with hg | hg
    · have := hF0 g hg; simp at this; omega
    · have := hF1 g hg; rw [setCell_size] at this; omega
  · exact List.nodup_append.2 ⟨hN0, hN1, fun a ha b hb => by have h1 := ru0.sized TpOwn.sized a ha; have h2 := hF1 b hb; rw [setCell_size] at h2; omega⟩
  · repeat (first | (with_reducible refine Below.setCell ?_ (by first | (simp; done) | (simp; omega) | (rw [setCell_size]; omega)) _) | (with_reducible refine Below.trans ?_ (hb2.mono (by first | (simp; done) | (simp; omega) | (rw [setCell_size]; omega)))) | with_reducible exact below_tr (Joins.below_alloc3 w _ _ _) hb1)
end Go.Proofs.YtilincaedjhnpaaGreat
