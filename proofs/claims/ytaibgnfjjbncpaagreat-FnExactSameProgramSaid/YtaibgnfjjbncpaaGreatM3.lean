/- Texts of this proof, merged: To, Eq, TextMath, OkMath. -/
import Derived.Test.YtaibgnfjjbncpaaGreatM2
import Derived.Test.YtaibgnfjjbncpaaGreatRows
import Derived.WalkKit
import Derived.WalkSmall
import Derived.ProofKit
import Derived.OpenShut
import Derived.Lib.Hide
import Derived.Lib.SmallJoins
import Derived.StillTailTactics
import Derived.Deep.QuietTactic
import Derived.BigQuiet
import Derived.Outline
import Derived.Test.YtaibgnfjjbncpaaGreatM1
namespace Go.Proofs.YtaibgnfjjbncpaaGreat
set_option linter.unusedVariables false
set_option maxRecDepth 100000
open Go.ChangeShapes Go.WideShapes Go.ChangeAt Go.RowKit
theorem toIntS (l : List Int) (v : Value) (w : World) (hR : RowRd 1 IntEl w v l) (hlen : l.length ≤ 1048576) :
    Calls Tryz.prog 64 #[v] w (RowPost 1 (Flat IntEl) l w) := by
  obtain ⟨a, cap, rfl, hm, hR⟩ := hR.form
  have hm' := hm
  unfold maxLen at hm
  obtain ⟨W0, hmk, hT⟩ := make_t (P := Tryz.prog) (E := (Flat IntEl)) w 46 3 (.int .i64 0) 1 8 l Tryz.underlying46 (by kernel_rfl) hlen (by decide) (by decide)
  have HT := Lib.hid hT
  clear hT
  go_enter Tryz.func64, Tryz.ntmps64
  go_wp2
  have hT := HT.out
  clear hmk HT
  go_loopw [4] (fun i wr => ∃ (j : Nat) (Fs : List (List Nat)), i = .int .i64 j ∧ j ≤ l.length ∧ TInv 1 (Flat IntEl) w w.heap.size l Fs j wr) (fun i _ => l.length - (intOf i).toNat)
  case atStart => exact ⟨0, [], rfl, Nat.zero_le _, hT⟩
  case round =>
    obtain ⟨j, Fs, rfl, hj, hI⟩ := hrel
    by_cases hlt : j < l.length
    · obtain ⟨b, o, rfl, hbw, hc⟩ := hR (by omega)
      have ex := IntEl.st w wr b _ _ (Kept.of_below hI.bel) hbw (hc j hlt)
      clear hc hR hT
      have HI := Lib.hid hI
      have hg := hI.lt
      have hfr := hI.fr
      obtain ⟨y0, z0⟩ := hI.all (j) (by omega)
      clear hI
      generalize hx : l[j] = x at *
      have HX := Lib.hid hx
      clear hx
      obtain ⟨e0, i0⟩ := ex
      rw [Nat.mul_one] at e0
      go_wp2
      go_roundw
      case rel =>
        have hO := (Out.refl w.heap.size (j) 1 [] wr).set (j) (.int .i64 x) ⟨by omega, by omega⟩
        have hA : ∀ d, d < 1 → ∃ u, World.cell? (wr.setCell ⟨w.heap.size, j, none⟩ (.int .i64 x)) ⟨w.heap.size, j + d, none⟩ = some u := fun d hd => by
          obtain rfl : d = 0 := by omega
          exact ⟨_, World.cell?_setCell_same _ _ _ (z0)⟩
        have hD : Flat IntEl (wr.setCell ⟨w.heap.size, j, none⟩ (.int .i64 x)) w.heap.size (j) x ([]) := ⟨rfl, World.cell?_setCell_same _ _ _ (z0), i0⟩
        exact ⟨j + 1, Fs ++ [[]], by go_num, by omega, HI.out.step IntFlat.loc (Flat.sized IntEl) hlt (fun f hf => by simp at hf) List.nodup_nil (by rw [Nat.mul_one]; exact hO) (by rw [Nat.mul_one]; exact hA) (by rw [HX.out, Nat.mul_one]; exact hD)⟩
      case measure => simp [intOf]; omega
    · obtain rfl : j = l.length := by omega
      go_wp2
      go_ret
      exact hI.fin rfl hm' rfl
theorem toTyItem (x : TyI) (w : World) :
    Calls Tryz.prog 158 #[.agg #[.int .i64 x.var, .string x.name, .int .i64 x.arity]] w (fun e w' => e = .returned (.agg #[.int .i64 x.var, .string x.name, .int .i64 x.arity]) ∧ Below w.heap.size w w') := by
  go_enter Tryz.func158, Tryz.ntmps158
  go_wp2
  refine bodyPost_ret (v := .agg #[.int .i64 x.var, .string x.name, .int .i64 x.arity]) (by simp [results, Tryz.results158, go_sem]) rfl ⟨rfl, ?_⟩
  exact Joins.below_alloc3 w _ _ _
theorem toTyItemS (l : List TyI) (v : Value) (w : World) (hR : RowRd 3 TyIEl w v l) (hlen : l.length ≤ 1048576) (hz : bulkL bTyI l ≤ 1048576) :
    Calls Tryz.prog 142 #[v] w (RowPost 3 TyIOwn l w) := by
  obtain ⟨a, cap, rfl, hm, hR⟩ := hR.form
  have hm' := hm
  unfold maxLen at hm
  obtain ⟨W0, hmk, hT⟩ := make_t (P := Tryz.prog) (E := TyIOwn) w 62 94 (.agg #[.int .i64 0, .string ⟨#[]⟩, .int .i64 0]) 3 32 l Tryz.underlying62 (by kernel_rfl) hlen (by decide) (by decide)
  have HT := Lib.hid hT
  clear hT
  go_enter Tryz.func142, Tryz.ntmps142
  go_wp2
  have hT := HT.out
  clear hmk HT
  go_loopw [4] (fun i wr => ∃ (j : Nat) (Fs : List (List Nat)), i = .int .i64 j ∧ j ≤ l.length ∧ TInv 3 TyIOwn w w.heap.size l Fs j wr) (fun i _ => l.length - (intOf i).toNat)
  case atStart => exact ⟨0, [], rfl, Nat.zero_le _, hT⟩
  case round =>
    obtain ⟨j, Fs, rfl, hj, hI⟩ := hrel
    by_cases hlt : j < l.length
    · obtain ⟨b, o, rfl, hbw, hc⟩ := hR (by omega)
      have ex := TyIEl.st w wr b _ _ (Kept.of_below hI.bel) hbw (hc j hlt)
      clear hc hR hT
      have HI := Lib.hid hI
      have hg := hI.lt
      have hfr := hI.fr
      obtain ⟨y0, z0⟩ := hI.all (j * 3) (by omega)
      obtain ⟨y1, z1⟩ := hI.all (j * 3 + 1) (by omega)
      obtain ⟨y2, z2⟩ := hI.all (j * 3 + 2) (by omega)
      clear hI
      generalize hx : l[j] = x at *
      have HX := Lib.hid hx
      clear hx
      obtain ⟨⟨e0, i0⟩, ⟨e1, i1⟩, ⟨e2, i2⟩⟩ := ex
      go_wp2_with fail
      refine (toTyItem x _).mono ?_
      rintro e w1 ⟨rfl, hb1⟩
      have q0 := (hb1.cell (p := ⟨w.heap.size, j * 3, none⟩) hg).trans z0
      have q1 := (hb1.cell (p := ⟨w.heap.size, j * 3 + 1, none⟩) hg).trans z1
      have q2 := (hb1.cell (p := ⟨w.heap.size, j * 3 + 2, none⟩) hg).trans z2
      have hfr1 : ∀ i, w1.frozen? ⟨w.heap.size, i, none⟩ = false := fun i => (hb1.frozen (p := ⟨w.heap.size, i, none⟩) hg).trans (hfr i)
      clear z0 z1 z2 hfr e0 e1 e2
      go_wp2
      go_roundw
      case rel =>
        have hO := ((((Out.refl w.heap.size (j * 3) 3 [] wr).below hg hb1).set (j * 3) (.int .i64 x.var) ⟨by omega, by omega⟩).set (j * 3 + 1) (.string x.name) ⟨by omega, by omega⟩).set (j * 3 + 2) (.int .i64 x.arity) ⟨by omega, by omega⟩
        have hA : ∀ d, d < 3 → ∃ u, World.cell? (((w1.setCell ⟨w.heap.size, j * 3, none⟩ (.int .i64 x.var)).setCell ⟨w.heap.size, j * 3 + 1, none⟩ (.string x.name)).setCell ⟨w.heap.size, j * 3 + 2, none⟩ (.int .i64 x.arity)) ⟨w.heap.size, j * 3 + d, none⟩ = some u := fun d hd => by
          rcases (show d = 0 ∨ d = 1 ∨ d = 2 by omega) with rfl | rfl | rfl
          · exact ⟨_, (cell_off (by omega)).trans ((cell_off (by omega)).trans (World.cell?_setCell_same _ _ _ (q0)))⟩
          · exact ⟨_, (cell_off (by omega)).trans (World.cell?_setCell_same _ _ _ ((cell_off (by omega)).trans (q1)))⟩
          · exact ⟨_, World.cell?_setCell_same _ _ _ ((cell_off (by omega)).trans ((cell_off (by omega)).trans (q2)))⟩
        have hD : TyIOwn (((w1.setCell ⟨w.heap.size, j * 3, none⟩ (.int .i64 x.var)).setCell ⟨w.heap.size, j * 3 + 1, none⟩ (.string x.name)).setCell ⟨w.heap.size, j * 3 + 2, none⟩ (.int .i64 x.arity)) w.heap.size (j * 3) x ([]) := ⟨rfl, ⟨(cell_off (by omega)).trans ((cell_off (by omega)).trans (World.cell?_setCell_same _ _ _ (q0))), i0⟩, ⟨(cell_off (by omega)).trans (World.cell?_setCell_same _ _ _ ((cell_off (by omega)).trans (q1))), i1⟩, ⟨World.cell?_setCell_same _ _ _ ((cell_off (by omega)).trans ((cell_off (by omega)).trans (q2))), i2⟩⟩
        exact ⟨j + 1, Fs ++ [[]], by go_num, by omega, HI.out.step TyIOwn.loc TyIOwn.sized hlt (fun f hf => by simp at hf) List.nodup_nil hO hA (by rw [HX.out]; exact hD)⟩
      case measure => simp [intOf]; omega
    · obtain rfl : j = l.length := by omega
      go_wp2
      go_ret
      exact hI.fin rfl hm' rfl
def ToTyPost (x : List TyI) (w : World) (e : Ending) (w' : World) : Prop := ∃ (u0 : Value) (F0 : List Nat), e = .returned (.agg #[u0]) ∧ RowOwn 3 TyIOwn w' u0 x F0 ∧ (∀ g ∈ F0, w.heap.size ≤ g) ∧ (F0).Nodup ∧ Below w.heap.size w w'
set_option maxHeartbeats 1000000 in
theorem toTy (x : List TyI) (v0 : Value) (w : World) (r0 : RowRd 3 TyIEl w v0 x) (hz : bTy x ≤ 1048576) :
    Calls Tryz.prog 119 #[.agg #[v0]] w (ToTyPost x w) := by
  obtain ⟨a0, ca0, e0, -, -⟩ := r0.form
  subst e0
  simp only [bTy] at hz
  have HZ := Lib.hid hz
  clear hz
  go_enter Tryz.func119, Tryz.ntmps119
  go_wp2_with fail
  refine (toTyItemS x _ _ (r0.kept TyIEl.st (by repeat (first | with_reducible exact Kept.al3 _ _ _ _ | (with_reducible refine Kept.set ?_ _ (by omega)) ))) (by have := HZ.out; have := bulkL_len bTyI x; omega) (by have := HZ.out; omega)).mono ?_
  rintro e w1 ⟨u0, F0, rfl, ru0, hF0, hN0, hb1⟩
  obtain ⟨b0, cb0, e0, -, -⟩ := (ru0.reads TyIOwn.reads).form
  subst e0
  obtain ⟨hc1, hf1⟩ := bcell hb1
  have hz1 : w.heap.size + 2 < w1.heap.size := by have := hb1.size; simp at this; omega
  have hy1 : w.heap.size + 1 < w1.heap.size := by omega
  have hx1 : w.heap.size < w1.heap.size := by omega
  go_wp2
  refine bodyPost_ret (v := .agg #[.slice b0 x.length cb0]) (by simp [results, Tryz.results119, go_sem, hc1]) rfl ⟨_, F0, rfl, ?_, ?_, ?_, ?_⟩
  · repeat (first | with_reducible exact ru0 | (with_reducible refine RowOwn.set TyIOwn.loc TyIOwn.sized ?_ _ _ (fun e => by have := hF0 _ e; simp at this; omega)))
  · intro g hg; have := hF0 g hg; simp at this; omega
  · exact hN0
  · repeat (first | (with_reducible refine Below.setCell ?_ (by first | (simp; done) | (simp; omega) | (rw [setCell_size]; omega)) _) | with_reducible exact below_tr (Joins.below_alloc3 w _ _ _) hb1)
def ToPNodePost (x : PN) (w : World) (e : Ending) (w' : World) : Prop := ∃ (u3 : Value) (F3 : List Nat), e = .returned (.agg #[.int .i64 x.kind, .int .i64 x.n, .string x.s, u3]) ∧ RowOwn 1 (Flat IntEl) w' u3 x.kids F3 ∧ (∀ g ∈ F3, w.heap.size ≤ g) ∧ (F3).Nodup ∧ Below w.heap.size w w'
set_option maxHeartbeats 1000000 in
theorem toPNode (x : PN) (v3 : Value) (w : World) (r3 : RowRd 1 IntEl w v3 x.kids) (hz : bPN x ≤ 1048576) :
    Calls Tryz.prog 143 #[.agg #[.int .i64 x.kind, .int .i64 x.n, .string x.s, v3]] w (ToPNodePost x w) := by
  obtain ⟨a3, ca3, e3, -, -⟩ := r3.form
  subst e3
  simp only [bPN] at hz
  have HZ := Lib.hid hz
  clear hz
  go_enter Tryz.func143, Tryz.ntmps143
  go_wp2_with fail
  refine (toIntS x.kids _ _ (r3.kept IntEl.st (by repeat (first | with_reducible exact Kept.al3 _ _ _ _ | (with_reducible refine Kept.set ?_ _ (by omega)) ))) (by have := HZ.out; have := bulkL_len bInt x.kids; omega)).mono ?_
  rintro e w1 ⟨u3, F3, rfl, ru3, hF3, hN3, hb1⟩
  obtain ⟨b3, cb3, e3, -, -⟩ := (ru3.reads (Flat.reads IntEl)).form
  subst e3
  obtain ⟨hc1, hf1⟩ := bcell hb1
  have hz1 : w.heap.size + 2 < w1.heap.size := by have := hb1.size; simp at this; omega
  have hy1 : w.heap.size + 1 < w1.heap.size := by omega
  have hx1 : w.heap.size < w1.heap.size := by omega
  go_wp2
  refine bodyPost_ret (v := .agg #[.int .i64 x.kind, .int .i64 x.n, .string x.s, .slice b3 x.kids.length cb3]) (by simp [results, Tryz.results143, go_sem, hc1]) rfl ⟨_, F3, rfl, ?_, ?_, ?_, ?_⟩
  · repeat (first | with_reducible exact ru3 | (with_reducible refine RowOwn.set IntFlat.loc (Flat.sized IntEl) ?_ _ _ (fun e => by have := hF3 _ e; simp at this; omega)))
  · intro g hg; have := hF3 g hg; simp at this; omega
  · exact hN3
  · repeat (first | (with_reducible refine Below.setCell ?_ (by first | (simp; done) | (simp; omega) | (rw [setCell_size]; omega)) _) | with_reducible exact below_tr (Joins.below_alloc3 w _ _ _) hb1)
theorem toPNodeS (l : List PN) (v : Value) (w : World) (hR : RowRd 4 PNEl w v l) (hlen : l.length ≤ 1048576) (hz : bulkL bPN l ≤ 1048576) :
    Calls Tryz.prog 120 #[v] w (RowPost 4 PNOwn l w) := by
  obtain ⟨a, cap, rfl, hm, hR⟩ := hR.form
  have hm' := hm
  unfold maxLen at hm
  obtain ⟨W0, hmk, hT⟩ := make_t (P := Tryz.prog) (E := PNOwn) w 85 115 (.agg #[.int .i64 0, .int .i64 0, .string ⟨#[]⟩, .slice none 0 0]) 4 56 l Tryz.underlying85 (by kernel_rfl) hlen (by decide) (by decide)
  have HT := Lib.hid hT
  clear hT
  go_enter Tryz.func120, Tryz.ntmps120
  go_wp2
  have hT := HT.out
  clear hmk HT
  go_loopw [4] (fun i wr => ∃ (j : Nat) (Fs : List (List Nat)), i = .int .i64 j ∧ j ≤ l.length ∧ TInv 4 PNOwn w w.heap.size l Fs j wr) (fun i _ => l.length - (intOf i).toNat)
  case atStart => exact ⟨0, [], rfl, Nat.zero_le _, hT⟩
  case round =>
    obtain ⟨j, Fs, rfl, hj, hI⟩ := hrel
    by_cases hlt : j < l.length
    · obtain ⟨b, o, rfl, hbw, hc⟩ := hR (by omega)
      have ex := PNEl.st w wr b _ _ (Kept.of_below hI.bel) hbw (hc j hlt)
      have hbl := bulkL_mem bPN l j hlt
      have HBL := Lib.hid (show bPN l[j] ≤ 1048576 by omega)
      clear hbl
      clear hc hR hT
      have HI := Lib.hid hI
      have hg := hI.lt
      have hfr := hI.fr
      obtain ⟨y0, z0⟩ := hI.all (j * 4) (by omega)
      obtain ⟨y1, z1⟩ := hI.all (j * 4 + 1) (by omega)
      obtain ⟨y2, z2⟩ := hI.all (j * 4 + 2) (by omega)
      obtain ⟨y3, z3⟩ := hI.all (j * 4 + 3) (by omega)
      clear hI
      generalize hx : l[j] = x at *
      have HX := Lib.hid hx
      clear hx
      obtain ⟨⟨e0, i0⟩, ⟨e1, i1⟩, ⟨e2, i2⟩, ⟨v3, e3, r3⟩⟩ := ex
      obtain ⟨a3, ca3, rfl, -, -⟩ := r3.form
      go_wp2_with fail
      refine (toPNode x _ _ r3 HBL.out).mono ?_
      rintro e w1 ⟨u3, F3, rfl, ru3, hF, hN, hb1⟩
      obtain ⟨b3, cb3, e_3, -, -⟩ := (ru3.reads (Flat.reads IntEl)).form
      subst e_3
      have q0 := (hb1.cell (p := ⟨w.heap.size, j * 4, none⟩) hg).trans z0
      have q1 := (hb1.cell (p := ⟨w.heap.size, j * 4 + 1, none⟩) hg).trans z1
      have q2 := (hb1.cell (p := ⟨w.heap.size, j * 4 + 2, none⟩) hg).trans z2
      have q3 := (hb1.cell (p := ⟨w.heap.size, j * 4 + 3, none⟩) hg).trans z3
      have hfr1 : ∀ i, w1.frozen? ⟨w.heap.size, i, none⟩ = false := fun i => (hb1.frozen (p := ⟨w.heap.size, i, none⟩) hg).trans (hfr i)
      clear z0 z1 z2 z3 hfr e0 e1 e2 e3
      go_wp2
      go_roundw
      case rel =>
        have hO := (((((Out.refl w.heap.size (j * 4) 4 [] wr).below hg hb1).set (j * 4) (.int .i64 x.kind) ⟨by omega, by omega⟩).set (j * 4 + 1) (.int .i64 x.n) ⟨by omega, by omega⟩).set (j * 4 + 2) (.string x.s) ⟨by omega, by omega⟩).set (j * 4 + 3) (.slice b3 x.kids.length cb3) ⟨by omega, by omega⟩
        have hA : ∀ d, d < 4 → ∃ u, World.cell? ((((w1.setCell ⟨w.heap.size, j * 4, none⟩ (.int .i64 x.kind)).setCell ⟨w.heap.size, j * 4 + 1, none⟩ (.int .i64 x.n)).setCell ⟨w.heap.size, j * 4 + 2, none⟩ (.string x.s)).setCell ⟨w.heap.size, j * 4 + 3, none⟩ (.slice b3 x.kids.length cb3)) ⟨w.heap.size, j * 4 + d, none⟩ = some u := fun d hd => by
          rcases (show d = 0 ∨ d = 1 ∨ d = 2 ∨ d = 3 by omega) with rfl | rfl | rfl | rfl
          · exact ⟨_, (cell_off (by omega)).trans ((cell_off (by omega)).trans ((cell_off (by omega)).trans (World.cell?_setCell_same _ _ _ (q0))))⟩
          · exact ⟨_, (cell_off (by omega)).trans ((cell_off (by omega)).trans (World.cell?_setCell_same _ _ _ ((cell_off (by omega)).trans (q1))))⟩
          · exact ⟨_, (cell_off (by omega)).trans (World.cell?_setCell_same _ _ _ ((cell_off (by omega)).trans ((cell_off (by omega)).trans (q2))))⟩
          · exact ⟨_, World.cell?_setCell_same _ _ _ ((cell_off (by omega)).trans ((cell_off (by omega)).trans ((cell_off (by omega)).trans (q3))))⟩
        have hD : PNOwn ((((w1.setCell ⟨w.heap.size, j * 4, none⟩ (.int .i64 x.kind)).setCell ⟨w.heap.size, j * 4 + 1, none⟩ (.int .i64 x.n)).setCell ⟨w.heap.size, j * 4 + 2, none⟩ (.string x.s)).setCell ⟨w.heap.size, j * 4 + 3, none⟩ (.slice b3 x.kids.length cb3)) w.heap.size (j * 4) x (F3) := ⟨F3, rfl, ⟨(cell_off (by omega)).trans ((cell_off (by omega)).trans ((cell_off (by omega)).trans (World.cell?_setCell_same _ _ _ (q0)))), i0⟩, ⟨(cell_off (by omega)).trans ((cell_off (by omega)).trans (World.cell?_setCell_same _ _ _ ((cell_off (by omega)).trans (q1)))), i1⟩, ⟨(cell_off (by omega)).trans (World.cell?_setCell_same _ _ _ ((cell_off (by omega)).trans ((cell_off (by omega)).trans (q2)))), i2⟩, ⟨_, World.cell?_setCell_same _ _ _ ((cell_off (by omega)).trans ((cell_off (by omega)).trans ((cell_off (by omega)).trans (q3)))), ((((ru3).set IntFlat.loc (Flat.sized IntEl) (j * 4) (.int .i64 x.kind) (fun e => absurd (hF _ (e)) (by omega))).set IntFlat.loc (Flat.sized IntEl) (j * 4 + 1) (.int .i64 x.n) (fun e => absurd (hF _ (e)) (by omega))).set IntFlat.loc (Flat.sized IntEl) (j * 4 + 2) (.string x.s) (fun e => absurd (hF _ (e)) (by omega))).set IntFlat.loc (Flat.sized IntEl) (j * 4 + 3) (.slice b3 x.kids.length cb3) (fun e => absurd (hF _ (e)) (by omega))⟩⟩
        exact ⟨j + 1, Fs ++ [F3], by go_num, by omega, HI.out.step PNOwn.loc PNOwn.sized hlt hF hN hO hA (by rw [HX.out]; exact hD)⟩
      case measure => simp [intOf]; omega
    · obtain rfl : j = l.length := by omega
      go_wp2
      go_ret
      exact hI.fin rfl hm' rfl
def ToPatPost (x : List PN) (w : World) (e : Ending) (w' : World) : Prop := ∃ (u0 : Value) (F0 : List Nat), e = .returned (.agg #[u0]) ∧ RowOwn 4 PNOwn w' u0 x F0 ∧ (∀ g ∈ F0, w.heap.size ≤ g) ∧ (F0).Nodup ∧ Below w.heap.size w w'
set_option maxHeartbeats 1000000 in
theorem toPat (x : List PN) (v0 : Value) (w : World) (r0 : RowRd 4 PNEl w v0 x) (hz : bPat x ≤ 1048576) :
    Calls Tryz.prog 99 #[.agg #[v0]] w (ToPatPost x w) := by
  obtain ⟨a0, ca0, e0, -, -⟩ := r0.form
  subst e0
  simp only [bPat] at hz
  have HZ := Lib.hid hz
  clear hz
  go_enter Tryz.func99, Tryz.ntmps99
  go_wp2_with fail
  refine (toPNodeS x _ _ (r0.kept PNEl.st (by repeat (first | with_reducible exact Kept.al3 _ _ _ _ | (with_reducible refine Kept.set ?_ _ (by omega)) ))) (by have := HZ.out; have := bulkL_len bPN x; omega) (by have := HZ.out; omega)).mono ?_
  rintro e w1 ⟨u0, F0, rfl, ru0, hF0, hN0, hb1⟩
  obtain ⟨b0, cb0, e0, -, -⟩ := (ru0.reads PNOwn.reads).form
  subst e0
  obtain ⟨hc1, hf1⟩ := bcell hb1
  have hz1 : w.heap.size + 2 < w1.heap.size := by have := hb1.size; simp at this; omega
  have hy1 : w.heap.size + 1 < w1.heap.size := by omega
  have hx1 : w.heap.size < w1.heap.size := by omega
  go_wp2
  refine bodyPost_ret (v := .agg #[.slice b0 x.length cb0]) (by simp [results, Tryz.results99, go_sem, hc1]) rfl ⟨_, F0, rfl, ?_, ?_, ?_, ?_⟩
  · repeat (first | with_reducible exact ru0 | (with_reducible refine RowOwn.set PNOwn.loc PNOwn.sized ?_ _ _ (fun e => by have := hF0 _ e; simp at this; omega)))
  · intro g hg; have := hF0 g hg; simp at this; omega
  · exact hN0
  · repeat (first | (with_reducible refine Below.setCell ?_ (by first | (simp; done) | (simp; omega) | (rw [setCell_size]; omega)) _) | with_reducible exact below_tr (Joins.below_alloc3 w _ _ _) hb1)
theorem toPatS (l : List (List PN)) (v : Value) (w : World) (hR : RowRd 1 PatEl w v l) (hlen : l.length ≤ 1048576) (hz : bulkL bPat l ≤ 1048576) :
    Calls Tryz.prog 65 #[v] w (RowPost 1 PatOwn l w) := by
  obtain ⟨a, cap, rfl, hm, hR⟩ := hR.form
  have hm' := hm
  unfold maxLen at hm
  obtain ⟨W0, hmk, hT⟩ := make_t (P := Tryz.prog) (E := PatOwn) w 47 87 (.agg #[.slice none 0 0]) 1 24 l Tryz.underlying47 (by kernel_rfl) hlen (by decide) (by decide)
  have HT := Lib.hid hT
  clear hT
  go_enter Tryz.func65, Tryz.ntmps65
  go_wp2
  have hT := HT.out
  clear hmk HT
  go_loopw [4] (fun i wr => ∃ (j : Nat) (Fs : List (List Nat)), i = .int .i64 j ∧ j ≤ l.length ∧ TInv 1 PatOwn w w.heap.size l Fs j wr) (fun i _ => l.length - (intOf i).toNat)
  case atStart => exact ⟨0, [], rfl, Nat.zero_le _, hT⟩
  case round =>
    obtain ⟨j, Fs, rfl, hj, hI⟩ := hrel
    by_cases hlt : j < l.length
    · obtain ⟨b, o, rfl, hbw, hc⟩ := hR (by omega)
      have ex := PatEl.st w wr b _ _ (Kept.of_below hI.bel) hbw (hc j hlt)
      have hbl := bulkL_mem bPat l j hlt
      have HBL := Lib.hid (show bPat l[j] ≤ 1048576 by omega)
      clear hbl
      clear hc hR hT
      have HI := Lib.hid hI
      have hg := hI.lt
      have hfr := hI.fr
      obtain ⟨y0, z0⟩ := hI.all (j) (by omega)
      clear hI
      generalize hx : l[j] = x at *
      have HX := Lib.hid hx
      clear hx
      obtain ⟨v0, e0, r0⟩ := ex
      obtain ⟨a0, ca0, rfl, -, -⟩ := r0.form
      rw [Nat.mul_one] at e0
      go_wp2_with fail
      refine (toPat x _ _ r0 HBL.out).mono ?_
      rintro e w1 ⟨u0, F0, rfl, ru0, hF, hN, hb1⟩
      obtain ⟨b0, cb0, e_0, -, -⟩ := (ru0.reads PNOwn.reads).form
      subst e_0
      have q0 := (hb1.cell (p := ⟨w.heap.size, j, none⟩) hg).trans z0
      have hfr1 : ∀ i, w1.frozen? ⟨w.heap.size, i, none⟩ = false := fun i => (hb1.frozen (p := ⟨w.heap.size, i, none⟩) hg).trans (hfr i)
      clear z0 hfr e0
      go_wp2
      go_roundw
      case rel =>
        have hO := ((Out.refl w.heap.size (j) 1 [] wr).below hg hb1).set (j) (.slice b0 x.length cb0) ⟨by omega, by omega⟩
        have hA : ∀ d, d < 1 → ∃ u, World.cell? (w1.setCell ⟨w.heap.size, j, none⟩ (.slice b0 x.length cb0)) ⟨w.heap.size, j + d, none⟩ = some u := fun d hd => by
          obtain rfl : d = 0 := by omega
          exact ⟨_, World.cell?_setCell_same _ _ _ (q0)⟩
        have hD : PatOwn (w1.setCell ⟨w.heap.size, j, none⟩ (.slice b0 x.length cb0)) w.heap.size (j) x (F0) := ⟨_, World.cell?_setCell_same _ _ _ (q0), (ru0).set PNOwn.loc PNOwn.sized (j) (.slice b0 x.length cb0) (fun e => absurd (hF _ (e)) (by omega))⟩
        exact ⟨j + 1, Fs ++ [F0], by go_num, by omega, HI.out.step PatOwn.loc PatOwn.sized hlt hF hN (by rw [Nat.mul_one]; exact hO) (by rw [Nat.mul_one]; exact hA) (by rw [HX.out, Nat.mul_one]; exact hD)⟩
      case measure => simp [intOf]; omega
    · obtain rfl : j = l.length := by omega
      go_wp2
      go_ret
      exact hI.fin rfl hm' rfl
def ToConPost (x : Cn) (w : World) (e : Ending) (w' : World) : Prop := ∃ (u2 : Value) (F2 : List Nat), e = .returned (.agg #[.string x.name, .bool x.has, u2]) ∧ RowOwn 3 TyIOwn w' u2 x.arg F2 ∧ (∀ g ∈ F2, w.heap.size ≤ g) ∧ (F2).Nodup ∧ Below w.heap.size w w'
set_option maxHeartbeats 1000000 in
theorem toCon (x : Cn) (v2 : Value) (w : World) (r2 : RowRd 3 TyIEl w v2 x.arg) (hz : bCn x ≤ 1048576) :
    Calls Tryz.prog 98 #[.agg #[.string x.name, .bool x.has, v2]] w (ToConPost x w) := by
  obtain ⟨a2, ca2, e2, -, -⟩ := r2.form
  subst e2
  simp only [bCn, bTy] at hz
  have HZ := Lib.hid hz
  clear hz
  go_enter Tryz.func98, Tryz.ntmps98
  go_wp2_with fail
  refine (toTy x.arg _ _ (r2.kept TyIEl.st (by repeat (first | with_reducible exact Kept.al3 _ _ _ _ | (with_reducible refine Kept.set ?_ _ (by omega)) ))) (by have := HZ.out; simp only [bTy]; omega)).mono ?_
  rintro e w1 ⟨u2, F2, rfl, ru2, hF2, hN2, hb1⟩
  obtain ⟨b2, cb2, e2, -, -⟩ := (ru2.reads TyIOwn.reads).form
  subst e2
  obtain ⟨hc1, hf1⟩ := bcell hb1
  have hz1 : w.heap.size + 2 < w1.heap.size := by have := hb1.size; simp at this; omega
  have hy1 : w.heap.size + 1 < w1.heap.size := by omega
  have hx1 : w.heap.size < w1.heap.size := by omega
  go_wp2
  refine bodyPost_ret (v := .agg #[.string x.name, .bool x.has, .slice b2 x.arg.length cb2]) (by simp [results, Tryz.results98, go_sem, hc1]) rfl ⟨_, F2, rfl, ?_, ?_, ?_, ?_⟩
  · repeat (first | with_reducible exact ru2 | (with_reducible refine RowOwn.set TyIOwn.loc TyIOwn.sized ?_ _ _ (fun e => by have := hF2 _ e; simp at this; omega)))
  · intro g hg; have := hF2 g hg; simp at this; omega
  · exact hN2
  · repeat (first | (with_reducible refine Below.setCell ?_ (by first | (simp; done) | (simp; omega) | (rw [setCell_size]; omega)) _) | with_reducible exact below_tr (Joins.below_alloc3 w _ _ _) hb1)
theorem toConS (l : List Cn) (v : Value) (w : World) (hR : RowRd 3 CnEl w v l) (hlen : l.length ≤ 1048576) (hz : bulkL bCn l ≤ 1048576) :
    Calls Tryz.prog 63 #[v] w (RowPost 3 CnOwn l w) := by
  obtain ⟨a, cap, rfl, hm, hR⟩ := hR.form
  have hm' := hm
  unfold maxLen at hm
  obtain ⟨W0, hmk, hT⟩ := make_t (P := Tryz.prog) (E := CnOwn) w 41 66 (.agg #[.string ⟨#[]⟩, .bool false, .slice none 0 0]) 3 48 l Tryz.underlying41 (by kernel_rfl) hlen (by decide) (by decide)
  have HT := Lib.hid hT
  clear hT
  go_enter Tryz.func63, Tryz.ntmps63
  go_wp2
  have hT := HT.out
  clear hmk HT
  go_loopw [4] (fun i wr => ∃ (j : Nat) (Fs : List (List Nat)), i = .int .i64 j ∧ j ≤ l.length ∧ TInv 3 CnOwn w w.heap.size l Fs j wr) (fun i _ => l.length - (intOf i).toNat)
  case atStart => exact ⟨0, [], rfl, Nat.zero_le _, hT⟩
  case round =>
    obtain ⟨j, Fs, rfl, hj, hI⟩ := hrel
    by_cases hlt : j < l.length
    · obtain ⟨b, o, rfl, hbw, hc⟩ := hR (by omega)
      have ex := CnEl.st w wr b _ _ (Kept.of_below hI.bel) hbw (hc j hlt)
      have hbl := bulkL_mem bCn l j hlt
      have HBL := Lib.hid (show bCn l[j] ≤ 1048576 by omega)
      clear hbl
      clear hc hR hT
      have HI := Lib.hid hI
      have hg := hI.lt
      have hfr := hI.fr
      obtain ⟨y0, z0⟩ := hI.all (j * 3) (by omega)
      obtain ⟨y1, z1⟩ := hI.all (j * 3 + 1) (by omega)
      obtain ⟨y2, z2⟩ := hI.all (j * 3 + 2) (by omega)
      clear hI
      generalize hx : l[j] = x at *
      have HX := Lib.hid hx
      clear hx
      obtain ⟨⟨e0, i0⟩, e1, ⟨v2, e2, r2⟩⟩ := ex
      unfold BoolEl at e1
      obtain ⟨a2, ca2, rfl, -, -⟩ := r2.form
      go_wp2_with fail
      refine (toCon x _ _ r2 HBL.out).mono ?_
      rintro e w1 ⟨u2, F2, rfl, ru2, hF, hN, hb1⟩
      obtain ⟨b2, cb2, e_2, -, -⟩ := (ru2.reads TyIOwn.reads).form
      subst e_2
      have q0 := (hb1.cell (p := ⟨w.heap.size, j * 3, none⟩) hg).trans z0
      have q1 := (hb1.cell (p := ⟨w.heap.size, j * 3 + 1, none⟩) hg).trans z1
      have q2 := (hb1.cell (p := ⟨w.heap.size, j * 3 + 2, none⟩) hg).trans z2
      have hfr1 : ∀ i, w1.frozen? ⟨w.heap.size, i, none⟩ = false := fun i => (hb1.frozen (p := ⟨w.heap.size, i, none⟩) hg).trans (hfr i)
      clear z0 z1 z2 hfr e0 e1 e2
      go_wp2
      go_roundw
      case rel =>
        have hO := ((((Out.refl w.heap.size (j * 3) 3 [] wr).below hg hb1).set (j * 3) (.string x.name) ⟨by omega, by omega⟩).set (j * 3 + 1) (.bool x.has) ⟨by omega, by omega⟩).set (j * 3 + 2) (.slice b2 x.arg.length cb2) ⟨by omega, by omega⟩
        have hA : ∀ d, d < 3 → ∃ u, World.cell? (((w1.setCell ⟨w.heap.size, j * 3, none⟩ (.string x.name)).setCell ⟨w.heap.size, j * 3 + 1, none⟩ (.bool x.has)).setCell ⟨w.heap.size, j * 3 + 2, none⟩ (.slice b2 x.arg.length cb2)) ⟨w.heap.size, j * 3 + d, none⟩ = some u := fun d hd => by
          rcases (show d = 0 ∨ d = 1 ∨ d = 2 by omega) with rfl | rfl | rfl
          · exact ⟨_, (cell_off (by omega)).trans ((cell_off (by omega)).trans (World.cell?_setCell_same _ _ _ (q0)))⟩
          · exact ⟨_, (cell_off (by omega)).trans (World.cell?_setCell_same _ _ _ ((cell_off (by omega)).trans (q1)))⟩
          · exact ⟨_, World.cell?_setCell_same _ _ _ ((cell_off (by omega)).trans ((cell_off (by omega)).trans (q2)))⟩
        have hD : CnOwn (((w1.setCell ⟨w.heap.size, j * 3, none⟩ (.string x.name)).setCell ⟨w.heap.size, j * 3 + 1, none⟩ (.bool x.has)).setCell ⟨w.heap.size, j * 3 + 2, none⟩ (.slice b2 x.arg.length cb2)) w.heap.size (j * 3) x (F2) := ⟨F2, rfl, ⟨(cell_off (by omega)).trans ((cell_off (by omega)).trans (World.cell?_setCell_same _ _ _ (q0))), i0⟩, (cell_off (by omega)).trans (World.cell?_setCell_same _ _ _ ((cell_off (by omega)).trans (q1))), ⟨_, World.cell?_setCell_same _ _ _ ((cell_off (by omega)).trans ((cell_off (by omega)).trans (q2))), (((ru2).set TyIOwn.loc TyIOwn.sized (j * 3) (.string x.name) (fun e => absurd (hF _ (e)) (by omega))).set TyIOwn.loc TyIOwn.sized (j * 3 + 1) (.bool x.has) (fun e => absurd (hF _ (e)) (by omega))).set TyIOwn.loc TyIOwn.sized (j * 3 + 2) (.slice b2 x.arg.length cb2) (fun e => absurd (hF _ (e)) (by omega))⟩⟩
        exact ⟨j + 1, Fs ++ [F2], by go_num, by omega, HI.out.step CnOwn.loc CnOwn.sized hlt hF hN hO hA (by rw [HX.out]; exact hD)⟩
      case measure => simp [intOf]; omega
    · obtain rfl : j = l.length := by omega
      go_wp2
      go_ret
      exact hI.fin rfl hm' rfl
def ToTypePost (x : Tp) (w : World) (e : Ending) (w' : World) : Prop := ∃ (u2 : Value) (F2 : List Nat), e = .returned (.agg #[.string x.name, .int .i64 x.params, u2]) ∧ RowOwn 3 CnOwn w' u2 x.cons F2 ∧ (∀ g ∈ F2, w.heap.size ≤ g) ∧ (F2).Nodup ∧ Below w.heap.size w w'
set_option maxHeartbeats 1000000 in
theorem toType (x : Tp) (v2 : Value) (w : World) (r2 : RowRd 3 CnEl w v2 x.cons) (hz : bTp x ≤ 1048576) :
    Calls Tryz.prog 30 #[.agg #[.string x.name, .int .i64 x.params, v2]] w (ToTypePost x w) := by
  obtain ⟨a2, ca2, e2, -, -⟩ := r2.form
  subst e2
  simp only [bTp] at hz
  have HZ := Lib.hid hz
  clear hz
  go_enter Tryz.func30, Tryz.ntmps30
  go_wp2_with fail
  refine (toConS x.cons _ _ (r2.kept CnEl.st (by repeat (first | with_reducible exact Kept.al3 _ _ _ _ | (with_reducible refine Kept.set ?_ _ (by omega)) ))) (by have := HZ.out; have := bulkL_len bCn x.cons; omega) (by have := HZ.out; omega)).mono ?_
  rintro e w1 ⟨u2, F2, rfl, ru2, hF2, hN2, hb1⟩
  obtain ⟨b2, cb2, e2, -, -⟩ := (ru2.reads CnOwn.reads).form
  subst e2
  obtain ⟨hc1, hf1⟩ := bcell hb1
  have hz1 : w.heap.size + 2 < w1.heap.size := by have := hb1.size; simp at this; omega
  have hy1 : w.heap.size + 1 < w1.heap.size := by omega
  have hx1 : w.heap.size < w1.heap.size := by omega
  go_wp2
  refine bodyPost_ret (v := .agg #[.string x.name, .int .i64 x.params, .slice b2 x.cons.length cb2]) (by simp [results, Tryz.results30, go_sem, hc1]) rfl ⟨_, F2, rfl, ?_, ?_, ?_, ?_⟩
  · repeat (first | with_reducible exact ru2 | (with_reducible refine RowOwn.set CnOwn.loc CnOwn.sized ?_ _ _ (fun e => by have := hF2 _ e; simp at this; omega)))
  · intro g hg; have := hF2 g hg; simp at this; omega
  · exact hN2
  · repeat (first | (with_reducible refine Below.setCell ?_ (by first | (simp; done) | (simp; omega) | (rw [setCell_size]; omega)) _) | with_reducible exact below_tr (Joins.below_alloc3 w _ _ _) hb1)
theorem toTypeS (l : List Tp) (v : Value) (w : World) (hR : RowRd 3 TpEl w v l) (hlen : l.length ≤ 1048576) (hz : bulkL bTp l ≤ 1048576) :
    Calls Tryz.prog 13 #[v] w (RowPost 3 TpOwn l w) := by
  obtain ⟨a, cap, rfl, hm, hR⟩ := hR.form
  have hm' := hm
  unfold maxLen at hm
  obtain ⟨W0, hmk, hT⟩ := make_t (P := Tryz.prog) (E := TpOwn) w 28 43 (.agg #[.string ⟨#[]⟩, .int .i64 0, .slice none 0 0]) 3 48 l Tryz.underlying28 (by kernel_rfl) hlen (by decide) (by decide)
  have HT := Lib.hid hT
  clear hT
  go_enter Tryz.func13, Tryz.ntmps13
  go_wp2
  have hT := HT.out
  clear hmk HT
  go_loopw [4] (fun i wr => ∃ (j : Nat) (Fs : List (List Nat)), i = .int .i64 j ∧ j ≤ l.length ∧ TInv 3 TpOwn w w.heap.size l Fs j wr) (fun i _ => l.length - (intOf i).toNat)
  case atStart => exact ⟨0, [], rfl, Nat.zero_le _, hT⟩
  case round =>
    obtain ⟨j, Fs, rfl, hj, hI⟩ := hrel
    by_cases hlt : j < l.length
    · obtain ⟨b, o, rfl, hbw, hc⟩ := hR (by omega)
      have ex := TpEl.st w wr b _ _ (Kept.of_below hI.bel) hbw (hc j hlt)
      have hbl := bulkL_mem bTp l j hlt
      have HBL := Lib.hid (show bTp l[j] ≤ 1048576 by omega)
      clear hbl
      clear hc hR hT
      have HI := Lib.hid hI
      have hg := hI.lt
      have hfr := hI.fr
      obtain ⟨y0, z0⟩ := hI.all (j * 3) (by omega)
      obtain ⟨y1, z1⟩ := hI.all (j * 3 + 1) (by omega)
      obtain ⟨y2, z2⟩ := hI.all (j * 3 + 2) (by omega)
      clear hI
      generalize hx : l[j] = x at *
      have HX := Lib.hid hx
      clear hx
      obtain ⟨⟨e0, i0⟩, ⟨e1, i1⟩, ⟨v2, e2, r2⟩⟩ := ex
      obtain ⟨a2, ca2, rfl, -, -⟩ := r2.form
      go_wp2_with fail
      refine (toType x _ _ r2 HBL.out).mono ?_
      rintro e w1 ⟨u2, F2, rfl, ru2, hF, hN, hb1⟩
      obtain ⟨b2, cb2, e_2, -, -⟩ := (ru2.reads CnOwn.reads).form
      subst e_2
      have q0 := (hb1.cell (p := ⟨w.heap.size, j * 3, none⟩) hg).trans z0
      have q1 := (hb1.cell (p := ⟨w.heap.size, j * 3 + 1, none⟩) hg).trans z1
      have q2 := (hb1.cell (p := ⟨w.heap.size, j * 3 + 2, none⟩) hg).trans z2
      have hfr1 : ∀ i, w1.frozen? ⟨w.heap.size, i, none⟩ = false := fun i => (hb1.frozen (p := ⟨w.heap.size, i, none⟩) hg).trans (hfr i)
      clear z0 z1 z2 hfr e0 e1 e2
      go_wp2
      go_roundw
      case rel =>
        have hO := ((((Out.refl w.heap.size (j * 3) 3 [] wr).below hg hb1).set (j * 3) (.string x.name) ⟨by omega, by omega⟩).set (j * 3 + 1) (.int .i64 x.params) ⟨by omega, by omega⟩).set (j * 3 + 2) (.slice b2 x.cons.length cb2) ⟨by omega, by omega⟩
        have hA : ∀ d, d < 3 → ∃ u, World.cell? (((w1.setCell ⟨w.heap.size, j * 3, none⟩ (.string x.name)).setCell ⟨w.heap.size, j * 3 + 1, none⟩ (.int .i64 x.params)).setCell ⟨w.heap.size, j * 3 + 2, none⟩ (.slice b2 x.cons.length cb2)) ⟨w.heap.size, j * 3 + d, none⟩ = some u := fun d hd => by
          rcases (show d = 0 ∨ d = 1 ∨ d = 2 by omega) with rfl | rfl | rfl
          · exact ⟨_, (cell_off (by omega)).trans ((cell_off (by omega)).trans (World.cell?_setCell_same _ _ _ (q0)))⟩
          · exact ⟨_, (cell_off (by omega)).trans (World.cell?_setCell_same _ _ _ ((cell_off (by omega)).trans (q1)))⟩
          · exact ⟨_, World.cell?_setCell_same _ _ _ ((cell_off (by omega)).trans ((cell_off (by omega)).trans (q2)))⟩
        have hD : TpOwn (((w1.setCell ⟨w.heap.size, j * 3, none⟩ (.string x.name)).setCell ⟨w.heap.size, j * 3 + 1, none⟩ (.int .i64 x.params)).setCell ⟨w.heap.size, j * 3 + 2, none⟩ (.slice b2 x.cons.length cb2)) w.heap.size (j * 3) x (F2) := ⟨F2, rfl, ⟨(cell_off (by omega)).trans ((cell_off (by omega)).trans (World.cell?_setCell_same _ _ _ (q0))), i0⟩, ⟨(cell_off (by omega)).trans (World.cell?_setCell_same _ _ _ ((cell_off (by omega)).trans (q1))), i1⟩, ⟨_, World.cell?_setCell_same _ _ _ ((cell_off (by omega)).trans ((cell_off (by omega)).trans (q2))), (((ru2).set CnOwn.loc CnOwn.sized (j * 3) (.string x.name) (fun e => absurd (hF _ (e)) (by omega))).set CnOwn.loc CnOwn.sized (j * 3 + 1) (.int .i64 x.params) (fun e => absurd (hF _ (e)) (by omega))).set CnOwn.loc CnOwn.sized (j * 3 + 2) (.slice b2 x.cons.length cb2) (fun e => absurd (hF _ (e)) (by omega))⟩⟩
        exact ⟨j + 1, Fs ++ [F2], by go_num, by omega, HI.out.step TpOwn.loc TpOwn.sized hlt hF hN hO hA (by rw [HX.out]; exact hD)⟩
      case measure => simp [intOf]; omega
    · obtain rfl : j = l.length := by omega
      go_wp2
      go_ret
      exact hI.fin rfl hm' rfl
def ToNodePost (x : Nd) (w : World) (e : Ending) (w' : World) : Prop := ∃ (u4 u5 : Value) (F4 F5 : List Nat), e = .returned (.agg #[.int .i64 x.kind, .int .i64 x.at_, .int .i64 x.n, .string x.s, u4, u5]) ∧ RowOwn 1 (Flat IntEl) w' u4 x.kids F4 ∧ RowOwn 1 PatOwn w' u5 x.pats F5 ∧ (∀ g ∈ F4 ++ F5, w.heap.size ≤ g) ∧ (F4 ++ F5).Nodup ∧ Below w.heap.size w w'
set_option maxHeartbeats 1000000 in
theorem toNode (x : Nd) (v4 : Value) (v5 : Value) (w : World) (r4 : RowRd 1 IntEl w v4 x.kids) (r5 : RowRd 1 PatEl w v5 x.pats) (hz : bNd x ≤ 1048576) :
    Calls Tryz.prog 31 #[.agg #[.int .i64 x.kind, .int .i64 x.at_, .int .i64 x.n, .string x.s, v4, v5]] w (ToNodePost x w) := by
  obtain ⟨a4, ca4, e4, -, -⟩ := r4.form
  subst e4
  obtain ⟨a5, ca5, e5, -, -⟩ := r5.form
  subst e5
  simp only [bNd] at hz
  have HZ := Lib.hid hz
  clear hz
  go_enter Tryz.func31, Tryz.ntmps31
  go_wp2_with fail
  refine (toIntS x.kids _ _ (r4.kept IntEl.st (by repeat (first | with_reducible exact Kept.al3 _ _ _ _ | (with_reducible refine Kept.set ?_ _ (by omega)) ))) (by have := HZ.out; have := bulkL_len bInt x.kids; omega)).mono ?_
  rintro e w1 ⟨u4, F4, rfl, ru4, hF4, hN4, hb1⟩
  obtain ⟨b4, cb4, e4, -, -⟩ := (ru4.reads (Flat.reads IntEl)).form
  subst e4
  obtain ⟨hc1, hf1⟩ := bcell hb1
  have hz1 : w.heap.size + 2 < w1.heap.size := by have := hb1.size; simp at this; omega
  have hy1 : w.heap.size + 1 < w1.heap.size := by omega
  have hx1 : w.heap.size < w1.heap.size := by omega
  go_wp2_with fail
  refine (toPatS x.pats _ _ (r5.kept PatEl.st (by repeat (first | with_reducible exact Kept.al3 _ _ _ _ | with_reducible exact (Kept.al3 _ _ _ _).trans (Kept.of_below hb1) | (with_reducible refine Kept.set ?_ _ (by omega)) ))) (by have := HZ.out; have := bulkL_len bPat x.pats; omega) (by have := HZ.out; omega)).mono ?_
  rintro e w2 ⟨u5, F5, rfl, ru5, hF5, hN5, hb2⟩
  obtain ⟨b5, cb5, e5, -, -⟩ := (ru5.reads PatOwn.reads).form
  subst e5
  obtain ⟨hc2, hf2⟩ := bcell hb2
  simp only [setCell_size] at hc2 hf2
  have hz2 : w.heap.size + 2 < w2.heap.size := by have := hb2.size; rw [setCell_size] at this; omega
  have hy2 : w.heap.size + 1 < w2.heap.size := by omega
  have hx2 : w.heap.size < w2.heap.size := by omega
  go_wp2
  refine bodyPost_ret (v := .agg #[.int .i64 x.kind, .int .i64 x.at_, .int .i64 x.n, .string x.s, .slice b4 x.kids.length cb4, .slice b5 x.pats.length cb5]) (by simp [results, Tryz.results31, go_sem, hc1, hy1, hc2]) rfl ⟨_, _, F4, F5, rfl, ?_, ?_, ?_, ?_, ?_⟩
  · repeat (first | with_reducible exact ru4 | (with_reducible refine RowOwn.set IntFlat.loc (Flat.sized IntEl) ?_ _ _ (fun e => by have := hF4 _ e; simp at this; omega)) | (with_reducible refine RowOwn.kept IntFlat.loc (Flat.sized IntEl) ?_ hb2))
  · repeat (first | with_reducible exact ru5 | (with_reducible refine RowOwn.set PatOwn.loc PatOwn.sized ?_ _ _ (fun e => by have := hF5 _ e; rw [setCell_size] at this; omega)))
  · intro g hg; rcases List.mem_append.1 hg with hg | hg
    · have := hF4 g hg; simp at this; omega
    · have := hF5 g hg; rw [setCell_size] at this; omega
  · exact List.nodup_append.2 ⟨hN4, hN5, fun a ha b hb => by have h1 := ru4.sized (Flat.sized IntEl) a ha; have h2 := hF5 b hb; rw [setCell_size] at h2; omega⟩
  · repeat (first | (with_reducible refine Below.setCell ?_ (by first | (simp; done) | (simp; omega) | (rw [setCell_size]; omega)) _) | (with_reducible refine Below.trans ?_ (hb2.mono (by first | (simp; done) | (simp; omega) | (rw [setCell_size]; omega)))) | with_reducible exact below_tr (Joins.below_alloc3 w _ _ _) hb1)
theorem toNodeS (l : List Nd) (v : Value) (w : World) (hR : RowRd 6 NdEl w v l) (hlen : l.length ≤ 1048576) (hz : bulkL bNd l ≤ 1048576) :
    Calls Tryz.prog 14 #[v] w (RowPost 6 NdOwn l w) := by
  obtain ⟨a, cap, rfl, hm, hR⟩ := hR.form
  have hm' := hm
  unfold maxLen at hm
  obtain ⟨W0, hmk, hT⟩ := make_t (P := Tryz.prog) (E := NdOwn) w 29 49 (.agg #[.int .i64 0, .int .i64 0, .int .i64 0, .string ⟨#[]⟩, .slice none 0 0, .slice none 0 0]) 6 88 l Tryz.underlying29 (by kernel_rfl) hlen (by decide) (by decide)
  have HT := Lib.hid hT
  clear hT
  go_enter Tryz.func14, Tryz.ntmps14
  go_wp2
  have hT := HT.out
  clear hmk HT
  go_loopw [4] (fun i wr => ∃ (j : Nat) (Fs : List (List Nat)), i = .int .i64 j ∧ j ≤ l.length ∧ TInv 6 NdOwn w w.heap.size l Fs j wr) (fun i _ => l.length - (intOf i).toNat)
  case atStart => exact ⟨0, [], rfl, Nat.zero_le _, hT⟩
  case round =>
    obtain ⟨j, Fs, rfl, hj, hI⟩ := hrel
    by_cases hlt : j < l.length
    · obtain ⟨b, o, rfl, hbw, hc⟩ := hR (by omega)
      have ex := NdEl.st w wr b _ _ (Kept.of_below hI.bel) hbw (hc j hlt)
      have hbl := bulkL_mem bNd l j hlt
      have HBL := Lib.hid (show bNd l[j] ≤ 1048576 by omega)
      clear hbl
      clear hc hR hT
      have HI := Lib.hid hI
      have hg := hI.lt
      have hfr := hI.fr
      obtain ⟨y0, z0⟩ := hI.all (j * 6) (by omega)
      obtain ⟨y1, z1⟩ := hI.all (j * 6 + 1) (by omega)
      obtain ⟨y2, z2⟩ := hI.all (j * 6 + 2) (by omega)
      obtain ⟨y3, z3⟩ := hI.all (j * 6 + 3) (by omega)
      obtain ⟨y4, z4⟩ := hI.all (j * 6 + 4) (by omega)
      obtain ⟨y5, z5⟩ := hI.all (j * 6 + 5) (by omega)
      clear hI
      generalize hx : l[j] = x at *
      have HX := Lib.hid hx
      clear hx
      obtain ⟨⟨e0, i0⟩, ⟨e1, i1⟩, ⟨e2, i2⟩, ⟨e3, i3⟩, ⟨v4, e4, r4⟩, ⟨v5, e5, r5⟩⟩ := ex
      obtain ⟨a4, ca4, rfl, -, -⟩ := r4.form
      obtain ⟨a5, ca5, rfl, -, -⟩ := r5.form
      go_wp2_with fail
      refine (toNode x _ _ _ r4 r5 HBL.out).mono ?_
      rintro e w1 ⟨u4, u5, F4, F5, rfl, ru4, ru5, hF, hN, hb1⟩
      obtain ⟨b4, cb4, e_4, -, -⟩ := (ru4.reads (Flat.reads IntEl)).form
      subst e_4
      obtain ⟨b5, cb5, e_5, -, -⟩ := (ru5.reads PatOwn.reads).form
      subst e_5
      have q0 := (hb1.cell (p := ⟨w.heap.size, j * 6, none⟩) hg).trans z0
      have q1 := (hb1.cell (p := ⟨w.heap.size, j * 6 + 1, none⟩) hg).trans z1
      have q2 := (hb1.cell (p := ⟨w.heap.size, j * 6 + 2, none⟩) hg).trans z2
      have q3 := (hb1.cell (p := ⟨w.heap.size, j * 6 + 3, none⟩) hg).trans z3
      have q4 := (hb1.cell (p := ⟨w.heap.size, j * 6 + 4, none⟩) hg).trans z4
      have q5 := (hb1.cell (p := ⟨w.heap.size, j * 6 + 5, none⟩) hg).trans z5
      have hfr1 : ∀ i, w1.frozen? ⟨w.heap.size, i, none⟩ = false := fun i => (hb1.frozen (p := ⟨w.heap.size, i, none⟩) hg).trans (hfr i)
      clear z0 z1 z2 z3 z4 z5 hfr e0 e1 e2 e3 e4 e5
      go_wp2
      go_roundw
      case rel =>
        have hO := (((((((Out.refl w.heap.size (j * 6) 6 [] wr).below hg hb1).set (j * 6) (.int .i64 x.kind) ⟨by omega, by omega⟩).set (j * 6 + 1) (.int .i64 x.at_) ⟨by omega, by omega⟩).set (j * 6 + 2) (.int .i64 x.n) ⟨by omega, by omega⟩).set (j * 6 + 3) (.string x.s) ⟨by omega, by omega⟩).set (j * 6 + 4) (.slice b4 x.kids.length cb4) ⟨by omega, by omega⟩).set (j * 6 + 5) (.slice b5 x.pats.length cb5) ⟨by omega, by omega⟩
        have hA : ∀ d, d < 6 → ∃ u, World.cell? ((((((w1.setCell ⟨w.heap.size, j * 6, none⟩ (.int .i64 x.kind)).setCell ⟨w.heap.size, j * 6 + 1, none⟩ (.int .i64 x.at_)).setCell ⟨w.heap.size, j * 6 + 2, none⟩ (.int .i64 x.n)).setCell ⟨w.heap.size, j * 6 + 3, none⟩ (.string x.s)).setCell ⟨w.heap.size, j * 6 + 4, none⟩ (.slice b4 x.kids.length cb4)).setCell ⟨w.heap.size, j * 6 + 5, none⟩ (.slice b5 x.pats.length cb5)) ⟨w.heap.size, j * 6 + d, none⟩ = some u := fun d hd => by
          rcases (show d = 0 ∨ d = 1 ∨ d = 2 ∨ d = 3 ∨ d = 4 ∨ d = 5 by omega) with rfl | rfl | rfl | rfl | rfl | rfl
          · exact ⟨_, (cell_off (by omega)).trans ((cell_off (by omega)).trans ((cell_off (by omega)).trans ((cell_off (by omega)).trans ((cell_off (by omega)).trans (World.cell?_setCell_same _ _ _ (q0))))))⟩
          · exact ⟨_, (cell_off (by omega)).trans ((cell_off (by omega)).trans ((cell_off (by omega)).trans ((cell_off (by omega)).trans (World.cell?_setCell_same _ _ _ ((cell_off (by omega)).trans (q1))))))⟩
          · exact ⟨_, (cell_off (by omega)).trans ((cell_off (by omega)).trans ((cell_off (by omega)).trans (World.cell?_setCell_same _ _ _ ((cell_off (by omega)).trans ((cell_off (by omega)).trans (q2))))))⟩
          · exact ⟨_, (cell_off (by omega)).trans ((cell_off (by omega)).trans (World.cell?_setCell_same _ _ _ ((cell_off (by omega)).trans ((cell_off (by omega)).trans ((cell_off (by omega)).trans (q3))))))⟩
          · exact ⟨_, (cell_off (by omega)).trans (World.cell?_setCell_same _ _ _ ((cell_off (by omega)).trans ((cell_off (by omega)).trans ((cell_off (by omega)).trans ((cell_off (by omega)).trans (q4))))))⟩
          · exact ⟨_, World.cell?_setCell_same _ _ _ ((cell_off (by omega)).trans ((cell_off (by omega)).trans ((cell_off (by omega)).trans ((cell_off (by omega)).trans ((cell_off (by omega)).trans (q5))))))⟩
        have hD : NdOwn ((((((w1.setCell ⟨w.heap.size, j * 6, none⟩ (.int .i64 x.kind)).setCell ⟨w.heap.size, j * 6 + 1, none⟩ (.int .i64 x.at_)).setCell ⟨w.heap.size, j * 6 + 2, none⟩ (.int .i64 x.n)).setCell ⟨w.heap.size, j * 6 + 3, none⟩ (.string x.s)).setCell ⟨w.heap.size, j * 6 + 4, none⟩ (.slice b4 x.kids.length cb4)).setCell ⟨w.heap.size, j * 6 + 5, none⟩ (.slice b5 x.pats.length cb5)) w.heap.size (j * 6) x (F4 ++ F5) := ⟨F4, F5, rfl, ⟨(cell_off (by omega)).trans ((cell_off (by omega)).trans ((cell_off (by omega)).trans ((cell_off (by omega)).trans ((cell_off (by omega)).trans (World.cell?_setCell_same _ _ _ (q0)))))), i0⟩, ⟨(cell_off (by omega)).trans ((cell_off (by omega)).trans ((cell_off (by omega)).trans ((cell_off (by omega)).trans (World.cell?_setCell_same _ _ _ ((cell_off (by omega)).trans (q1)))))), i1⟩, ⟨(cell_off (by omega)).trans ((cell_off (by omega)).trans ((cell_off (by omega)).trans (World.cell?_setCell_same _ _ _ ((cell_off (by omega)).trans ((cell_off (by omega)).trans (q2)))))), i2⟩, ⟨(cell_off (by omega)).trans ((cell_off (by omega)).trans (World.cell?_setCell_same _ _ _ ((cell_off (by omega)).trans ((cell_off (by omega)).trans ((cell_off (by omega)).trans (q3)))))), i3⟩, ⟨_, (cell_off (by omega)).trans (World.cell?_setCell_same _ _ _ ((cell_off (by omega)).trans ((cell_off (by omega)).trans ((cell_off (by omega)).trans ((cell_off (by omega)).trans (q4)))))), ((((((ru4).set IntFlat.loc (Flat.sized IntEl) (j * 6) (.int .i64 x.kind) (fun e => absurd (hF _ (List.mem_append_left _ e)) (by omega))).set IntFlat.loc (Flat.sized IntEl) (j * 6 + 1) (.int .i64 x.at_) (fun e => absurd (hF _ (List.mem_append_left _ e)) (by omega))).set IntFlat.loc (Flat.sized IntEl) (j * 6 + 2) (.int .i64 x.n) (fun e => absurd (hF _ (List.mem_append_left _ e)) (by omega))).set IntFlat.loc (Flat.sized IntEl) (j * 6 + 3) (.string x.s) (fun e => absurd (hF _ (List.mem_append_left _ e)) (by omega))).set IntFlat.loc (Flat.sized IntEl) (j * 6 + 4) (.slice b4 x.kids.length cb4) (fun e => absurd (hF _ (List.mem_append_left _ e)) (by omega))).set IntFlat.loc (Flat.sized IntEl) (j * 6 + 5) (.slice b5 x.pats.length cb5) (fun e => absurd (hF _ (List.mem_append_left _ e)) (by omega))⟩, ⟨_, World.cell?_setCell_same _ _ _ ((cell_off (by omega)).trans ((cell_off (by omega)).trans ((cell_off (by omega)).trans ((cell_off (by omega)).trans ((cell_off (by omega)).trans (q5)))))), ((((((ru5).set PatOwn.loc PatOwn.sized (j * 6) (.int .i64 x.kind) (fun e => absurd (hF _ (List.mem_append_right _ e)) (by omega))).set PatOwn.loc PatOwn.sized (j * 6 + 1) (.int .i64 x.at_) (fun e => absurd (hF _ (List.mem_append_right _ e)) (by omega))).set PatOwn.loc PatOwn.sized (j * 6 + 2) (.int .i64 x.n) (fun e => absurd (hF _ (List.mem_append_right _ e)) (by omega))).set PatOwn.loc PatOwn.sized (j * 6 + 3) (.string x.s) (fun e => absurd (hF _ (List.mem_append_right _ e)) (by omega))).set PatOwn.loc PatOwn.sized (j * 6 + 4) (.slice b4 x.kids.length cb4) (fun e => absurd (hF _ (List.mem_append_right _ e)) (by omega))).set PatOwn.loc PatOwn.sized (j * 6 + 5) (.slice b5 x.pats.length cb5) (fun e => absurd (hF _ (List.mem_append_right _ e)) (by omega))⟩⟩
        exact ⟨j + 1, Fs ++ [F4 ++ F5], by go_num, by omega, HI.out.step NdOwn.loc NdOwn.sized hlt hF hN hO hA (by rw [HX.out]; exact hD)⟩
      case measure => simp [intOf]; omega
    · obtain rfl : j = l.length := by omega
      go_wp2
      go_ret
      exact hI.fin rfl hm' rfl
def ToProgramPost (x : Pg) (w : World) (e : Ending) (w' : World) : Prop := ∃ (u0 u1 : Value) (F0 F1 : List Nat), e = .returned (.agg #[u0, u1]) ∧ RowOwn 3 TpOwn w' u0 x.types F0 ∧ RowOwn 6 NdOwn w' u1 x.nodes F1 ∧ (∀ g ∈ F0 ++ F1, w.heap.size ≤ g) ∧ (F0 ++ F1).Nodup ∧ Below w.heap.size w w'
set_option maxHeartbeats 1000000 in
theorem toProgram (x : Pg) (v0 : Value) (v1 : Value) (w : World) (r0 : RowRd 3 TpEl w v0 x.types) (r1 : RowRd 6 NdEl w v1 x.nodes) (hz : bPg x ≤ 1048576) :
    Calls Tryz.prog 6 #[.agg #[v0, v1]] w (ToProgramPost x w) := by
  obtain ⟨a0, ca0, e0, -, -⟩ := r0.form
  subst e0
  obtain ⟨a1, ca1, e1, -, -⟩ := r1.form
  subst e1
  simp only [bPg] at hz
  have HZ := Lib.hid hz
  clear hz
  go_enter Tryz.func6, Tryz.ntmps6
  go_wp2_with fail
  refine (toTypeS x.types _ _ (r0.kept TpEl.st (by repeat (first | with_reducible exact Kept.al3 _ _ _ _ | (with_reducible refine Kept.set ?_ _ (by omega)) ))) (by have := HZ.out; have := bulkL_len bTp x.types; omega) (by have := HZ.out; omega)).mono ?_
  rintro e w1 ⟨u0, F0, rfl, ru0, hF0, hN0, hb1⟩
  obtain ⟨b0, cb0, e0, -, -⟩ := (ru0.reads TpOwn.reads).form
  subst e0
  obtain ⟨hc1, hf1⟩ := bcell hb1
  have hz1 : w.heap.size + 2 < w1.heap.size := by have := hb1.size; simp at this; omega
  have hy1 : w.heap.size + 1 < w1.heap.size := by omega
  have hx1 : w.heap.size < w1.heap.size := by omega
  go_wp2_with fail
  refine (toNodeS x.nodes _ _ (r1.kept NdEl.st (by repeat (first | with_reducible exact Kept.al3 _ _ _ _ | with_reducible exact (Kept.al3 _ _ _ _).trans (Kept.of_below hb1) | (with_reducible refine Kept.set ?_ _ (by omega)) ))) (by have := HZ.out; have := bulkL_len bNd x.nodes; omega) (by have := HZ.out; omega)).mono ?_
  rintro e w2 ⟨u1, F1, rfl, ru1, hF1, hN1, hb2⟩
  obtain ⟨b1, cb1, e1, -, -⟩ := (ru1.reads NdOwn.reads).form
  subst e1
  obtain ⟨hc2, hf2⟩ := bcell hb2
  simp only [setCell_size] at hc2 hf2
  have hz2 : w.heap.size + 2 < w2.heap.size := by have := hb2.size; rw [setCell_size] at this; omega
  have hy2 : w.heap.size + 1 < w2.heap.size := by omega
  have hx2 : w.heap.size < w2.heap.size := by omega
  go_wp2
  refine bodyPost_ret (v := .agg #[.slice b0 x.types.length cb0, .slice b1 x.nodes.length cb1]) (by simp [results, Tryz.results6, go_sem, hc1, hy1, hc2]) rfl ⟨_, _, F0, F1, rfl, ?_, ?_, ?_, ?_, ?_⟩
  · repeat (first | with_reducible exact ru0 | (with_reducible refine RowOwn.set TpOwn.loc TpOwn.sized ?_ _ _ (fun e => by have := hF0 _ e; simp at this; omega)) | (with_reducible refine RowOwn.kept TpOwn.loc TpOwn.sized ?_ hb2))
  · repeat (first | with_reducible exact ru1 | (with_reducible refine RowOwn.set NdOwn.loc NdOwn.sized ?_ _ _ (fun e => by have := hF1 _ e; rw [setCell_size] at this; omega)))
  · intro g hg; rcases List.mem_append.1 hg with hg | hg
    · have := hF0 g hg; simp at this; omega
    · have := hF1 g hg; rw [setCell_size] at this; omega
  · exact List.nodup_append.2 ⟨hN0, hN1, fun a ha b hb => by have h1 := ru0.sized TpOwn.sized a ha; have h2 := hF1 b hb; rw [setCell_size] at h2; omega⟩
  · repeat (first | (with_reducible refine Below.setCell ?_ (by first | (simp; done) | (simp; omega) | (rw [setCell_size]; omega)) _) | (with_reducible refine Below.trans ?_ (hb2.mono (by first | (simp; done) | (simp; omega) | (rw [setCell_size]; omega)))) | with_reducible exact below_tr (Joins.below_alloc3 w _ _ _) hb1)
end Go.Proofs.YtaibgnfjjbncpaaGreat
namespace Go.Proofs.YtaibgnfjjbncpaaGreat
set_option linter.unusedVariables false
set_option maxRecDepth 100000
open Go.ChangeShapes Go.WideShapes Go.ChangeAt Go.RowKit
theorem eqIntS (l : List Int) (v v' : Value) (w : World) (ha : RowRd 1 IntEl w v l) (hb : RowRd 1 IntEl w v' l) :
    Calls Tryz.prog 87 #[v, v'] w fun e w' => e = .returned (.bool true) ∧ Below w.heap.size w w' := by
  obtain ⟨a, cap, rfl, hm, ha⟩ := ha.form
  obtain ⟨b, cap', rfl, _, hb⟩ := hb.form
  unfold maxLen at hm
  go_enter Tryz.func87, Tryz.ntmps87
  go_wp2
  go_loopw [5] (fun i wr => ∃ j : Nat, i = .int .i64 j ∧ j ≤ l.length ∧ Below w.heap.size w wr) (fun i _ => l.length - (intOf i).toNat)
  case atStart => exact ⟨0, rfl, Nat.zero_le _, Below.refl _ _⟩
  case round =>
    obtain ⟨j, rfl, hj, hbel⟩ := hrel
    by_cases hlt : j < l.length
    · obtain ⟨ba, oa, rfl, hba, hca⟩ := ha (by omega)
      obtain ⟨bb, ob, rfl, hbb, hcb⟩ := hb (by omega)
      have hKr := Kept.of_below hbel
      have ea := IntEl.st w wr ba _ _ hKr hba (hca j hlt)
      have eb := IntEl.st w wr bb _ _ hKr hbb (hcb j hlt)
      clear hca hcb ha hb
      generalize l[j] = x at *
      obtain ⟨a0, ia⟩ := ea
      obtain ⟨b0, ib⟩ := eb
      rw [Nat.mul_one] at a0 b0
      go_wp2_with fail
      go_quiet (fail)
      go_wp2
      go_roundw
      case rel => exact ⟨j + 1, by go_num, by omega, below_drewN hbel _⟩
      case measure => simp [intOf]; omega
    · go_wp2
      go_ret
      exact ⟨rfl, hbel⟩
theorem eqTyItem (x : TyI) (w : World) :
    Calls Tryz.prog 160 #[.agg #[.int .i64 x.var, .string x.name, .int .i64 x.arity], .agg #[.int .i64 x.var, .string x.name, .int .i64 x.arity]] w fun e w' => e = .returned (.bool true) ∧ Below w.heap.size w w' := by
  go_enter Tryz.func160, Tryz.ntmps160
  go_wp2
  go_ret
  exact ⟨rfl, Joins.below_alloc2 w _ _⟩
theorem eqTyItemS (l : List TyI) (v v' : Value) (w : World) (ha : RowRd 3 TyIEl w v l) (hb : RowRd 3 TyIEl w v' l) :
    Calls Tryz.prog 155 #[v, v'] w fun e w' => e = .returned (.bool true) ∧ Below w.heap.size w w' := by
  obtain ⟨a, cap, rfl, hm, ha⟩ := ha.form
  obtain ⟨b, cap', rfl, _, hb⟩ := hb.form
  unfold maxLen at hm
  go_enter Tryz.func155, Tryz.ntmps155
  go_wp2
  go_loopw [5] (fun i wr => ∃ j : Nat, i = .int .i64 j ∧ j ≤ l.length ∧ Below w.heap.size w wr) (fun i _ => l.length - (intOf i).toNat)
  case atStart => exact ⟨0, rfl, Nat.zero_le _, Below.refl _ _⟩
  case round =>
    obtain ⟨j, rfl, hj, hbel⟩ := hrel
    by_cases hlt : j < l.length
    · obtain ⟨ba, oa, rfl, hba, hca⟩ := ha (by omega)
      obtain ⟨bb, ob, rfl, hbb, hcb⟩ := hb (by omega)
      have hKr := Kept.of_below hbel
      have ea := TyIEl.st w wr ba _ _ hKr hba (hca j hlt)
      have eb := TyIEl.st w wr bb _ _ hKr hbb (hcb j hlt)
      clear hca hcb ha hb
      generalize l[j] = x at *
      obtain ⟨⟨pc0, pi0⟩, ⟨pc1, pi1⟩, ⟨pc2, pi2⟩⟩ := ea
      obtain ⟨⟨qc0, qi0⟩, ⟨qc1, qi1⟩, ⟨qc2, qi2⟩⟩ := eb
      go_wp2_with fail
      go_still_tail 8, (by kernel_rfl)
      change wpList _ _ _ _ _ wr.drew
      have hbd : Below w.heap.size w wr.drew := hbel.drew
      generalize wr.drew = w2 at *
      clear hbel hKr pc0 qc0 pc1 qc1 pc2 qc2
      go_wp2_with fail
      refine (eqTyItem _ _).mono ?_
      rintro e w' ⟨rfl, hb1⟩
      go_wp2
      go_roundw
      case rel => exact ⟨j + 1, by go_num, by omega, hbd.trans (hb1.mono hbd.size)⟩
      case measure => simp [intOf]; omega
    · go_wp2
      go_ret
      exact ⟨rfl, hbel⟩
theorem eqTy (x : List TyI) (v0 u0 : Value) (w : World) (ra0 : RowRd 3 TyIEl w v0 x) (rb0 : RowRd 3 TyIEl w u0 x) :
    Calls Tryz.prog 138 #[.agg #[v0], .agg #[u0]] w fun e w' => e = .returned (.bool true) ∧ Below w.heap.size w w' := by
  obtain ⟨a0, ca0, rfl, -, -⟩ := ra0.form
  obtain ⟨b0, cb0, rfl, -, -⟩ := rb0.form
  go_enter Tryz.func138, Tryz.ntmps138
  go_wp2_with fail
  refine (eqTyItemS _ _ _ _ (ra0.kept TyIEl.st (Kept.al2 _ _ _)) (rb0.kept TyIEl.st (Kept.al2 _ _ _))).mono ?_
  rintro e w1 ⟨rfl, hb1⟩
  go_wp2
  go_ret
  exact ⟨rfl, below_tr (Joins.below_alloc2 w _ _) hb1⟩
theorem eqPNode (x : PN) (v3 u3 : Value) (w : World) (ra3 : RowRd 1 IntEl w v3 x.kids) (rb3 : RowRd 1 IntEl w u3 x.kids) :
    Calls Tryz.prog 156 #[.agg #[.int .i64 x.kind, .int .i64 x.n, .string x.s, v3], .agg #[.int .i64 x.kind, .int .i64 x.n, .string x.s, u3]] w fun e w' => e = .returned (.bool true) ∧ Below w.heap.size w w' := by
  obtain ⟨a3, ca3, rfl, -, -⟩ := ra3.form
  obtain ⟨b3, cb3, rfl, -, -⟩ := rb3.form
  go_enter Tryz.func156, Tryz.ntmps156
  go_wp2_with fail
  refine (eqIntS _ _ _ _ (ra3.kept IntEl.st (Kept.al2 _ _ _)) (rb3.kept IntEl.st (Kept.al2 _ _ _))).mono ?_
  rintro e w1 ⟨rfl, hb1⟩
  go_wp2
  go_ret
  exact ⟨rfl, below_tr (Joins.below_alloc2 w _ _) hb1⟩
theorem eqPNodeS (l : List PN) (v v' : Value) (w : World) (ha : RowRd 4 PNEl w v l) (hb : RowRd 4 PNEl w v' l) :
    Calls Tryz.prog 139 #[v, v'] w fun e w' => e = .returned (.bool true) ∧ Below w.heap.size w w' := by
  obtain ⟨a, cap, rfl, hm, ha⟩ := ha.form
  obtain ⟨b, cap', rfl, _, hb⟩ := hb.form
  unfold maxLen at hm
  go_enter Tryz.func139, Tryz.ntmps139
  go_wp2
  go_loopw [5] (fun i wr => ∃ j : Nat, i = .int .i64 j ∧ j ≤ l.length ∧ Below w.heap.size w wr) (fun i _ => l.length - (intOf i).toNat)
  case atStart => exact ⟨0, rfl, Nat.zero_le _, Below.refl _ _⟩
  case round =>
    obtain ⟨j, rfl, hj, hbel⟩ := hrel
    by_cases hlt : j < l.length
    · obtain ⟨ba, oa, rfl, hba, hca⟩ := ha (by omega)
      obtain ⟨bb, ob, rfl, hbb, hcb⟩ := hb (by omega)
      have hKr := Kept.of_below hbel
      have ea := PNEl.st w wr ba _ _ hKr hba (hca j hlt)
      have eb := PNEl.st w wr bb _ _ hKr hbb (hcb j hlt)
      clear hca hcb ha hb
      generalize l[j] = x at *
      obtain ⟨⟨pc0, pi0⟩, ⟨pc1, pi1⟩, ⟨pc2, pi2⟩, ⟨pv3, pc3, pr3⟩⟩ := ea
      obtain ⟨⟨qc0, qi0⟩, ⟨qc1, qi1⟩, ⟨qc2, qi2⟩, ⟨qv3, qc3, qr3⟩⟩ := eb
      obtain ⟨pa3, pc103, rfl, -, -⟩ := pr3.form
      obtain ⟨qa3, qc103, rfl, -, -⟩ := qr3.form
      go_wp2_with fail
      go_still_tail 8, (by kernel_rfl)
      change wpList _ _ _ _ _ wr.drew
      have hbd : Below w.heap.size w wr.drew := hbel.drew
      replace pr3 := pr3.kept IntEl.st (Kept.drew wr)
      replace qr3 := qr3.kept IntEl.st (Kept.drew wr)
      generalize wr.drew = w2 at *
      clear hbel hKr pc0 qc0 pc1 qc1 pc2 qc2 pc3 qc3
      go_wp2_with fail
      refine (eqPNode _ _ _ _ pr3 qr3).mono ?_
      rintro e w' ⟨rfl, hb1⟩
      go_wp2
      go_roundw
      case rel => exact ⟨j + 1, by go_num, by omega, hbd.trans (hb1.mono hbd.size)⟩
      case measure => simp [intOf]; omega
    · go_wp2
      go_ret
      exact ⟨rfl, hbel⟩
theorem eqPat (x : List PN) (v0 u0 : Value) (w : World) (ra0 : RowRd 4 PNEl w v0 x) (rb0 : RowRd 4 PNEl w u0 x) :
    Calls Tryz.prog 116 #[.agg #[v0], .agg #[u0]] w fun e w' => e = .returned (.bool true) ∧ Below w.heap.size w w' := by
  obtain ⟨a0, ca0, rfl, -, -⟩ := ra0.form
  obtain ⟨b0, cb0, rfl, -, -⟩ := rb0.form
  go_enter Tryz.func116, Tryz.ntmps116
  go_wp2_with fail
  refine (eqPNodeS _ _ _ _ (ra0.kept PNEl.st (Kept.al2 _ _ _)) (rb0.kept PNEl.st (Kept.al2 _ _ _))).mono ?_
  rintro e w1 ⟨rfl, hb1⟩
  go_wp2
  go_ret
  exact ⟨rfl, below_tr (Joins.below_alloc2 w _ _) hb1⟩
theorem eqPatS (l : List (List PN)) (v v' : Value) (w : World) (ha : RowRd 1 PatEl w v l) (hb : RowRd 1 PatEl w v' l) :
    Calls Tryz.prog 88 #[v, v'] w fun e w' => e = .returned (.bool true) ∧ Below w.heap.size w w' := by
  obtain ⟨a, cap, rfl, hm, ha⟩ := ha.form
  obtain ⟨b, cap', rfl, _, hb⟩ := hb.form
  unfold maxLen at hm
  go_enter Tryz.func88, Tryz.ntmps88
  go_wp2
  go_loopw [5] (fun i wr => ∃ j : Nat, i = .int .i64 j ∧ j ≤ l.length ∧ Below w.heap.size w wr) (fun i _ => l.length - (intOf i).toNat)
  case atStart => exact ⟨0, rfl, Nat.zero_le _, Below.refl _ _⟩
  case round =>
    obtain ⟨j, rfl, hj, hbel⟩ := hrel
    by_cases hlt : j < l.length
    · obtain ⟨ba, oa, rfl, hba, hca⟩ := ha (by omega)
      obtain ⟨bb, ob, rfl, hbb, hcb⟩ := hb (by omega)
      have hKr := Kept.of_below hbel
      have ea := PatEl.st w wr ba _ _ hKr hba (hca j hlt)
      have eb := PatEl.st w wr bb _ _ hKr hbb (hcb j hlt)
      clear hca hcb ha hb
      generalize l[j] = x at *
      obtain ⟨pv0, pc0, pr0⟩ := ea
      obtain ⟨qv0, qc0, qr0⟩ := eb
      obtain ⟨pa0, pc100, rfl, -, -⟩ := pr0.form
      obtain ⟨qa0, qc100, rfl, -, -⟩ := qr0.form
      rw [Nat.mul_one] at pc0 qc0
      go_wp2_with fail
      go_still_tail 8, (by kernel_rfl)
      change wpList _ _ _ _ _ wr.drew
      have hbd : Below w.heap.size w wr.drew := hbel.drew
      replace pr0 := pr0.kept PNEl.st (Kept.drew wr)
      replace qr0 := qr0.kept PNEl.st (Kept.drew wr)
      generalize wr.drew = w2 at *
      clear hbel hKr pc0 qc0
      go_wp2_with fail
      refine (eqPat _ _ _ _ pr0 qr0).mono ?_
      rintro e w' ⟨rfl, hb1⟩
      go_wp2
      go_roundw
      case rel => exact ⟨j + 1, by go_num, by omega, hbd.trans (hb1.mono hbd.size)⟩
      case measure => simp [intOf]; omega
    · go_wp2
      go_ret
      exact ⟨rfl, hbel⟩
theorem eqCon (x : Cn) (v2 u2 : Value) (w : World) (ra2 : RowRd 3 TyIEl w v2 x.arg) (rb2 : RowRd 3 TyIEl w u2 x.arg) :
    Calls Tryz.prog 115 #[.agg #[.string x.name, .bool x.has, v2], .agg #[.string x.name, .bool x.has, u2]] w fun e w' => e = .returned (.bool true) ∧ Below w.heap.size w w' := by
  obtain ⟨a2, ca2, rfl, -, -⟩ := ra2.form
  obtain ⟨b2, cb2, rfl, -, -⟩ := rb2.form
  go_enter Tryz.func115, Tryz.ntmps115
  go_wp2_with fail
  refine (eqTy x.arg _ _ _ (ra2.kept TyIEl.st (Kept.al2 _ _ _)) (rb2.kept TyIEl.st (Kept.al2 _ _ _))).mono ?_
  rintro e w1 ⟨rfl, hb1⟩
  go_wp2
  go_ret
  exact ⟨rfl, below_tr (Joins.below_alloc2 w _ _) hb1⟩
theorem eqConS (l : List Cn) (v v' : Value) (w : World) (ha : RowRd 3 CnEl w v l) (hb : RowRd 3 CnEl w v' l) :
    Calls Tryz.prog 86 #[v, v'] w fun e w' => e = .returned (.bool true) ∧ Below w.heap.size w w' := by
  obtain ⟨a, cap, rfl, hm, ha⟩ := ha.form
  obtain ⟨b, cap', rfl, _, hb⟩ := hb.form
  unfold maxLen at hm
  go_enter Tryz.func86, Tryz.ntmps86
  go_wp2
  go_loopw [5] (fun i wr => ∃ j : Nat, i = .int .i64 j ∧ j ≤ l.length ∧ Below w.heap.size w wr) (fun i _ => l.length - (intOf i).toNat)
  case atStart => exact ⟨0, rfl, Nat.zero_le _, Below.refl _ _⟩
  case round =>
    obtain ⟨j, rfl, hj, hbel⟩ := hrel
    by_cases hlt : j < l.length
    · obtain ⟨ba, oa, rfl, hba, hca⟩ := ha (by omega)
      obtain ⟨bb, ob, rfl, hbb, hcb⟩ := hb (by omega)
      have hKr := Kept.of_below hbel
      have ea := CnEl.st w wr ba _ _ hKr hba (hca j hlt)
      have eb := CnEl.st w wr bb _ _ hKr hbb (hcb j hlt)
      clear hca hcb ha hb
      generalize l[j] = x at *
      obtain ⟨⟨pc0, pi0⟩, pc1, ⟨pv2, pc2, pr2⟩⟩ := ea
      obtain ⟨⟨qc0, qi0⟩, qc1, ⟨qv2, qc2, qr2⟩⟩ := eb
      obtain ⟨pa2, pc102, rfl, -, -⟩ := pr2.form
      obtain ⟨qa2, qc102, rfl, -, -⟩ := qr2.form
      unfold BoolEl at pc1 qc1
      go_wp2_with fail
      go_still_tail 8, (by kernel_rfl)
      change wpList _ _ _ _ _ wr.drew
      have hbd : Below w.heap.size w wr.drew := hbel.drew
      replace pr2 := pr2.kept TyIEl.st (Kept.drew wr)
      replace qr2 := qr2.kept TyIEl.st (Kept.drew wr)
      generalize wr.drew = w2 at *
      clear hbel hKr pc0 qc0 pc1 qc1 pc2 qc2
      go_wp2_with fail
      refine (eqCon _ _ _ _ pr2 qr2).mono ?_
      rintro e w' ⟨rfl, hb1⟩
      go_wp2
      go_roundw
      case rel => exact ⟨j + 1, by go_num, by omega, hbd.trans (hb1.mono hbd.size)⟩
      case measure => simp [intOf]; omega
    · go_wp2
      go_ret
      exact ⟨rfl, hbel⟩
theorem eqType (x : Tp) (v2 u2 : Value) (w : World) (ra2 : RowRd 3 CnEl w v2 x.cons) (rb2 : RowRd 3 CnEl w u2 x.cons) :
    Calls Tryz.prog 45 #[.agg #[.string x.name, .int .i64 x.params, v2], .agg #[.string x.name, .int .i64 x.params, u2]] w fun e w' => e = .returned (.bool true) ∧ Below w.heap.size w w' := by
  obtain ⟨a2, ca2, rfl, -, -⟩ := ra2.form
  obtain ⟨b2, cb2, rfl, -, -⟩ := rb2.form
  go_enter Tryz.func45, Tryz.ntmps45
  go_wp2_with fail
  refine (eqConS _ _ _ _ (ra2.kept CnEl.st (Kept.al2 _ _ _)) (rb2.kept CnEl.st (Kept.al2 _ _ _))).mono ?_
  rintro e w1 ⟨rfl, hb1⟩
  go_wp2
  go_ret
  exact ⟨rfl, below_tr (Joins.below_alloc2 w _ _) hb1⟩
theorem eqTypeS (l : List Tp) (v v' : Value) (w : World) (ha : RowRd 3 TpEl w v l) (hb : RowRd 3 TpEl w v' l) :
    Calls Tryz.prog 20 #[v, v'] w fun e w' => e = .returned (.bool true) ∧ Below w.heap.size w w' := by
  obtain ⟨a, cap, rfl, hm, ha⟩ := ha.form
  obtain ⟨b, cap', rfl, _, hb⟩ := hb.form
  unfold maxLen at hm
  go_enter Tryz.func20, Tryz.ntmps20
  go_wp2
  go_loopw [5] (fun i wr => ∃ j : Nat, i = .int .i64 j ∧ j ≤ l.length ∧ Below w.heap.size w wr) (fun i _ => l.length - (intOf i).toNat)
  case atStart => exact ⟨0, rfl, Nat.zero_le _, Below.refl _ _⟩
  case round =>
    obtain ⟨j, rfl, hj, hbel⟩ := hrel
    by_cases hlt : j < l.length
    · obtain ⟨ba, oa, rfl, hba, hca⟩ := ha (by omega)
      obtain ⟨bb, ob, rfl, hbb, hcb⟩ := hb (by omega)
      have hKr := Kept.of_below hbel
      have ea := TpEl.st w wr ba _ _ hKr hba (hca j hlt)
      have eb := TpEl.st w wr bb _ _ hKr hbb (hcb j hlt)
      clear hca hcb ha hb
      generalize l[j] = x at *
      obtain ⟨⟨pc0, pi0⟩, ⟨pc1, pi1⟩, ⟨pv2, pc2, pr2⟩⟩ := ea
      obtain ⟨⟨qc0, qi0⟩, ⟨qc1, qi1⟩, ⟨qv2, qc2, qr2⟩⟩ := eb
      obtain ⟨pa2, pc102, rfl, -, -⟩ := pr2.form
      obtain ⟨qa2, qc102, rfl, -, -⟩ := qr2.form
      go_wp2_with fail
      go_still_tail 8, (by kernel_rfl)
      change wpList _ _ _ _ _ wr.drew
      have hbd : Below w.heap.size w wr.drew := hbel.drew
      replace pr2 := pr2.kept CnEl.st (Kept.drew wr)
      replace qr2 := qr2.kept CnEl.st (Kept.drew wr)
      generalize wr.drew = w2 at *
      clear hbel hKr pc0 qc0 pc1 qc1 pc2 qc2
      go_wp2_with fail
      refine (eqType _ _ _ _ pr2 qr2).mono ?_
      rintro e w' ⟨rfl, hb1⟩
      go_wp2
      go_roundw
      case rel => exact ⟨j + 1, by go_num, by omega, hbd.trans (hb1.mono hbd.size)⟩
      case measure => simp [intOf]; omega
    · go_wp2
      go_ret
      exact ⟨rfl, hbel⟩
theorem eqNode (x : Nd) (v4 u4 : Value) (v5 u5 : Value) (w : World) (ra4 : RowRd 1 IntEl w v4 x.kids) (rb4 : RowRd 1 IntEl w u4 x.kids) (ra5 : RowRd 1 PatEl w v5 x.pats) (rb5 : RowRd 1 PatEl w u5 x.pats) :
    Calls Tryz.prog 46 #[.agg #[.int .i64 x.kind, .int .i64 x.at_, .int .i64 x.n, .string x.s, v4, v5], .agg #[.int .i64 x.kind, .int .i64 x.at_, .int .i64 x.n, .string x.s, u4, u5]] w fun e w' => e = .returned (.bool true) ∧ Below w.heap.size w w' := by
  obtain ⟨a4, ca4, rfl, -, -⟩ := ra4.form
  obtain ⟨b4, cb4, rfl, -, -⟩ := rb4.form
  obtain ⟨a5, ca5, rfl, -, -⟩ := ra5.form
  obtain ⟨b5, cb5, rfl, -, -⟩ := rb5.form
  go_enter Tryz.func46, Tryz.ntmps46
  go_wp2_with fail
  refine (eqIntS _ _ _ _ (ra4.kept IntEl.st (Kept.al2 _ _ _)) (rb4.kept IntEl.st (Kept.al2 _ _ _))).mono ?_
  rintro e w1 ⟨rfl, hb1⟩
  obtain ⟨hc1, hf1⟩ := bcell hb1
  go_wp2_with fail
  refine (eqPatS _ _ _ _ (ra5.kept PatEl.st ((Kept.al2 _ _ _).trans (Kept.of_below hb1))) (rb5.kept PatEl.st ((Kept.al2 _ _ _).trans (Kept.of_below hb1)))).mono ?_
  rintro e w2 ⟨rfl, hb2⟩
  go_wp2
  go_ret
  exact ⟨rfl, below_tr (below_tr (Joins.below_alloc2 w _ _) hb1) hb2⟩
theorem eqNodeS (l : List Nd) (v v' : Value) (w : World) (ha : RowRd 6 NdEl w v l) (hb : RowRd 6 NdEl w v' l) :
    Calls Tryz.prog 21 #[v, v'] w fun e w' => e = .returned (.bool true) ∧ Below w.heap.size w w' := by
  obtain ⟨a, cap, rfl, hm, ha⟩ := ha.form
  obtain ⟨b, cap', rfl, _, hb⟩ := hb.form
  unfold maxLen at hm
  go_enter Tryz.func21, Tryz.ntmps21
  go_wp2
  go_loopw [5] (fun i wr => ∃ j : Nat, i = .int .i64 j ∧ j ≤ l.length ∧ Below w.heap.size w wr) (fun i _ => l.length - (intOf i).toNat)
  case atStart => exact ⟨0, rfl, Nat.zero_le _, Below.refl _ _⟩
  case round =>
    obtain ⟨j, rfl, hj, hbel⟩ := hrel
    by_cases hlt : j < l.length
    · obtain ⟨ba, oa, rfl, hba, hca⟩ := ha (by omega)
      obtain ⟨bb, ob, rfl, hbb, hcb⟩ := hb (by omega)
      have hKr := Kept.of_below hbel
      have ea := NdEl.st w wr ba _ _ hKr hba (hca j hlt)
      have eb := NdEl.st w wr bb _ _ hKr hbb (hcb j hlt)
      clear hca hcb ha hb
      generalize l[j] = x at *
      obtain ⟨⟨pc0, pi0⟩, ⟨pc1, pi1⟩, ⟨pc2, pi2⟩, ⟨pc3, pi3⟩, ⟨pv4, pc4, pr4⟩, ⟨pv5, pc5, pr5⟩⟩ := ea
      obtain ⟨⟨qc0, qi0⟩, ⟨qc1, qi1⟩, ⟨qc2, qi2⟩, ⟨qc3, qi3⟩, ⟨qv4, qc4, qr4⟩, ⟨qv5, qc5, qr5⟩⟩ := eb
      obtain ⟨pa4, pc104, rfl, -, -⟩ := pr4.form
      obtain ⟨qa4, qc104, rfl, -, -⟩ := qr4.form
      obtain ⟨pa5, pc105, rfl, -, -⟩ := pr5.form
      obtain ⟨qa5, qc105, rfl, -, -⟩ := qr5.form
      go_wp2_with fail
      go_still_tail 8, (by kernel_rfl)
      change wpList _ _ _ _ _ wr.drew
      have hbd : Below w.heap.size w wr.drew := hbel.drew
      replace pr4 := pr4.kept IntEl.st (Kept.drew wr)
      replace qr4 := qr4.kept IntEl.st (Kept.drew wr)
      replace pr5 := pr5.kept PatEl.st (Kept.drew wr)
      replace qr5 := qr5.kept PatEl.st (Kept.drew wr)
      generalize wr.drew = w2 at *
      clear hbel hKr pc0 qc0 pc1 qc1 pc2 qc2 pc3 qc3 pc4 qc4 pc5 qc5
      go_wp2_with fail
      refine (eqNode _ _ _ _ _ _ pr4 qr4 pr5 qr5).mono ?_
      rintro e w' ⟨rfl, hb1⟩
      go_wp2
      go_roundw
      case rel => exact ⟨j + 1, by go_num, by omega, hbd.trans (hb1.mono hbd.size)⟩
      case measure => simp [intOf]; omega
    · go_wp2
      go_ret
      exact ⟨rfl, hbel⟩
theorem eqProgram (x : Pg) (v0 u0 : Value) (v1 u1 : Value) (w : World) (ra0 : RowRd 3 TpEl w v0 x.types) (rb0 : RowRd 3 TpEl w u0 x.types) (ra1 : RowRd 6 NdEl w v1 x.nodes) (rb1 : RowRd 6 NdEl w u1 x.nodes) :
    Calls Tryz.prog 8 #[.agg #[v0, v1], .agg #[u0, u1]] w fun e w' => e = .returned (.bool true) ∧ Below w.heap.size w w' := by
  obtain ⟨a0, ca0, rfl, -, -⟩ := ra0.form
  obtain ⟨b0, cb0, rfl, -, -⟩ := rb0.form
  obtain ⟨a1, ca1, rfl, -, -⟩ := ra1.form
  obtain ⟨b1, cb1, rfl, -, -⟩ := rb1.form
  go_enter Tryz.func8, Tryz.ntmps8
  go_wp2_with fail
  refine (eqTypeS _ _ _ _ (ra0.kept TpEl.st (Kept.al2 _ _ _)) (rb0.kept TpEl.st (Kept.al2 _ _ _))).mono ?_
  rintro e w1 ⟨rfl, hb1⟩
  obtain ⟨hc1, hf1⟩ := bcell hb1
  go_wp2_with fail
  refine (eqNodeS _ _ _ _ (ra1.kept NdEl.st ((Kept.al2 _ _ _).trans (Kept.of_below hb1))) (rb1.kept NdEl.st ((Kept.al2 _ _ _).trans (Kept.of_below hb1)))).mono ?_
  rintro e w2 ⟨rfl, hb2⟩
  go_wp2
  go_ret
  exact ⟨rfl, below_tr (below_tr (Joins.below_alloc2 w _ _) hb1) hb2⟩
end Go.Proofs.YtaibgnfjjbncpaaGreat
namespace Go.Proofs.YtaibgnfjjbncpaaGreat
set_option linter.unusedVariables false
open Go.RowKit

def lowB (c : Int) : Bool := decide (97 ≤ c) && decide (c ≤ 122)
def upB (c : Int) : Bool := decide (65 ≤ c) && decide (c ≤ 90)
def digB (c : Int) : Bool := decide (48 ≤ c) && decide (c ≤ 57)
def wbB (c : Int) : Bool := lowB c || (upB c || (digB c || c == 95))
def clsI (c : Int) : Int := if lowB c = true then 1 else if upB c = true then 2 else if (digB c || c == 95) = true then 3 else 0

theorem cls_if (c : Int) : clsI c = if 97 ≤ c ∧ c ≤ 122 then 1 else if 65 ≤ c ∧ c ≤ 90 then 2 else if (48 ≤ c ∧ c ≤ 57) ∨ c = 95 then 3 else 0 := by
  simp [clsI, lowB, upB, digB]
theorem cls_zero (c : Int) : (clsI c == 0) = !wbB c := by
  unfold clsI wbB
  cases lowB c <;> cases upB c <;> cases (digB c || c == 95) <;> simp
theorem cls_one (c : Int) : (clsI c == 1) = lowB c := by
  unfold clsI
  cases lowB c <;> cases upB c <;> cases (digB c || c == 95) <;> simp
theorem cls_two (c : Int) : (clsI c == 2) = upB c := by
  unfold clsI
  cases h : lowB c <;> cases h2 : upB c <;> cases (digB c || c == 95) <;> simp_all
  all_goals (unfold lowB at h; unfold upB at h2; simp at h h2; omega)

def allB (l : List UInt8) : Bool := l.all fun c => wbB (c.toNat : Int)
theorem allB_snoc (l : List UInt8) (c : UInt8) : allB (l ++ [c]) = (allB l && wbB (c.toNat : Int)) := by
  simp [allB]
theorem allB_take (l : List UInt8) (k : Nat) (h : allB l = true) : allB (l.take k) = true := by
  simp only [allB, List.all_eq_true] at *
  exact fun x hx => h x (List.mem_of_mem_take hx)
theorem take_snocT (s : ByteArray) (k : Nat) (h : k < s.size) : s.data.toList.take (k + 1) = s.data.toList.take k ++ [s[k]] := by
  rw [List.take_succ_eq_append_getElem (by simpa using h)]; rfl

theorem allB_no (s : ByteArray) (k : Nat) (hk : k < s.size) (h : wbB (s[k].toNat : Int) = false) : allB s.data.toList = false := by
  simp only [allB, List.all_eq_false]
  exact ⟨s[k], by exact List.getElem_mem (l := s.data.toList) (n := k) (by simpa using hk), by simp [h]⟩
theorem allB_step (s : ByteArray) (k : Nat) (hk : k < s.size) (h0 : allB (s.data.toList.take k) = true) (h : wbB (s[k].toNat : Int) = true) : allB (s.data.toList.take (k + 1)) = true := by
  rw [take_snocT s k hk, allB_snoc, h0, h]; rfl
theorem allB_end (s : ByteArray) (h0 : allB (s.data.toList.take s.size) = true) : allB s.data.toList = true := by
  rwa [List.take_of_length_le (by simp)] at h0
def fst (s : ByteArray) : Int := match s.data.toList with | c :: _ => (c.toNat : Int) | [] => 0
theorem fst_get (s : ByteArray) (h : 0 < s.size) : fst s = (s[0].toNat : Int) := by
  obtain ⟨⟨l⟩⟩ := s
  cases l with
  | nil => simp [ByteArray.size] at h
  | cons c t => rfl
def lenB (s : ByteArray) : Bool := decide (1 ≤ s.size) && decide (s.size ≤ 12)
def wordB (s : ByteArray) : Bool := lenB s && allB s.data.toList

def kws : List (List UInt8) := [[108, 101, 116], [114, 101, 99], [105, 110], [102, 117, 110], [105, 102], [116, 104, 101, 110], [101, 108, 115, 101], [109, 97, 116, 99, 104], [119, 105, 116, 104], [101, 110, 100],
  [116, 121, 112, 101], [111, 102], [114, 97, 105, 115, 101], [116, 114, 121], [114, 101, 102], [116, 114, 117, 101], [102, 97, 108, 115, 101]]
def kwB (s : ByteArray) : Bool := kws.any fun k => s.toList == k
theorem kw_yes (s : ByteArray) (x : List UInt8) (hx : x ∈ kws) (h : (s.toList == x) = true) : true = kwB s := by
  symm; rw [kwB, List.any_eq_true]; exact ⟨x, hx, h⟩
theorem kw_step (s : ByteArray) (k : Nat) (x : List UInt8) (hx : kws[k]? = some x) (h0 : (kws.take k).any (fun x => s.toList == x) = false) (h : (s.toList == x) = false) :
    (kws.take (k + 1)).any (fun x => s.toList == x) = false := by
  rw [List.take_add_one, hx, List.any_append, h0]; simp [h]
def nameB (s : ByteArray) : Bool := wordB s && (lowB (fst s) && !kwB s)
def conB (s : ByteArray) : Bool := wordB s && upB (fst s)
end Go.Proofs.YtaibgnfjjbncpaaGreat
namespace Go.Proofs.YtaibgnfjjbncpaaGreat
set_option linter.unusedVariables false
open Go.RowKit

/-- An item of a type by itself. -/
def itemB (x : TyI) : Bool :=
  if x.name.toList = [] then decide (0 ≤ x.var) && (decide (x.var ≤ 9999) && decide (x.arity = 0))
  else if x.var = 0 then
    (if x.name.toList = [45, 62] ∨ x.name.toList = [42] then decide (x.arity = 2) else if x.name.toList = [114, 101, 102] then decide (x.arity = 1) else nameB x.name && (decide (0 ≤ x.arity) && decide (x.arity ≤ 2)))
  else false
/-- Some steps from a place: each on from the last, until one fails (-1). -/
def iterE (g : Int → Int) : Nat → Int → Int
  | 0, next => next
  | k + 1, next => if next < 0 then next else iterE g k (g next)
/-- The place behind the type that begins at a place; -1 where it isn't all there. -/
def endF : Nat → List TyI → Int → Int
  | 0, _, _ => -1
  | f + 1, l, at_ => if at_ < 0 then -1 else match l[at_.toNat]? with
    | none => -1
    | some x => iterE (endF f l) x.arity.toNat (at_ + 1)
theorem iterE_neg (g : Int → Int) (k : Nat) (n : Int) (h : n < 0) : iterE g k n = n := by
  cases k with
  | zero => rfl
  | succ k => rw [iterE, if_pos h]
theorem iterE_snoc (g : Int → Int) (k : Nat) (n : Int) : iterE g (k + 1) n = if iterE g k n < 0 then iterE g k n else g (iterE g k n) := by
  induction k generalizing n with
  | zero => rfl
  | succ k ih =>
    by_cases h : n < 0
    · rw [iterE_neg _ _ _ h, iterE_neg _ _ _ h, if_pos h]
    · rw [show iterE g (k + 1 + 1) n = iterE g (k + 1) (g n) from by rw [iterE, if_neg h], show iterE g (k + 1) n = iterE g k (g n) from by rw [iterE, if_neg h]]
      exact ih (g n)
theorem iterE_more (g : Int → Int) (k m : Nat) (n : Int) (h : iterE g k n < 0) (hm : k ≤ m) : iterE g m n = iterE g k n := by
  induction m with
  | zero => obtain rfl : k = 0 := by omega
            rfl
  | succ m ih =>
    by_cases he : k = m + 1
    · rw [he]
    · rw [iterE_snoc, ih (by omega), if_pos h]
/-- It lies beyond, or there is none. -/
theorem endF_gt : ∀ (f : Nat) (l : List TyI) (at_ : Int), endF f l at_ = -1 ∨ (0 ≤ at_ ∧ at_ < endF f l at_) := by
  intro f
  induction f with
  | zero => intro l a; left; rfl
  | succ f ih =>
    intro l a
    rw [endF]
    split
    · left; rfl
    · rename_i h0
      split
      · left; rfl
      · rename_i x hx
        have hk : ∀ k (n : Int), 0 ≤ n → iterE (endF f l) k n = -1 ∨ n ≤ iterE (endF f l) k n := by
          intro k
          induction k with
          | zero => intro n hn; right; exact Int.le_refl _
          | succ k ihk =>
            intro n hn
            rw [iterE, if_neg (by omega)]
            rcases ih l n with h | ⟨_, h⟩
            · left; rw [h, iterE_neg _ _ _ (by omega)]
            · rcases ihk (endF f l n) (by omega) with h' | h'
              · left; exact h'
              · right; omega
        rcases hk x.arity.toNat (a + 1) (by omega) with h | h
        · left; exact h
        · right; omega
theorem iter_gt (f : Nat) (l : List TyI) : ∀ k (n : Int), 0 ≤ n → iterE (endF f l) k n = -1 ∨ n ≤ iterE (endF f l) k n := by
  intro k
  induction k with
  | zero => intro n hn; right; exact Int.le_refl _
  | succ k ihk =>
    intro n hn
    rw [iterE, if_neg (by omega)]
    rcases endF_gt f l n with h | ⟨_, h⟩
    · left; rw [h, iterE_neg _ _ _ (by omega)]
    · rcases ihk (endF f l n) (by omega) with h' | h'
      · left; exact h'
      · right; omega
theorem endF_le : ∀ (f : Nat) (l : List TyI) (at_ : Int), endF f l at_ ≤ l.length := by
  intro f
  induction f with
  | zero => intro l a; show (-1 : Int) ≤ _; omega
  | succ f ih =>
    intro l a
    rw [endF]
    split
    · omega
    · rename_i h0
      split
      · omega
      · rename_i x hx
        have hlt : a.toNat < l.length := (List.getElem?_eq_some_iff.1 hx).1
        have hk : ∀ k (n : Int), n ≤ l.length → iterE (endF f l) k n ≤ l.length := by
          intro k
          induction k with
          | zero => intro n hn; exact hn
          | succ k ihk => intro n hn; rw [iterE]; split; · exact hn
                          · exact ihk _ (ih l n)
        exact hk _ _ (by omega)
theorem iter_le (f : Nat) (l : List TyI) : ∀ k (n : Int), n ≤ l.length → iterE (endF f l) k n ≤ l.length := by
  intro k
  induction k with
  | zero => intro n hn; exact hn
  | succ k ihk => intro n hn; rw [iterE]; split; · exact hn
                  · exact ihk _ (endF_le f l n)
theorem endF_in (f : Nat) (l : List TyI) (n : Nat) (h : n < l.length) : endF (f + 1) l (n : Int) = iterE (endF f l) l[n].arity.toNat ((n : Int) + 1) := by
  rw [endF, if_neg (by omega), Int.toNat_natCast, List.getElem?_eq_getElem h]
theorem endF_out (f : Nat) (l : List TyI) (a : Int) (h : a < 0 ∨ (l.length : Int) ≤ a) : endF f l a = -1 := by
  cases f with
  | zero => rfl
  | succ f =>
    rw [endF]
    split
    · rfl
    · rw [List.getElem?_eq_none (by omega)]
/-- A type: at most 200 items, each right by itself, and just one type. -/
def tyOkB (l : List TyI) : Bool := decide (l.length ≤ 200) && (l.all itemB && decide (endF (l.length + 1) l 0 = (l.length : Int)))
/-- A constructor: its name, how many kids, whether the kid is a pair. -/
def conOkB (s : ByteArray) (n : Int) (p : Bool) : Bool :=
  if s.toList = [58, 58] then decide (n = 1) && p else if s.toList = [116, 114, 117, 101] ∨ (s.toList = [102, 97, 108, 115, 101] ∨ s.toList = [91, 93]) then decide (n = 0) else conB s && decide (n ≤ 1)
/-- The only kid of a pattern's node is a pair. -/
def pairB (q : List PN) : List Int → Bool
  | [k] => decide (0 ≤ k) && (match q[k.toNat]? with | some y => decide (y.kind = 5) | none => false)
  | _ => false
/-- A node of a pattern by itself. -/
def pnodeB (p : Bool) (kind n : Int) (s : ByteArray) (m : Int) : Bool :=
  if kind = 1 ∨ kind = 6 then decide (n = 0) && (decide (s.toList = []) && decide (m = 0))
  else if kind = 2 then decide (n = 0) && (nameB s && decide (m = 0))
  else if kind = 3 then decide (-4611686018427387903 ≤ n) && (decide (n ≤ 4611686018427387903) && (decide (s.toList = []) && decide (m = 0)))
  else if kind = 4 then decide (n = 0) && conOkB s m p
  else if kind = 5 then decide (n = 0) && (decide (s.toList = []) && decide (m = 2))
  else false
def pnB (q : List PN) (x : PN) : Bool := pnodeB (pairB q x.kids) x.kind x.n x.s x.kids.length
/-- Kids, each at the place where the last one ends. -/
def kidsE (g : Int → Int) : List Int → Int → Int
  | [], next => next
  | k :: ks, next => if k = next then (if g k < 0 then -1 else kidsE g ks (g k)) else -1
/-- The place behind the tree that begins at a place, its nodes in the walk's order; -1 where it isn't. -/
def pendF : Nat → List (List Int) → Int → Int
  | 0, _, _ => -1
  | f + 1, l, a => match l[a.toNat]? with
    | none => -1
    | some ks => kidsE (pendF f l) ks (a + 1)
theorem kidsE_gt (g : Int → Int) (hg : ∀ k, g k = -1 ∨ k < g k) : ∀ (ks : List Int) (n : Int), kidsE g ks n = -1 ∨ n ≤ kidsE g ks n := by
  intro ks
  induction ks with
  | nil => intro n; right; exact Int.le_refl _
  | cons k ks ih =>
    intro n
    rw [kidsE]
    split
    · rename_i h; subst h
      split
      · left; rfl
      · rename_i h2
        rcases hg k with h | h
        · omega
        · rcases ih (g k) with h' | h'
          · left; exact h'
          · right; omega
    · left; rfl
theorem pendF_gt : ∀ (f : Nat) (l : List (List Int)) (a : Int), pendF f l a = -1 ∨ a < pendF f l a := by
  intro f
  induction f with
  | zero => intro l a; left; rfl
  | succ f ih =>
    intro l a
    rw [pendF]
    split
    · left; rfl
    · rename_i ks hk
      rcases kidsE_gt (pendF f l) (ih l) ks (a + 1) with h | h
      · left; exact h
      · right; omega
theorem kidsE_le (g : Int → Int) (m : Int) (hg : ∀ k, g k ≤ m) : ∀ (ks : List Int) (n : Int), n ≤ m → 0 ≤ m → kidsE g ks n ≤ m := by
  intro ks
  induction ks with
  | nil => intro n hn _; exact hn
  | cons k ks ih =>
    intro n hn hm
    rw [kidsE]
    split
    · split
      · omega
      · exact ih _ (hg k) hm
    · omega
theorem pendF_le : ∀ (f : Nat) (l : List (List Int)) (a : Int), pendF f l a ≤ l.length := by
  intro f
  induction f with
  | zero => intro l a; show (-1 : Int) ≤ _; omega
  | succ f ih =>
    intro l a
    rw [pendF]
    split
    · omega
    · rename_i ks hk
      have hlt : a.toNat < l.length := (List.getElem?_eq_some_iff.1 hk).1
      exact kidsE_le _ _ (ih l) ks _ (by omega) (by omega)
theorem pendF_out (f : Nat) (l : List (List Int)) (a : Int) (h : (l.length : Int) ≤ a) : pendF f l a = -1 := by
  cases f with
  | zero => rfl
  | succ f => rw [pendF, List.getElem?_eq_none (by omega)]
theorem pendF_in (f : Nat) (l : List (List Int)) (n : Nat) (h : n < l.length) : pendF (f + 1) l (n : Int) = kidsE (pendF f l) l[n] ((n : Int) + 1) := by
  rw [pendF, Int.toNat_natCast, List.getElem?_eq_getElem h]
theorem kidsE_no (g : Int → Int) (ks : List Int) (i : Nat) (h : i < ks.length) (n : Int) (hn : ks[i] ≠ n) : kidsE g (ks.drop i) n = -1 := by
  rw [List.drop_eq_getElem_cons h, kidsE, if_neg hn]
theorem kidsE_neg (g : Int → Int) (ks : List Int) (i : Nat) (h : i < ks.length) (n : Int) (hn : ks[i] = n) (hg : g n < 0) : kidsE g (ks.drop i) n = -1 := by
  rw [List.drop_eq_getElem_cons h, kidsE, if_pos hn, hn, if_pos hg]
theorem kidsE_step (g : Int → Int) (ks : List Int) (i : Nat) (h : i < ks.length) (n : Int) (hn : ks[i] = n) (hg : ¬ g n < 0) : kidsE g (ks.drop i) n = kidsE g (ks.drop (i + 1)) (g n) := by
  rw [List.drop_eq_getElem_cons h, kidsE, if_pos hn, hn, if_neg hg]
noncomputable def propB (P : Prop) : Bool := @decide P (Classical.propDecidable P)
theorem propB_t {P : Prop} (h : P) : propB P = true := by unfold propB; exact @decide_eq_true _ (Classical.propDecidable P) h
theorem propB_f {P : Prop} (h : ¬ P) : propB P = false := by unfold propB; exact @decide_eq_false _ (Classical.propDecidable P) h
theorem toL_inj {a b : ByteArray} (h : a.toList = b.toList) : a = b := Go.WideShapes.bytes_inj (by rw [← ByteArray.toList_eq, ← ByteArray.toList_eq]; exact h)
/-- Two nodes of a pattern bind one name. -/
def clash (x y : PN) : Prop := x.kind = 2 ∧ (y.kind = 2 ∧ y.s = x.s)
/-- A pattern: its nodes, each right by itself, no name twice, one tree in the walk's order. -/
def PatOkP (q : List PN) : Prop := 1 ≤ q.length ∧ q.length ≤ 600 ∧ (∀ i (h : i < q.length), pnB q q[i] = true ∧ ∀ k (hk : k < i), ¬ clash q[i] q[k]) ∧ pendF (q.length + 1) (q.map PN.kids) 0 = q.length
noncomputable def patOkB (q : List PN) : Bool := propB (PatOkP q)
/-! ### Programs -/
def prims : List (List UInt8) := [[43], [45], [42], [47], [37], [94], [61], [60, 62], [60], [60, 61]]
def primB (s : ByteArray) : Bool := prims.any fun k => s.toList == k
theorem prim_yes (s : ByteArray) (x : List UInt8) (hx : x ∈ prims) (h : (s.toList == x) = true) : true = primB s := by
  symm; rw [primB, List.any_eq_true]; exact ⟨x, hx, h⟩
theorem prim_step (s : ByteArray) (k : Nat) (x : List UInt8) (hx : prims[k]? = some x) (h0 : (prims.take k).any (fun x => s.toList == x) = false) (h : (s.toList == x) = false) :
    (prims.take (k + 1)).any (fun x => s.toList == x) = false := by
  rw [List.take_add_one, hx, List.any_append, h0]; simp [h]
/-- How many kids a kind has; -1 where it hangs on more. -/
def kidsN (k : Int) : Int :=
  if k = 1 ∨ k = 2 ∨ k = 3 ∨ k = 12 then 0 else if k = 5 ∨ k = 14 ∨ k = 16 ∨ k = 17 then 1
  else if k = 6 ∨ k = 7 ∨ k = 8 ∨ k = 10 ∨ k = 11 ∨ k = 15 ∨ k = 18 ∨ k = 19 then 2 else if k = 9 then 3 else -1
def firstKind (p : List Nd) : List Int → Option Int
  | k :: _ => (p[k.toNat]?).map Nd.kind
  | [] => none
def namedK (k : Int) : Prop := k = 3 ∨ k = 5 ∨ k = 7 ∨ k = 8 ∨ k = 15
def NdHead (x : Nd) : Prop := 1 ≤ x.kind ∧ x.kind ≤ 19 ∧ 0 ≤ x.at_ ∧ (x.kind = 1 ∨ x.n = 0) ∧ 0 ≤ x.n ∧ x.n ≤ 4611686018427387903
def NdText (x : Nd) : Prop := (namedK x.kind → nameB x.s = true) ∧ (x.kind = 10 → primB x.s = true) ∧ (¬ namedK x.kind → x.kind ≠ 10 → x.kind ≠ 2 → x.kind ≠ 4 → x.s.toList = [])
def NdRest (p : List Nd) (x : Nd) : Prop :=
  (x.kind = 4 → x.pats = [] ∧ conOkB x.s x.kids.length (decide (x.kids.length = 1) && decide (firstKind p x.kids = some 11)) = true) ∧
  (x.kind = 13 → (∀ q ∈ x.pats, PatOkP q) ∧ 2 ≤ x.kids.length ∧ x.pats.length + 1 = x.kids.length) ∧
  (x.kind = 8 → x.kids.length = 2 ∧ firstKind p x.kids = some 5) ∧
  (x.kind ≠ 4 → x.kind ≠ 13 → x.pats = [] ∧ (x.kids.length : Int) = kidsN x.kind)
/-- A node of an expression by itself. -/
def NdOkP (p : List Nd) (x : Nd) : Prop := NdHead x ∧ (∀ k ∈ x.kids, 0 ≤ k ∧ k < p.length) ∧ NdText x ∧ NdRest p x
/-- A constructor of a type with so many variables. -/
def CnOkP (params : Int) (c : Cn) : Prop := conB c.name = true ∧ (c.has = false → c.arg = []) ∧ (c.has = true → (∀ x ∈ c.arg, x.name.toList = [] → x.var < params) ∧ tyOkB c.arg = true)
def TpOkP (t : Tp) : Prop := nameB t.name = true ∧ 0 ≤ t.params ∧ t.params ≤ 2 ∧ 1 ≤ t.cons.length ∧ t.cons.length ≤ 8 ∧ ∀ c ∈ t.cons, CnOkP t.params c
/-- A program. -/
def PgOkP (p : Pg) : Prop := 1 ≤ p.nodes.length ∧ p.nodes.length ≤ 600 ∧ p.types.length ≤ 8 ∧ (∀ t ∈ p.types, TpOkP t) ∧ (∀ x ∈ p.nodes, NdOkP p.nodes x) ∧ pendF (p.nodes.length + 1) (p.nodes.map Nd.kids) 0 = p.nodes.length
noncomputable def pgOkB (p : Pg) : Bool := propB (PgOkP p)
end Go.Proofs.YtaibgnfjjbncpaaGreat
