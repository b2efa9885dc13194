/- What came in, laid down anew, by program (tools/gendeep.py). -/
import Derived.Test.YtdgadjikdnmnoaaDoorOwnData
import Derived.Test.YtdgadjikdnmnoaaDoorRows
import Derived.WalkKit
import Derived.WalkSmall
import Derived.ProofKit
import Derived.OpenShut
import Derived.Lib.Hide
import Derived.Lib.SmallJoins
import Derived.StillTailTactics
import Derived.Deep.QuietTactic
import Derived.BigQuiet
import Derived.Outline
namespace Go.Proofs.YtdgadjikdnmnoaaDoor
set_option linter.unusedVariables false
set_option maxRecDepth 100000
open Go.ChangeShapes Go.WideShapes Go.ChangeAt Go.RowKit
theorem toTyItem (x : TyI) (w : World) :
    Calls Tryd.prog 22 #[.agg #[.int .i64 x.var, .string x.name, .int .i64 x.arity]] w (fun e w' => e = .returned (.agg #[.int .i64 x.var, .string x.name, .int .i64 x.arity]) ∧ Below w.heap.size w w') := by
  go_enter Tryd.func22, Tryd.ntmps22
  go_wp2
  refine bodyPost_ret (v := .agg #[.int .i64 x.var, .string x.name, .int .i64 x.arity]) (by simp [results, Tryd.results22, go_sem]) rfl ⟨rfl, ?_⟩
  exact Joins.below_alloc3 w _ _ _
theorem toTyItemS (l : List TyI) (v : Value) (w : World) (hR : RowRd 3 TyIEl w v l) (hlen : l.length ≤ 1048576) (hz : bulkL bTyI l ≤ 1048576) :
    Calls Tryd.prog 12 #[v] w (RowPost 3 TyIOwn l w) := by
  obtain ⟨a, cap, rfl, hm, hR⟩ := hR.form
  have hm' := hm
  unfold maxLen at hm
  obtain ⟨W0, hmk, hT⟩ := make_t (P := Tryd.prog) (E := TyIOwn) w 27 41 (.agg #[.int .i64 0, .string ⟨#[]⟩, .int .i64 0]) 3 32 l Tryd.underlying27 (by kernel_rfl) hlen (by decide) (by decide)
  have HT := Lib.hid hT
  clear hT
  go_enter Tryd.func12, Tryd.ntmps12
  go_wp2
  have hT := HT.out
  clear hmk HT
  go_loopw [4] (fun i wr => ∃ (j : Nat) (Fs : List (List Nat)), i = .int .i64 j ∧ j ≤ l.length ∧ TInv 3 TyIOwn w w.heap.size l Fs j wr) (fun i _ => l.length - (intOf i).toNat)
  case atStart => exact ⟨0, [], rfl, Nat.zero_le _, hT⟩
  case round =>
    obtain ⟨j, Fs, rfl, hj, hI⟩ := hrel
    by_cases hlt : j < l.length
    · obtain ⟨b, o, rfl, hbw, hc⟩ := hR (by omega)
      have ex := TyIEl.st w wr b _ _ (Kept.of_below hI.bel) hbw (hc j hlt)
      clear hc hR hT
      have HI := Lib.hid hI
      have hg := hI.lt
      have hfr := hI.fr
      obtain ⟨y0, z0⟩ := hI.all (j * 3) (by omega)
      obtain ⟨y1, z1⟩ := hI.all (j * 3 + 1) (by omega)
      obtain ⟨y2, z2⟩ := hI.all (j * 3 + 2) (by omega)
      clear hI
      generalize hx : l[j] = x at *
      have HX := Lib.hid hx
      clear hx
      obtain ⟨⟨e0, i0⟩, ⟨e1, i1⟩, ⟨e2, i2⟩⟩ := ex
      go_wp2_with fail
      refine (toTyItem x _).mono ?_
      rintro e w1 ⟨rfl, hb1⟩
      have q0 := (hb1.cell (p := ⟨w.heap.size, j * 3, none⟩) hg).trans z0
      have q1 := (hb1.cell (p := ⟨w.heap.size, j * 3 + 1, none⟩) hg).trans z1
      have q2 := (hb1.cell (p := ⟨w.heap.size, j * 3 + 2, none⟩) hg).trans z2
      have hfr1 : ∀ i, w1.frozen? ⟨w.heap.size, i, none⟩ = false := fun i => (hb1.frozen (p := ⟨w.heap.size, i, none⟩) hg).trans (hfr i)
      clear z0 z1 z2 hfr e0 e1 e2
      go_wp2
      go_roundw
      case rel =>
        have hO := ((((Out.refl w.heap.size (j * 3) 3 [] wr).below hg hb1).set (j * 3) (.int .i64 x.var) ⟨by omega, by omega⟩).set (j * 3 + 1) (.string x.name) ⟨by omega, by omega⟩).set (j * 3 + 2) (.int .i64 x.arity) ⟨by omega, by omega⟩
        have hA : ∀ d, d < 3 → ∃ u, World.cell? (((w1.setCell ⟨w.heap.size, j * 3, none⟩ (.int .i64 x.var)).setCell ⟨w.heap.size, j * 3 + 1, none⟩ (.string x.name)).setCell ⟨w.heap.size, j * 3 + 2, none⟩ (.int .i64 x.arity)) ⟨w.heap.size, j * 3 + d, none⟩ = some u := fun d hd => by
          rcases (show d = 0 ∨ d = 1 ∨ d = 2 by omega) with rfl | rfl | rfl
          · exact ⟨_, (cell_off (by omega)).trans ((cell_off (by omega)).trans (World.cell?_setCell_same _ _ _ (q0)))⟩
          · exact ⟨_, (cell_off (by omega)).trans (World.cell?_setCell_same _ _ _ ((cell_off (by omega)).trans (q1)))⟩
          · exact ⟨_, World.cell?_setCell_same _ _ _ ((cell_off (by omega)).trans ((cell_off (by omega)).trans (q2)))⟩
        have hD : TyIOwn (((w1.setCell ⟨w.heap.size, j * 3, none⟩ (.int .i64 x.var)).setCell ⟨w.heap.size, j * 3 + 1, none⟩ (.string x.name)).setCell ⟨w.heap.size, j * 3 + 2, none⟩ (.int .i64 x.arity)) w.heap.size (j * 3) x ([]) := ⟨rfl, ⟨(cell_off (by omega)).trans ((cell_off (by omega)).trans (World.cell?_setCell_same _ _ _ (q0))), i0⟩, ⟨(cell_off (by omega)).trans (World.cell?_setCell_same _ _ _ ((cell_off (by omega)).trans (q1))), i1⟩, ⟨World.cell?_setCell_same _ _ _ ((cell_off (by omega)).trans ((cell_off (by omega)).trans (q2))), i2⟩⟩
        exact ⟨j + 1, Fs ++ [[]], by go_num, by omega, HI.out.step TyIOwn.loc TyIOwn.sized hlt (fun f hf => by simp at hf) List.nodup_nil hO hA (by rw [HX.out]; exact hD)⟩
      case measure => simp [intOf]; omega
    · obtain rfl : j = l.length := by omega
      go_wp2
      go_ret
      exact hI.fin rfl hm' rfl
def ToTyPost (x : List TyI) (w : World) (e : Ending) (w' : World) : Prop := ∃ (u0 : Value) (F0 : List Nat), e = .returned (.agg #[u0]) ∧ RowOwn 3 TyIOwn w' u0 x F0 ∧ (∀ g ∈ F0, w.heap.size ≤ g) ∧ (F0).Nodup ∧ Below w.heap.size w w'
set_option maxHeartbeats 1000000 in
theorem toTy (x : List TyI) (v0 : Value) (w : World) (r0 : RowRd 3 TyIEl w v0 x) (hz : bTy x ≤ 1048576) :
    Calls Tryd.prog 6 #[.agg #[v0]] w (ToTyPost x w) := by
  obtain ⟨a0, ca0, e0, -, -⟩ := r0.form
  subst e0
  simp only [bTy] at hz
  have HZ := Lib.hid hz
  clear hz
  go_enter Tryd.func6, Tryd.ntmps6
  go_wp2_with fail
  refine (toTyItemS x _ _ (r0.kept TyIEl.st (by repeat (first | with_reducible exact Kept.al3 _ _ _ _ | (with_reducible refine Kept.set ?_ _ (by omega)) ))) (by have := HZ.out; have := bulkL_len bTyI x; omega) (by have := HZ.out; omega)).mono ?_
  rintro e w1 ⟨u0, F0, rfl, ru0, hF0, hN0, hb1⟩
  obtain ⟨b0, cb0, e0, -, -⟩ := (ru0.reads TyIOwn.reads).form
  subst e0
  obtain ⟨hc1, hf1⟩ := bcell hb1
  have hz1 : w.heap.size + 2 < w1.heap.size := by have := hb1.size; simp at this; omega
  have hy1 : w.heap.size + 1 < w1.heap.size := by omega
  have hx1 : w.heap.size < w1.heap.size := by omega
  go_wp2
  refine bodyPost_ret (v := .agg #[.slice b0 x.length cb0]) (by simp [results, Tryd.results6, go_sem, hc1]) rfl ⟨_, F0, rfl, ?_, ?_, ?_, ?_⟩
  · repeat (first | with_reducible exact ru0 | (with_reducible refine RowOwn.set TyIOwn.loc TyIOwn.sized ?_ _ _ (fun e => by have := hF0 _ e; simp at this; omega)))
  · intro g hg; have := hF0 g hg; simp at this; omega
  · exact hN0
  · repeat (first | (with_reducible refine Below.setCell ?_ (by first | (simp; done) | (simp; omega) | (rw [setCell_size]; omega)) _) | with_reducible exact below_tr (Joins.below_alloc3 w _ _ _) hb1)
end Go.Proofs.YtdgadjikdnmnoaaDoor
