/- What came in, laid down anew, by program (tools/gendeep.py). -/
import Derived.Test.YtdhpmblhejcehaaDoorOwnData
import Derived.Test.YtdhpmblhejcehaaDoorRows
import Derived.WalkKit
import Derived.WalkSmall
import Derived.ProofKit
import Derived.OpenShut
import Derived.Lib.Hide
import Derived.Lib.SmallJoins
import Derived.StillTailTactics
import Derived.Deep.QuietTactic
import Derived.BigQuiet
import Derived.Outline
namespace Go.Proofs.YtdhpmblhejcehaaDoor
set_option linter.unusedVariables false
set_option maxRecDepth 100000
open Go.ChangeShapes Go.WideShapes Go.ChangeAt Go.RowKit
theorem toVal (x : Vl) (w : World) :
    Calls Tryd.prog 16 #[.agg #[.int .i64 x.kind, .int .i64 x.n, .string x.s]] w (fun e w' => e = .returned (.agg #[.int .i64 x.kind, .int .i64 x.n, .string x.s]) ∧ Below w.heap.size w w') := by
  go_enter Tryd.func16, Tryd.ntmps16
  go_wp2
  refine bodyPost_ret (v := .agg #[.int .i64 x.kind, .int .i64 x.n, .string x.s]) (by simp [results, Tryd.results16, go_sem]) rfl ⟨rfl, ?_⟩
  exact Joins.below_alloc3 w _ _ _
set_option maxHeartbeats 1000000 in
theorem toCell (x : Ce) (w : World) :
    Calls Tryd.prog 35 #[.agg #[.int .i64 x.kind, .int .i64 x.n, .string x.s, .int .i64 x.a.kind, .int .i64 x.a.n, .string x.a.s, .int .i64 x.b.kind, .int .i64 x.b.n, .string x.b.s]] w (fun e w' => e = .returned (.agg #[.int .i64 x.kind, .int .i64 x.n, .string x.s, .int .i64 x.a.kind, .int .i64 x.a.n, .string x.a.s, .int .i64 x.b.kind, .int .i64 x.b.n, .string x.b.s]) ∧ Below w.heap.size w w') := by
  go_enter Tryd.func35, Tryd.ntmps35
  go_wp2_with fail
  refine (toVal x.a _).mono ?_
  rintro e w1 ⟨rfl, hb1⟩
  obtain ⟨hc1, hf1⟩ := bcell hb1
  have hz1 : w.heap.size + 2 < w1.heap.size := by have := hb1.size; simp at this; omega
  have hy1 : w.heap.size + 1 < w1.heap.size := by omega
  have hx1 : w.heap.size < w1.heap.size := by omega
  go_wp2_with fail
  refine (toVal x.b _).mono ?_
  rintro e w2 ⟨rfl, hb2⟩
  obtain ⟨hc2, hf2⟩ := bcell hb2
  simp only [setCell_size] at hc2 hf2
  have hz2 : w.heap.size + 2 < w2.heap.size := by have := hb2.size; simp only [setCell_size] at this; omega
  have hy2 : w.heap.size + 1 < w2.heap.size := by omega
  have hx2 : w.heap.size < w2.heap.size := by omega
  go_wp2
  refine bodyPost_ret (v := .agg #[.int .i64 x.kind, .int .i64 x.n, .string x.s, .int .i64 x.a.kind, .int .i64 x.a.n, .string x.a.s, .int .i64 x.b.kind, .int .i64 x.b.n, .string x.b.s]) (by simp [results, Tryd.results35, go_sem, hc1, hy1, hc2]) rfl ⟨rfl, ?_⟩
  · repeat (first | (with_reducible refine Below.setCell ?_ (by first | (simp; done) | (simp; omega) | (rw [setCell_size]; omega)) _) | (with_reducible refine Below.trans ?_ (hb2.mono (by first | (simp; done) | (simp; omega) | (rw [setCell_size]; omega)))) | with_reducible exact below_tr (Joins.below_alloc3 w _ _ _) hb1)
theorem toCellS (l : List Ce) (v : Value) (w : World) (hR : RowRd 9 CeEl w v l) (hlen : l.length ≤ 1048576) (hz : bulkL bCe l ≤ 1048576) :
    Calls Tryd.prog 15 #[v] w (RowPost 9 CeOwn l w) := by
  obtain ⟨a, cap, rfl, hm, hR⟩ := hR.form
  have hm' := hm
  unfold maxLen at hm
  obtain ⟨W0, hmk, hT⟩ := make_t (P := Tryd.prog) (E := CeOwn) w 23 53 (.agg #[.int .i64 0, .int .i64 0, .string ⟨#[]⟩, .int .i64 0, .int .i64 0, .string ⟨#[]⟩, .int .i64 0, .int .i64 0, .string ⟨#[]⟩]) 9 96 l Tryd.underlying23 (by kernel_rfl) hlen (by decide) (by decide)
  have HT := Lib.hid hT
  clear hT
  go_enter Tryd.func15, Tryd.ntmps15
  go_wp2
  have hT := HT.out
  clear hmk HT
  go_loopw [4] (fun i wr => ∃ (j : Nat) (Fs : List (List Nat)), i = .int .i64 j ∧ j ≤ l.length ∧ TInv 9 CeOwn w w.heap.size l Fs j wr) (fun i _ => l.length - (intOf i).toNat)
  case atStart => exact ⟨0, [], rfl, Nat.zero_le _, hT⟩
  case round =>
    obtain ⟨j, Fs, rfl, hj, hI⟩ := hrel
    by_cases hlt : j < l.length
    · obtain ⟨b, o, rfl, hbw, hc⟩ := hR (by omega)
      have ex := CeEl.st w wr b _ _ (Kept.of_below hI.bel) hbw (hc j hlt)
      clear hc hR hT
      have HI := Lib.hid hI
      have hg := hI.lt
      have hfr := hI.fr
      obtain ⟨y0, z0⟩ := hI.all (j * 9) (by omega)
      obtain ⟨y1, z1⟩ := hI.all (j * 9 + 1) (by omega)
      obtain ⟨y2, z2⟩ := hI.all (j * 9 + 2) (by omega)
      obtain ⟨y3, z3⟩ := hI.all (j * 9 + 3) (by omega)
      obtain ⟨y4, z4⟩ := hI.all (j * 9 + 4) (by omega)
      obtain ⟨y5, z5⟩ := hI.all (j * 9 + 5) (by omega)
      obtain ⟨y6, z6⟩ := hI.all (j * 9 + 6) (by omega)
      obtain ⟨y7, z7⟩ := hI.all (j * 9 + 7) (by omega)
      obtain ⟨y8, z8⟩ := hI.all (j * 9 + 8) (by omega)
      clear hI
      generalize hx : l[j] = x at *
      have HX := Lib.hid hx
      clear hx
      obtain ⟨⟨e0, i0⟩, ⟨e1, i1⟩, ⟨e2, i2⟩, ⟨⟨e3, i3⟩, ⟨e4, i4⟩, ⟨e5, i5⟩⟩, ⟨⟨e6, i6⟩, ⟨e7, i7⟩, ⟨e8, i8⟩⟩⟩ := ex
      go_wp2_with fail
      refine (toCell x _).mono ?_
      rintro e w1 ⟨rfl, hb1⟩
      have q0 := (hb1.cell (p := ⟨w.heap.size, j * 9, none⟩) hg).trans z0
      have q1 := (hb1.cell (p := ⟨w.heap.size, j * 9 + 1, none⟩) hg).trans z1
      have q2 := (hb1.cell (p := ⟨w.heap.size, j * 9 + 2, none⟩) hg).trans z2
      have q3 := (hb1.cell (p := ⟨w.heap.size, j * 9 + 3, none⟩) hg).trans z3
      have q4 := (hb1.cell (p := ⟨w.heap.size, j * 9 + 4, none⟩) hg).trans z4
      have q5 := (hb1.cell (p := ⟨w.heap.size, j * 9 + 5, none⟩) hg).trans z5
      have q6 := (hb1.cell (p := ⟨w.heap.size, j * 9 + 6, none⟩) hg).trans z6
      have q7 := (hb1.cell (p := ⟨w.heap.size, j * 9 + 7, none⟩) hg).trans z7
      have q8 := (hb1.cell (p := ⟨w.heap.size, j * 9 + 8, none⟩) hg).trans z8
      have hfr1 : ∀ i, w1.frozen? ⟨w.heap.size, i, none⟩ = false := fun i => (hb1.frozen (p := ⟨w.heap.size, i, none⟩) hg).trans (hfr i)
      clear z0 z1 z2 z3 z4 z5 z6 z7 z8 hfr e0 e1 e2 e3 e4 e5 e6 e7 e8
      go_wp2
      go_roundw
      case rel =>
        have hO := ((((((((((Out.refl w.heap.size (j * 9) 9 [] wr).below hg hb1).set (j * 9) (.int .i64 x.kind) ⟨by omega, by omega⟩).set (j * 9 + 1) (.int .i64 x.n) ⟨by omega, by omega⟩).set (j * 9 + 2) (.string x.s) ⟨by omega, by omega⟩).set (j * 9 + 3) (.int .i64 x.a.kind) ⟨by omega, by omega⟩).set (j * 9 + 4) (.int .i64 x.a.n) ⟨by omega, by omega⟩).set (j * 9 + 5) (.string x.a.s) ⟨by omega, by omega⟩).set (j * 9 + 6) (.int .i64 x.b.kind) ⟨by omega, by omega⟩).set (j * 9 + 7) (.int .i64 x.b.n) ⟨by omega, by omega⟩).set (j * 9 + 8) (.string x.b.s) ⟨by omega, by omega⟩
        have hA : ∀ d, d < 9 → ∃ u, World.cell? (((((((((w1.setCell ⟨w.heap.size, j * 9, none⟩ (.int .i64 x.kind)).setCell ⟨w.heap.size, j * 9 + 1, none⟩ (.int .i64 x.n)).setCell ⟨w.heap.size, j * 9 + 2, none⟩ (.string x.s)).setCell ⟨w.heap.size, j * 9 + 3, none⟩ (.int .i64 x.a.kind)).setCell ⟨w.heap.size, j * 9 + 4, none⟩ (.int .i64 x.a.n)).setCell ⟨w.heap.size, j * 9 + 5, none⟩ (.string x.a.s)).setCell ⟨w.heap.size, j * 9 + 6, none⟩ (.int .i64 x.b.kind)).setCell ⟨w.heap.size, j * 9 + 7, none⟩ (.int .i64 x.b.n)).setCell ⟨w.heap.size, j * 9 + 8, none⟩ (.string x.b.s)) ⟨w.heap.size, j * 9 + d, none⟩ = some u := fun d hd => by
          rcases (show d = 0 ∨ d = 1 ∨ d = 2 ∨ d = 3 ∨ d = 4 ∨ d = 5 ∨ d = 6 ∨ d = 7 ∨ d = 8 by omega) with rfl | rfl | rfl | rfl | rfl | rfl | rfl | rfl | rfl
          · exact ⟨_, (cell_off (by omega)).trans ((cell_off (by omega)).trans ((cell_off (by omega)).trans ((cell_off (by omega)).trans ((cell_off (by omega)).trans ((cell_off (by omega)).trans ((cell_off (by omega)).trans ((cell_off (by omega)).trans (World.cell?_setCell_same _ _ _ (q0)))))))))⟩
          · exact ⟨_, (cell_off (by omega)).trans ((cell_off (by omega)).trans ((cell_off (by omega)).trans ((cell_off (by omega)).trans ((cell_off (by omega)).trans ((cell_off (by omega)).trans ((cell_off (by omega)).trans (World.cell?_setCell_same _ _ _ ((cell_off (by omega)).trans (q1)))))))))⟩
          · exact ⟨_, (cell_off (by omega)).trans ((cell_off (by omega)).trans ((cell_off (by omega)).trans ((cell_off (by omega)).trans ((cell_off (by omega)).trans ((cell_off (by omega)).trans (World.cell?_setCell_same _ _ _ ((cell_off (by omega)).trans ((cell_off (by omega)).trans (q2)))))))))⟩
          · exact ⟨_, (cell_off (by omega)).trans ((cell_off (by omega)).trans ((cell_off (by omega)).trans ((cell_off (by omega)).trans ((cell_off (by omega)).trans (World.cell?_setCell_same _ _ _ ((cell_off (by omega)).trans ((cell_off (by omega)).trans ((cell_off (by omega)).trans (q3)))))))))⟩
          · exact ⟨_, (cell_off (by omega)).trans ((cell_off (by omega)).trans ((cell_off (by omega)).trans ((cell_off (by omega)).trans (World.cell?_setCell_same _ _ _ ((cell_off (by omega)).trans ((cell_off (by omega)).trans ((cell_off (by omega)).trans ((cell_off (by omega)).trans (q4)))))))))⟩
          · exact ⟨_, (cell_off (by omega)).trans ((cell_off (by omega)).trans ((cell_off (by omega)).trans (World.cell?_setCell_same _ _ _ ((cell_off (by omega)).trans ((cell_off (by omega)).trans ((cell_off (by omega)).trans ((cell_off (by omega)).trans ((cell_off (by omega)).trans (q5)))))))))⟩
          · exact ⟨_, (cell_off (by omega)).trans ((cell_off (by omega)).trans (World.cell?_setCell_same _ _ _ ((cell_off (by omega)).trans ((cell_off (by omega)).trans ((cell_off (by omega)).trans ((cell_off (by omega)).trans ((cell_off (by omega)).trans ((cell_off (by omega)).trans (q6)))))))))⟩
          · exact ⟨_, (cell_off (by omega)).trans (World.cell?_setCell_same _ _ _ ((cell_off (by omega)).trans ((cell_off (by omega)).trans ((cell_off (by omega)).trans ((cell_off (by omega)).trans ((cell_off (by omega)).trans ((cell_off (by omega)).trans ((cell_off (by omega)).trans (q7)))))))))⟩
          · exact ⟨_, World.cell?_setCell_same _ _ _ ((cell_off (by omega)).trans ((cell_off (by omega)).trans ((cell_off (by omega)).trans ((cell_off (by omega)).trans ((cell_off (by omega)).trans ((cell_off (by omega)).trans ((cell_off (by omega)).trans ((cell_off (by omega)).trans (q8)))))))))⟩
        have hD : CeOwn (((((((((w1.setCell ⟨w.heap.size, j * 9, none⟩ (.int .i64 x.kind)).setCell ⟨w.heap.size, j * 9 + 1, none⟩ (.int .i64 x.n)).setCell ⟨w.heap.size, j * 9 + 2, none⟩ (.string x.s)).setCell ⟨w.heap.size, j * 9 + 3, none⟩ (.int .i64 x.a.kind)).setCell ⟨w.heap.size, j * 9 + 4, none⟩ (.int .i64 x.a.n)).setCell ⟨w.heap.size, j * 9 + 5, none⟩ (.string x.a.s)).setCell ⟨w.heap.size, j * 9 + 6, none⟩ (.int .i64 x.b.kind)).setCell ⟨w.heap.size, j * 9 + 7, none⟩ (.int .i64 x.b.n)).setCell ⟨w.heap.size, j * 9 + 8, none⟩ (.string x.b.s)) w.heap.size (j * 9) x ([]) := ⟨rfl, ⟨(cell_off (by omega)).trans ((cell_off (by omega)).trans ((cell_off (by omega)).trans ((cell_off (by omega)).trans ((cell_off (by omega)).trans ((cell_off (by omega)).trans ((cell_off (by omega)).trans ((cell_off (by omega)).trans (World.cell?_setCell_same _ _ _ (q0))))))))), i0⟩, ⟨(cell_off (by omega)).trans ((cell_off (by omega)).trans ((cell_off (by omega)).trans ((cell_off (by omega)).trans ((cell_off (by omega)).trans ((cell_off (by omega)).trans ((cell_off (by omega)).trans (World.cell?_setCell_same _ _ _ ((cell_off (by omega)).trans (q1))))))))), i1⟩, ⟨(cell_off (by omega)).trans ((cell_off (by omega)).trans ((cell_off (by omega)).trans ((cell_off (by omega)).trans ((cell_off (by omega)).trans ((cell_off (by omega)).trans (World.cell?_setCell_same _ _ _ ((cell_off (by omega)).trans ((cell_off (by omega)).trans (q2))))))))), i2⟩, ⟨⟨(cell_off (by omega)).trans ((cell_off (by omega)).trans ((cell_off (by omega)).trans ((cell_off (by omega)).trans ((cell_off (by omega)).trans (World.cell?_setCell_same _ _ _ ((cell_off (by omega)).trans ((cell_off (by omega)).trans ((cell_off (by omega)).trans (q3))))))))), i3⟩, ⟨(cell_off (by omega)).trans ((cell_off (by omega)).trans ((cell_off (by omega)).trans ((cell_off (by omega)).trans (World.cell?_setCell_same _ _ _ ((cell_off (by omega)).trans ((cell_off (by omega)).trans ((cell_off (by omega)).trans ((cell_off (by omega)).trans (q4))))))))), i4⟩, ⟨(cell_off (by omega)).trans ((cell_off (by omega)).trans ((cell_off (by omega)).trans (World.cell?_setCell_same _ _ _ ((cell_off (by omega)).trans ((cell_off (by omega)).trans ((cell_off (by omega)).trans ((cell_off (by omega)).trans ((cell_off (by omega)).trans (q5))))))))), i5⟩⟩, ⟨⟨(cell_off (by omega)).trans ((cell_off (by omega)).trans (World.cell?_setCell_same _ _ _ ((cell_off (by omega)).trans ((cell_off (by omega)).trans ((cell_off (by omega)).trans ((cell_off (by omega)).trans ((cell_off (by omega)).trans ((cell_off (by omega)).trans (q6))))))))), i6⟩, ⟨(cell_off (by omega)).trans (World.cell?_setCell_same _ _ _ ((cell_off (by omega)).trans ((cell_off (by omega)).trans ((cell_off (by omega)).trans ((cell_off (by omega)).trans ((cell_off (by omega)).trans ((cell_off (by omega)).trans ((cell_off (by omega)).trans (q7))))))))), i7⟩, ⟨World.cell?_setCell_same _ _ _ ((cell_off (by omega)).trans ((cell_off (by omega)).trans ((cell_off (by omega)).trans ((cell_off (by omega)).trans ((cell_off (by omega)).trans ((cell_off (by omega)).trans ((cell_off (by omega)).trans ((cell_off (by omega)).trans (q8))))))))), i8⟩⟩⟩
        exact ⟨j + 1, Fs ++ [[]], by go_num, by omega, HI.out.step CeOwn.loc CeOwn.sized hlt (fun f hf => by simp at hf) List.nodup_nil hO hA (by rw [HX.out]; exact hD)⟩
      case measure => simp [intOf]; omega
    · obtain rfl : j = l.length := by omega
      go_wp2
      go_ret
      exact hI.fin rfl hm' rfl
end Go.Proofs.YtdhpmblhejcehaaDoor
