/- What came in, laid down anew, by program (tools/gendeep.py). -/
import Derived.Test.YtpgefkdojplamaaOwnData
import Derived.Test.YtpgefkdojplamaaRows
import Derived.WalkKit
import Derived.WalkSmall
import Derived.ProofKit
import Derived.OpenShut
import Derived.Lib.Hide
import Derived.Lib.SmallJoins
import Derived.StillTailTactics
import Derived.Deep.QuietTactic
import Derived.BigQuiet
import Derived.Outline
namespace Go.Proofs.Ytpgefkdojplamaa
set_option linter.unusedVariables false
set_option maxRecDepth 100000
open Go.ChangeShapes Go.WideShapes Go.ChangeAt Go.RowKit
theorem toStringS (l : List ByteArray) (v : Value) (w : World) (hR : RowRd 1 StrEl w v l) (hlen : l.length ≤ 1048576) :
    Calls Try.prog 13 #[v] w (RowPost 1 (Flat StrEl) l w) := by
  obtain ⟨a, cap, rfl, hm, hR⟩ := hR.form
  have hm' := hm
  unfold maxLen at hm
  obtain ⟨W0, hmk, hT⟩ := make_t (P := Try.prog) (E := (Flat StrEl)) w 22 9 (.string ⟨#[]⟩) 1 16 l Try.underlying22 (by kernel_rfl) hlen (by decide) (by decide)
  have HT := Lib.hid hT
  clear hT
  go_enter Try.func13, Try.ntmps13
  go_wp2
  have hT := HT.out
  clear hmk HT
  go_loopw [4] (fun i wr => ∃ (j : Nat) (Fs : List (List Nat)), i = .int .i64 j ∧ j ≤ l.length ∧ TInv 1 (Flat StrEl) w w.heap.size l Fs j wr) (fun i _ => l.length - (intOf i).toNat)
  case atStart => exact ⟨0, [], rfl, Nat.zero_le _, hT⟩
  case round =>
    obtain ⟨j, Fs, rfl, hj, hI⟩ := hrel
    by_cases hlt : j < l.length
    · obtain ⟨b, o, rfl, hbw, hc⟩ := hR (by omega)
      have ex := StrEl.st w wr b _ _ (Kept.of_below hI.bel) hbw (hc j hlt)
      clear hc hR hT
      have HI := Lib.hid hI
      have hg := hI.lt
      have hfr := hI.fr
      obtain ⟨y0, z0⟩ := hI.all (j) (by omega)
      clear hI
      generalize hx : l[j] = x at *
      have HX := Lib.hid hx
      clear hx
      obtain ⟨e0, i0⟩ := ex
      rw [Nat.mul_one] at e0
      go_wp2
      go_roundw
      case rel =>
        have hO := (Out.refl w.heap.size (j) 1 [] wr).set (j) (.string x) ⟨by omega, by omega⟩
        have hA : ∀ d, d < 1 → ∃ u, World.cell? (wr.setCell ⟨w.heap.size, j, none⟩ (.string x)) ⟨w.heap.size, j + d, none⟩ = some u := fun d hd => by
          obtain rfl : d = 0 := by omega
          exact ⟨_, World.cell?_setCell_same _ _ _ (z0)⟩
        have hD : Flat StrEl (wr.setCell ⟨w.heap.size, j, none⟩ (.string x)) w.heap.size (j) x ([]) := ⟨rfl, World.cell?_setCell_same _ _ _ (z0), i0⟩
        exact ⟨j + 1, Fs ++ [[]], by go_num, by omega, HI.out.step StrFlat.loc (Flat.sized StrEl) hlt (fun f hf => by simp at hf) List.nodup_nil (by rw [Nat.mul_one]; exact hO) (by rw [Nat.mul_one]; exact hA) (by rw [HX.out, Nat.mul_one]; exact hD)⟩
      case measure => simp [intOf]; omega
    · obtain rfl : j = l.length := by omega
      go_wp2
      go_ret
      exact hI.fin rfl hm' rfl
def ToOutcomePost (x : Oc) (w : World) (e : Ending) (w' : World) : Prop := ∃ (u2 : Value) (F2 : List Nat), e = .returned (.agg #[.int .i64 x.kind, .int .i64 x.n, u2, .int .i64 x.steps]) ∧ RowOwn 1 (Flat StrEl) w' u2 x.trace F2 ∧ (∀ g ∈ F2, w.heap.size ≤ g) ∧ (F2).Nodup ∧ Below w.heap.size w w'
set_option maxHeartbeats 1000000 in
theorem toOutcome (x : Oc) (v2 : Value) (w : World) (r2 : RowRd 1 StrEl w v2 x.trace) (hz : bOc x ≤ 1048576) :
    Calls Try.prog 7 #[.agg #[.int .i64 x.kind, .int .i64 x.n, v2, .int .i64 x.steps]] w (ToOutcomePost x w) := by
  obtain ⟨a2, ca2, e2, -, -⟩ := r2.form
  subst e2
  simp only [bOc] at hz
  have HZ := Lib.hid hz
  clear hz
  go_enter Try.func7, Try.ntmps7
  go_wp2_with fail
  refine (toStringS x.trace _ _ (r2.kept StrEl.st (by repeat (first | with_reducible exact Kept.al3 _ _ _ _ | (with_reducible refine Kept.set ?_ _ (by omega)) ))) (by have := HZ.out; have := bulkL_len bStr x.trace; omega)).mono ?_
  rintro e w1 ⟨u2, F2, rfl, ru2, hF2, hN2, hb1⟩
  obtain ⟨b2, cb2, e2, -, -⟩ := (ru2.reads (Flat.reads StrEl)).form
  subst e2
  obtain ⟨hc1, hf1⟩ := bcell hb1
  have hz1 : w.heap.size + 2 < w1.heap.size := by have := hb1.size; simp at this; omega
  have hy1 : w.heap.size + 1 < w1.heap.size := by omega
  have hx1 : w.heap.size < w1.heap.size := by omega
  go_wp2
  refine bodyPost_ret (v := .agg #[.int .i64 x.kind, .int .i64 x.n, .slice b2 x.trace.length cb2, .int .i64 x.steps]) (by simp [results, Try.results7, go_sem, hc1]) rfl ⟨_, F2, rfl, ?_, ?_, ?_, ?_⟩
  · repeat (first | with_reducible exact ru2 | (with_reducible refine RowOwn.set StrFlat.loc (Flat.sized StrEl) ?_ _ _ (fun e => by have := hF2 _ e; simp at this; omega)))
  · intro g hg; have := hF2 g hg; simp at this; omega
  · exact hN2
  · repeat (first | (with_reducible refine Below.setCell ?_ (by first | (simp; done) | (simp; omega) | (rw [setCell_size]; omega)) _) | with_reducible exact below_tr (Joins.below_alloc3 w _ _ _) hb1)
end Go.Proofs.Ytpgefkdojplamaa
