/- The model's TyCanon as a whole. -/
import Derived.Test.YtciohamonmmciaaCanS
import Derived.Test.YtciohamonmmciaaMkData
namespace Go.Proofs.Ytciohamonmmciaa
set_option linter.unusedVariables false
set_option maxRecDepth 100000
open Go.ChangeShapes Go.WideShapes Go.ChangeAt Go.RowKit

theorem tyOk_arity {x : List TyI} (h : tyOkB x = true) : ∀ y ∈ x, y.name.toList = [] → y.arity = 0 := by
  intro y hy hn
  unfold tyOkB at h
  simp only [Bool.and_eq_true, decide_eq_true_eq] at h
  have hb := List.all_eq_true.1 h.2.1 y hy
  unfold itemB at hb
  rw [if_pos hn] at hb
  simp only [Bool.and_eq_true, decide_eq_true_eq] at hb
  exact hb.2.2
theorem sTyCanonC (x : List TyI) (v : Value) (w : World) (hR : RowRd 3 TyIEl w v x) (hz : bTy x ≤ 1048576) :
    Calls Try.prog 6 #[.agg #[v]] w (ToTyPost (resTyCanon x) w) := by
  have hl : x.length ≤ 1048576 := Nat.le_trans (bulkL_len _ _) hz
  have hR0 := hR
  obtain ⟨p, cap, rfl, _, _⟩ := hR.form
  have HRes := Lib.hid (show resTyCanon x = if tyOkB x then (putT canV [] x).1 else [] from rfl)
  go_enter Try.func6, Try.ntmps6
  go_wp2_with fail
  refine (sTyOk x _ _ (hR0.kept TyIEl.st (Kept.al2 _ _ _))).mono ?_
  rintro e w1 ⟨rfl, hb1⟩
  obtain ⟨hc1, hf1⟩ := bcell hb1
  have B1 : Below w.heap.size w w1 := below_tr (Joins.below_alloc2 w _ _) hb1
  have c0 : w1.cell? ⟨w.heap.size, 0, none⟩ = some (.slice p x.length cap) := by rw [hc1 _ _ (by simp; omega)]; simp
  have c1 : w1.cell? ⟨w.heap.size + 1, 0, none⟩ = some (.slice none 0 0) := by rw [hc1 _ _ (by simp)]; simp
  have f1 : w1.frozen? ⟨w.heap.size + 1, 0, none⟩ = false := by rw [hf1 _ _ (by simp)]; simp
  have z1 : w.heap.size + 1 < w1.heap.size := by have := hb1.size; simp at this; omega
  clear hc1 hf1 hb1
  cases hok : tyOkB x
  · rw [hok] at HRes
    go_wp2
    rw [HRes.out]
    refine bodyPost_ret (v := .agg #[.slice none 0 0]) (by simp [results, Try.results6, go_sem, c1]) rfl ⟨.slice none 0 0, [], rfl, .inl ⟨rfl, rfl, _, _, rfl⟩, fun g hg => by simp at hg, List.nodup_nil, B1.setCell (Nat.le_succ _) _⟩
  · rw [hok] at HRes
    have hva := tyOk_arity hok
    clear hok
    go_wp2_with fail
    refine (sCanon x _ _ (hR0.kept TyIEl.st (Kept.of_below B1)) hl hva).mono ?_
    rintro e w5 ⟨u5, F5, rfl, hF5, hlo5, hnd5, hb5⟩
    have c5 := (hb5.cell (p := ⟨w.heap.size + 1, 0, none⟩) z1).trans c1
    have f5 := (hb5.frozen (p := ⟨w.heap.size + 1, 0, none⟩) z1).trans f1
    obtain ⟨a5, d5, e5, _, _⟩ := (hF5.reads TyIOwn.reads).form
    subst e5
    go_wp2
    rw [HRes.out, if_pos trivial]
    refine bodyPost_ret (v := .agg #[.slice a5 ((putT canV [] x).1).length d5]) (by simp [results, Try.results6, go_sem, c5]) rfl ⟨_, F5, rfl, hF5.set TyIOwn.loc TyIOwn.sized _ _ (fun e => by have := hlo5 _ e; omega), fun g hg => by have := hlo5 g hg; omega, hnd5, (below_tr B1 hb5).setCell (Nat.le_succ _) _⟩
theorem cntL_items (l : List TyI) : cntL cTyI l = 3 * l.length := by
  induction l with
  | nil => rfl
  | cons x l ih => simp only [cntL, cTyI, List.length_cons, ih]; omega
theorem TyCanon_cnt (x : List TyI) (hz : bTy x ≤ 1048576) : 1 + cntL cTyI (resTyCanon x) ≤ 1000000000000 := by
  have h1 : x.length ≤ 1048576 := Nat.le_trans (bulkL_len _ _) hz
  have h2 := resTyCanon_len x
  rw [cntL_items]
  omega
end Go.Proofs.Ytciohamonmmciaa
