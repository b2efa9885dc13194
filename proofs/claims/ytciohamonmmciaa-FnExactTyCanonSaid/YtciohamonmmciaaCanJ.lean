/- The program's TyCanon. -/
import Derived.Test.YtciohamonmmciaaCanI
namespace Go.Proofs.Ytciohamonmmciaa
set_option linter.unusedVariables false
set_option maxRecDepth 100000
open Go.ChangeShapes Go.WideShapes Go.ChangeAt Go.RowKit Go.Maps Go.WideMaps

def resTyCanon (x : List TyI) : List TyI := if tyOkB x then (putT canV [] x).1 else []
theorem putT_len (l : List TyI) : ∀ s, (putT canV s l).1.length = l.length := by
  induction l with
  | nil => intro s; rfl
  | cons x l ih =>
    intro s
    by_cases h : x.name.toList = []
    · rw [putT, if_pos h]; simp [canV, ih]
    · rw [putT, if_neg h]; simp [ih]
theorem resTyCanon_len (x : List TyI) : (resTyCanon x).length ≤ x.length := by
  unfold resTyCanon
  split
  · rw [putT_len]; exact Nat.le_refl _
  · simp
theorem tyOk_var {x : List TyI} (h : tyOkB x = true) : ∀ y ∈ x, y.name.toList = [] → 0 ≤ y.var ∧ y.var ≤ 9999 := by
  intro y hy hn
  unfold tyOkB at h
  simp only [Bool.and_eq_true, decide_eq_true_eq] at h
  have hb := List.all_eq_true.1 h.2.1 y hy
  unfold itemB at hb
  rw [if_pos hn] at hb
  simp only [Bool.and_eq_true, decide_eq_true_eq] at hb
  exact ⟨hb.1, hb.2.1⟩
theorem e_canonical : ∀ args w, (callFunc 24 args).run Try.prog w = .ok (.enter 24 args) w := enters_of Try.func24 (by kernel_rfl) rfl
set_option maxHeartbeats 2000000 in
theorem iCanonical {A : Nat → Prop} {w0 : World} {u : Value} {x : List TyI} (ht : TreeRd A w0 u x) (hl : x.length ≤ 1048576) (hvar : ∀ y ∈ x, y.name.toList = [] → 0 ≤ y.var ∧ y.var ≤ 9999) (w1 : World) (hs : w0.heap.size ≤ w1.heap.size)
    (hA : ∀ k, A k → k < w0.heap.size → k < w1.heap.size ∧ w1.heap[k]? = w0.heap[k]?) :
    Calls Try.prog 24 #[u] w1 fun e w' => ∃ u4, e = .returned u4 ∧ TreeRd (fun _ => True) w' u4 (putT canV [] x).1 ∧ Below w1.heap.size w1 w' := by
  have hmm0 := @run_makeMap Try.prog
  have ht1 : TreeRd (fun k => k < w1.heap.size) w1 u x := ht.same (fun k ha hk => hA k ha hk) hs
  have bM := fun T => Joins.below_alloc2 w1 (.map #[] 0) (.cells #[.map (some w1.heap.size)] T)
  have hJ0 : ∀ T, CanJ (w1.heap.size + 1) w1.heap.size [] ((w1.alloc (.map #[] 0)).alloc (.cells #[.map (some w1.heap.size)] T)) := fun T =>
    ⟨.map [], (World.ownsMap_made (H := Unit) w1 Try.prog 77 (plainElem Try.prog 77)).alloc _, SeenD.zero, by simp⟩
  have hput := iPut (canBy (w1.heap.size + 1) w1.heap.size (w1.heap.size + 2) (by omega) (by omega) (by omega)) ht1 (fun k hk => by simp; omega) hl hvar [] _ (hJ0 76) (by simp)
    (fun k hk _ => ⟨by simp; omega, (bM 76).block k hk⟩)
  have BB := bM 76
  rcases tree_cases ht1 with ⟨n, rfl⟩ | ⟨s', v', rfl⟩
  · have hput : Calls Try.prog 94 #[.int .i64 n, .func (.func 44) #[] #[.pointer (some ⟨w1.heap.size + 1, 0, none⟩)]] _ (PutPost canV (CanJ (w1.heap.size + 1) w1.heap.size) (w1.heap.size + 2) [w1.heap.size] [] x _) := hput
    have hmm := m_put_var n
    clear hJ0 ht ht1
    go_enter Try.func24, Try.ntmps24
    go_wp2_with (go_at_call 94; refine hput.mono ?_; rintro e w4 ⟨u4, rfl, ht4, _, hbut4⟩)
    go_ret
    exact ⟨u4, rfl, ht4.same (fun k _ hk => ⟨trivial, rfl⟩) (Nat.le_refl _), BB.trans (hbut4.below (fun k hk hm => by simp at hm; omega) (by simp; omega))⟩
  · have hput : Calls Try.prog 97 #[.agg #[.string s', v'], .func (.func 44) #[] #[.pointer (some ⟨w1.heap.size + 1, 0, none⟩)]] _ (PutPost canV (CanJ (w1.heap.size + 1) w1.heap.size) (w1.heap.size + 2) [w1.heap.size] [] x _) := hput
    have hmm := m_put_con s' v'
    clear hJ0 ht ht1
    go_enter Try.func24, Try.ntmps24
    go_wp2_with (go_at_call 97; refine hput.mono ?_; rintro e w4 ⟨u4, rfl, ht4, _, hbut4⟩)
    go_ret
    exact ⟨u4, rfl, ht4.same (fun k _ hk => ⟨trivial, rfl⟩) (Nat.le_refl _), BB.trans (hbut4.below (fun k hk hm => by simp at hm; omega) (by simp; omega))⟩
set_option maxHeartbeats 2000000 in
theorem iTyCanonC (x : List TyI) (v : Value) (w : World) (hR : RowRd 3 TyIEl w v x) (hz : bTy x ≤ 1048576) :
    Calls Try.prog 8 #[.agg #[v]] w (ToTyPost (resTyCanon x) w) := by
  have hl : x.length ≤ 1048576 := Nat.le_trans (bulkL_len _ _) hz
  have hR0 := hR
  obtain ⟨p, cap, rfl, _, _⟩ := hR.form
  have HRes := Lib.hid (show resTyCanon x = if tyOkB x then (putT canV [] x).1 else [] from rfl)
  go_enter Try.func8, Try.ntmps8
  go_wp2_with fail
  refine (iTyOkC x _ _ (hR0.kept TyIEl.st (Kept.al2 _ _ _)) hz).mono ?_
  rintro e w1 ⟨rfl, hb1⟩
  obtain ⟨hc1, hf1⟩ := bcell hb1
  have B1 : Below w.heap.size w w1 := below_tr (Joins.below_alloc2 w _ _) hb1
  have c0 : w1.cell? ⟨w.heap.size, 0, none⟩ = some (.slice p x.length cap) := by rw [hc1 _ _ (by simp; omega)]; simp
  have c1 : w1.cell? ⟨w.heap.size + 1, 0, none⟩ = some (.slice none 0 0) := by rw [hc1 _ _ (by simp)]; simp
  have f1 : w1.frozen? ⟨w.heap.size + 1, 0, none⟩ = false := by rw [hf1 _ _ (by simp)]; simp
  have z1 : w.heap.size + 1 < w1.heap.size := by have := hb1.size; simp at this; omega
  clear hc1 hf1 hb1
  cases hok : tyOkB x
  · rw [hok] at HRes
    go_wp2
    rw [HRes.out]
    refine bodyPost_ret (v := .agg #[.slice none 0 0]) (by simp [results, Try.results8, go_sem, c1]) rfl ⟨.slice none 0 0, [], rfl, .inl ⟨rfl, rfl, _, _, rfl⟩, fun g hg => by simp at hg, List.nodup_nil, B1.setCell (Nat.le_succ _) _⟩
  · rw [hok] at HRes
    have hvar := tyOk_var hok
    have ht := ty_tree hok (row_names hR0)
    clear hok
    have hpl : ((putT canV [] x).1).length ≤ 1073741824 := by rw [putT_len]; omega
    go_wp2_with (first
      | (go_at_call 25; refine (iTreeOfTy x _ _ (hR0.kept TyIEl.st (Kept.of_below B1)) ht hl).mono ?_; rintro e w3 ⟨u3, rfl, ht3, hb3⟩; have c3 := (hb3.cell (p := ⟨w.heap.size + 1, 0, none⟩) z1).trans c1; have f3 := (hb3.frozen (p := ⟨w.heap.size + 1, 0, none⟩) z1).trans f1; have z3 := Nat.lt_of_lt_of_le z1 hb3.size; have hcan := iCanonical ht3 hl hvar w3 (Nat.le_refl _) (fun k _ hk => ⟨hk, rfl⟩); obtain ⟨T3, x3, rfl⟩ := ht3.shape)
      | (go_at_call 24; refine hcan.mono ?_; rintro e w4 ⟨u4, rfl, ht4, hb4⟩; have c4 := (hb4.cell (p := ⟨w.heap.size + 1, 0, none⟩) z3).trans c3; have f4 := (hb4.frozen (p := ⟨w.heap.size + 1, 0, none⟩) z3).trans f3; have z4 := Nat.lt_of_lt_of_le z3 hb4.size; have hto := iTyOfTree ht4 w4 (fun k _ hk => ⟨hk, rfl⟩) hpl; obtain ⟨T4, x4, rfl⟩ := ht4.shape)
      | (go_at_call 23; refine hto.mono ?_; rintro e w5 ⟨u5, F5, rfl, hF5, hlo5, hnd5, hb5⟩; have c5 := (hb5.cell (p := ⟨w.heap.size + 1, 0, none⟩) z4).trans c4; have f5 := (hb5.frozen (p := ⟨w.heap.size + 1, 0, none⟩) z4).trans f4; obtain ⟨a5, d5, e5, _, _⟩ := (hF5.reads TyIOwn.reads).form; subst e5))
    have b4 : Below w.heap.size w w4 := below_tr (below_tr B1 hb3) hb4
    rw [HRes.out, if_pos trivial]
    refine bodyPost_ret (v := .agg #[.slice a5 ((putT canV [] x).1).length d5]) (by simp [results, Try.results8, go_sem, c5]) rfl ⟨_, F5, rfl, hF5.set TyIOwn.loc TyIOwn.sized _ _ (fun e => by have := hlo5 _ e; omega), fun g hg => by have := hlo5 g hg; omega, hnd5, (below_tr b4 hb5).setCell (Nat.le_succ _) _⟩
end Go.Proofs.Ytciohamonmmciaa
