/- The model's TyPut as a whole. -/
import Derived.Test.YtciohamonmmciaaPutT
import Derived.Test.YtciohamonmmciaaCanL
namespace Go.Proofs.Ytciohamonmmciaa
set_option linter.unusedVariables false
set_option maxRecDepth 100000
open Go.ChangeShapes Go.WideShapes Go.ChangeAt Go.RowKit

theorem asc_pair {l : List Sb} (h : AscS l) : l.Pairwise fun a b => a.var < b.var :=
  List.pairwise_iff_getElem.2 fun i j hi hj hij => h.2 i j hi hj hij
theorem filter_find (n : Int) : ∀ (l : List Sb), (l.Pairwise fun a b => a.var < b.var) → (l.filter fun s => decide (s.var = n)).flatMap Sb.ty = (match l.find? (fun s => decide (s.var = n)) with | some s => s.ty | none => [])
  | [], _ => rfl
  | s :: l, h => by
    rw [List.pairwise_cons] at h
    by_cases hv : s.var = n
    · rw [List.filter_cons_of_pos (by simpa using hv), List.find?_cons_of_pos (by simpa using hv), List.filter_eq_nil_iff.2 fun u hu => by have := h.1 u hu; simp; omega]
      simp
    · rw [List.filter_cons_of_neg (by simpa using hv), List.find?_cons_of_neg (by simpa using hv)]
      exact filter_find n l h.2
theorem one_put {l : List Sb} (h : SubsP l) (t : TyI) (ht : t.name.toList = [] → t.arity = 0) : appOne l t = if t.name.toList = [] then putV l t.var else [t] := by
  unfold appOne hitB appL putV
  by_cases hn : t.name.toList = []
  · rw [if_pos hn, if_pos hn, filter_find t.var l (asc_pair h.asc)]
    simp only [hn, decide_true, Bool.true_and]
    by_cases ha : l.any (fun s => decide (s.var = t.var)) = true
    · rw [if_pos ha]
      cases hf : l.find? fun s => decide (s.var = t.var) with
      | some s => rfl
      | none =>
        rw [List.find?_eq_none] at hf
        rw [List.any_eq_true] at ha
        obtain ⟨s, hs, he⟩ := ha
        exact absurd he (hf s hs)
    · rw [if_neg ha]
      have hf : l.find? (fun s => decide (s.var = t.var)) = none := by
        rw [List.find?_eq_none]
        intro s hs he
        exact ha (List.any_eq_true.2 ⟨s, hs, he⟩)
      rw [hf]
      have h1 := noName_of hn
      have h2 := ht hn
      cases t
      simp only at h1 h2
      subst h1 h2
      rfl
  · simp [hn]
theorem app_put {l : List Sb} (h : SubsP l) (x : List TyI) (hx : ∀ t ∈ x, t.name.toList = [] → t.arity = 0) : appX l x = putX l x := by
  induction x with
  | nil => rfl
  | cons t x ih =>
    have h1 := ih fun t ht => hx t (List.mem_cons_of_mem _ ht)
    unfold appX putX at h1 ⊢
    rw [List.flatMap_cons, List.flatMap_cons, h1, one_put h t (hx t (by simp))]
theorem tyOk_pos {x : List TyI} (h : tyOkB x = true) : 0 < x.length := by
  cases x with
  | nil => unfold tyOkB at h; simp [endF] at h
  | cons t x => simp
theorem subs_pos {l : List Sb} (h : SubsP l) : ∀ s ∈ l, 0 < s.ty.length := by
  intro s hs
  obtain ⟨i, hi, rfl⟩ := List.getElem_of_mem hs
  exact tyOk_pos (h i _ (List.getElem?_eq_getElem hi)).2.2.2.1
set_option maxHeartbeats 2000000 in
theorem sTyPutC (x : List TyI) (l : List Sb) (v vl : Value) (w : World) (hR : RowRd 3 TyIEl w v x) (hRl : RowRd 2 SbEl w vl l) (hz : bTy x ≤ 1048576) (hzl : bulkL bSb l ≤ 1048576) :
    Calls Try.prog 13 #[.agg #[v], vl] w (TyPutPost (resTyPut x l) w) := by
  have hR0 := hR
  have hRl0 := hRl
  obtain ⟨p, cap, rfl, _, _⟩ := hR.form
  obtain ⟨pl, capl, rfl, _, _⟩ := hRl.form
  have HRes := Lib.hid (show resTyPut x l = if (tyOkB x && subsOkB l) = true then (if (putX l x).length ≤ 200 then (putX l x, true) else ([], false)) else ([], false) from rfl)
  go_enter Try.func13, Try.ntmps13
  go_wp2_with fail
  refine (sTyOk x _ _ (hR0.kept TyIEl.st (Kept.al2 _ _ _))).mono ?_
  rintro e w1 ⟨rfl, hb1⟩
  obtain ⟨hc1, hf1⟩ := bcell hb1
  have B1 : Below w.heap.size w w1 := below_tr (Joins.below_alloc2 w _ _) hb1
  have c0 : w1.cell? ⟨w.heap.size, 0, none⟩ = some (.slice p x.length cap) := by rw [hc1 _ _ (by simp; omega)]; simp
  have c1 : w1.cell? ⟨w.heap.size + 1, 0, none⟩ = some (.slice none 0 0) := by rw [hc1 _ _ (by simp)]; simp
  have f1 : w1.frozen? ⟨w.heap.size + 1, 0, none⟩ = false := by rw [hf1 _ _ (by simp)]; simp
  have z1 : w.heap.size + 1 < w1.heap.size := by have := hb1.size; simp at this; omega
  clear hc1 hf1 hb1
  cases hok : tyOkB x
  · rw [hok] at HRes
    go_wp2
    have hres : resTyPut x l = ([], false) := HRes.out
    rw [hres]
    refine bodyPost_ret (v := .tuple #[.agg #[.slice none 0 0], .bool false]) (by simp [results, Try.results13, go_sem, c1]) rfl ⟨.slice none 0 0, [], rfl, .inl ⟨rfl, rfl, _, _, rfl⟩, fun g hg => by simp at hg, List.nodup_nil, B1.setCell (Nat.le_succ _) _⟩
  · go_wp2_with fail
    refine (sSubsOkC l _ _ (hRl0.kept SbEl.st (Kept.of_below B1)) hzl).mono ?_
    rintro e w2 ⟨rfl, hb2⟩
    have B2 := below_tr B1 hb2
    have d0 := (hb2.cell (p := ⟨w.heap.size, 0, none⟩) (by show w.heap.size < _; omega)).trans c0
    have d1 := (hb2.cell (p := ⟨w.heap.size + 1, 0, none⟩) z1).trans c1
    have g1 := (hb2.frozen (p := ⟨w.heap.size + 1, 0, none⟩) z1).trans f1
    have z2 : w.heap.size + 1 < w2.heap.size := Nat.lt_of_lt_of_le z1 hb2.size
    clear c0 c1 f1
    cases hso : subsOkB l
    · rw [hok, hso] at HRes
      go_wp2
      have hres : resTyPut x l = ([], false) := HRes.out
      rw [hres]
      refine bodyPost_ret (v := .tuple #[.agg #[.slice none 0 0], .bool false]) (by simp [results, Try.results13, go_sem, d1]) rfl ⟨.slice none 0 0, [], rfl, .inl ⟨rfl, rfl, _, _, rfl⟩, fun g hg => by simp at hg, List.nodup_nil, B2.setCell (Nat.le_succ _) _⟩
    · have hS := subsOk_of hso
      have hl2 := tyOk_len hok
      have hap := app_put hS x (tyOk_arity hok)
      have hpos := subs_pos hS
      rw [hok, hso] at HRes
      have hmul : x.length * (1 + bulkL bSb l) ≤ 1099511627776 := Nat.le_trans (Nat.mul_le_mul hl2 (show 1 + bulkL bSb l ≤ 1048577 by omega)) (by decide)
      have hA := fun W (hK : Kept w W) => Lib.hid (sApply x l _ _ W (hR0.kept TyIEl.st hK) (hRl0.kept SbEl.st hK) hmul (by omega) hpos)
      rw [hap] at hA
      clear hok hso hmul hap
      go_wp2_with fail
      refine (hA _ (Kept.of_below B2)).out.mono ?_
      rintro e w3 ⟨u3, F3, rfl, hF3, hlo3, hnd3, hb3⟩
      obtain ⟨a3, d3, rfl, _, _⟩ := (hF3.reads TyIOwn.reads).form
      have B3 := below_tr B2 hb3
      have q1 := (hb3.cell (p := ⟨w.heap.size + 1, 0, none⟩) z2).trans d1
      have q2 := (hb3.frozen (p := ⟨w.heap.size + 1, 0, none⟩) z2).trans g1
      have z3 : w.heap.size + 1 < w3.heap.size := Nat.lt_of_lt_of_le z2 hb3.size
      have n3 : w3.heap.size ≠ w.heap.size + 1 := by omega
      clear hA d0 d1 g1
      have hqq := fun (T : TypeId) (u v : Value) => (show ((w3.setCell ⟨w.heap.size + 1, 0, none⟩ v).alloc (.cells #[u] T)).cell? ⟨w.heap.size + 1, 0, none⟩ = some v from by
        rw [World.cell?_alloc_lt _ _ ⟨w.heap.size + 1, 0, none⟩ (by rw [setCell_size]; exact z3)]; exact World.cell?_setCell_same' _ _ _ (by rw [q1]; rfl))
      have HQQ := Lib.hid hqq
      clear hqq
      by_cases hlen : (putX l x).length ≤ 200
      · have dl : decide (200 < ((putX l x).length : Int)) = false := by simp; omega
        have hres : resTyPut x l = (putX l x, true) := by rw [HRes.out]; simp [hlen]
        go_wp2
        rw [hres]
        refine bodyPost_ret (v := .tuple #[.agg #[.slice a3 (putX l x).length d3], .bool true]) (by simp [results, Try.results13, go_sem, HQQ.out]) rfl ⟨_, F3, rfl, (hF3.set TyIOwn.loc TyIOwn.sized _ _ (fun e => by have := hlo3 _ e; omega)).kept TyIOwn.loc TyIOwn.sized (Joins.below_alloc1 _ _), fun g hg => by have := hlo3 g hg; omega, hnd3, below_tr (B3.setCell (Nat.le_succ _) _) (Joins.below_alloc1 _ _)⟩
      · have dl : decide (200 < ((putX l x).length : Int)) = true := by simp; omega
        have hres : resTyPut x l = ([], false) := by rw [HRes.out]; simp [hlen]
        go_wp2
        rw [hres]
        refine bodyPost_ret (v := .tuple #[.agg #[.slice none 0 0], .bool false]) (by simp [results, Try.results13, go_sem, HQQ.out]) rfl ⟨.slice none 0 0, [], rfl, .inl ⟨rfl, rfl, _, _, rfl⟩, fun g hg => by simp at hg, List.nodup_nil, below_tr (B3.setCell (Nat.le_succ _) _) (Joins.below_alloc1 _ _)⟩
theorem putX_le (x : List TyI) (l : List Sb) : (resTyPut x l).1.length ≤ 200 := by
  unfold resTyPut
  split
  · split
    · assumption
    · simp
  · simp
theorem TyPut_cnt (x : List TyI) (l : List Sb) (hz : bTy x ≤ 1048576) (hzl : bulkL bSb l ≤ 1048576) : 1 + cntL cTyI (resTyPut x l).1 ≤ 1000000000000 := by
  have h2 := putX_le x l
  rw [cntL_items]
  omega
end Go.Proofs.Ytciohamonmmciaa
