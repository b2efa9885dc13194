/- The program's Hit. -/
import Derived.Test.YtkalkmgnjlohnaaHtM
import Derived.Test.YtkalkmgnjlohnaaHtU
import Derived.Test.YtkalkmgnjlohnaaMkData
namespace Go.Proofs.Ytkalkmgnjlohnaa
set_option linter.unusedVariables false
set_option maxRecDepth 100000
open Go.ChangeShapes Go.WideShapes Go.ChangeAt Go.RowKit

theorem cntL_mul {α : Type} (c : α → Nat) (M : Nat) (l : List α) (h : ∀ x ∈ l, c x ≤ M) : cntL c l ≤ M * l.length := by
  induction l with
  | nil => simp [cntL]
  | cons x l ih =>
    have := ih fun y hy => h y (List.mem_cons_of_mem _ hy)
    have := h x (by simp)
    simp only [cntL, List.length_cons, Nat.mul_add]
    omega
theorem hits_mem {g : Nat → Nat → Option (List (List DN))} {A : List DN → Prop} (hg : ∀ i k r, g i k = some r → ∀ x ∈ r, A x) : ∀ (ks js : List Int) (r : List (List DN)), hitsF g ks js = some r → ∀ x ∈ r, A x := by
  intro ks
  induction ks with
  | nil => intro js r h; rw [hitsF_nil] at h; cases h; simp
  | cons k ks ih =>
    intro js r h
    cases js with
    | nil => rw [hitsF] at h; cases h; simp; simp
    | cons j js =>
      rw [hitsF] at h
      cases hx : g k.toNat j.toNat with
      | none => rw [hx] at h; cases h
      | some a =>
        rw [hx] at h
        cases hy : hitsF g ks js with
        | none => rw [hy] at h; cases h
        | some b =>
          rw [hy] at h
          simp at h
          subst h
          intro x hxm
          rcases List.mem_append.1 hxm with hxm | hxm
          · exact hg _ _ _ hx x hxm
          · exact ih js b hy x hxm
theorem hit_mem (q : List PN) (d : List DN) : ∀ (f i k : Nat) (r : List (List DN)), hitF f q d i k = some r → ∀ x ∈ r, ∃ k, x = partN d k := by
  intro f
  induction f with
  | zero => intro i k r h; cases h
  | succ f ih =>
    intro i k r h
    rw [hitF] at h
    cases hq : q[i]? with
    | none => rw [hq] at h; cases h
    | some n =>
      cases hd : d[k]? with
      | none => rw [hq, hd] at h; cases h
      | some v =>
        rw [hq, hd] at h
        have h : hitStep (hitF f q d) d n v k = some r := h
        unfold hitStep at h
        split at h
        · cases h; simp
        · split at h
          · cases h; intro x hx; rw [List.mem_singleton.1 hx]; exact ⟨k, rfl⟩
          · split at h
            · exact hits_mem (fun i k r hr => ih i k r hr) _ _ _ h
            · cases h
theorem Hit_cnt (q : List PN) (d : List DN) (hzq : bPat q ≤ 1048576) (hzd : bData d ≤ 1048576) : 1 + cntL cData (resHit q d).1 ≤ 1000000000000 := by
  unfold resHit
  by_cases hb : (patOkB q && dOkB d) = true
  · rw [if_pos hb]
    simp only [Bool.and_eq_true] at hb
    have hV := valid_of hb.1 hb.2
    have hql := hV.ql
    have hdl := hV.dl
    cases hr : hitN q d 0 0 with
    | none => simp [cntL]
    | some r =>
      have hlen := hitN_len hV.qp 0 0 (by omega) (by omega) hr
      have hc : ∀ x ∈ r, cData x ≤ 3000 := by
        intro x hx
        obtain ⟨k, rfl⟩ := hit_mem q d _ 0 0 r hr x hx
        have h1 : ∀ y ∈ partN d k, cDN y ≤ 5 := by
          intro y hy
          obtain ⟨z, hz, rfl⟩ := List.mem_map.1 hy
          have hz2 : z ∈ d := List.mem_of_mem_take (List.mem_of_mem_drop hz)
          obtain ⟨i, hi, rfl⟩ := List.getElem_of_mem hz2
          have := dn_kids (hV.dn i hi)
          have h3 := cntL_mul cInt 1 (shiftN k d[i]).kids (fun _ _ => Nat.le_refl _)
          have h4 : (shiftN k d[i]).kids.length = d[i].kids.length := by simp [shiftN]
          unfold cDN
          omega
        have h2 := cntL_mul cDN 5 (partN d k) h1
        have h5 : (partN d k).length ≤ d.length := by simp [partN]; omega
        unfold cData
        omega
      have := cntL_mul cData 3000 r hc
      show 1 + cntL cData r ≤ _
      omega
  · rw [if_neg hb]; simp [cntL]
set_option maxHeartbeats 4000000 in
theorem iHitC (q : List PN) (d : List DN) (vq vd : Value) (w : World) (hRq : RowRd 4 PNEl w vq q) (hRd : RowRd 4 DNEl w vd d) (hzq : bPat q ≤ 1048576) (hzd : bData d ≤ 1048576) :
    Calls Try.prog 14 #[.agg #[vq], .agg #[vd]] w (HitOut (resHit q d) w) := by
  have hQ := fun W (hK : Kept w W) => iPatOkC q vq W (hRq.kept PNEl.st hK) hzq
  have hD := fun W (hK : Kept w W) => iDataOkC d vd W (hRd.kept DNEl.st hK) hzd
  have hH := fun (hq : patOkB q = true) (hd : dOkB d = true) W (hK : Kept w W) => iBoundBy q d vq vd W (valid_of hq hd) (hRq.kept PNEl.st hK) (hRd.kept DNEl.st hK)
  obtain ⟨pq, cq, rfl, hmq, -⟩ := hRq.form
  obtain ⟨pd, cd, rfl, hmd, -⟩ := hRd.form
  clear hRq hRd
  obtain ⟨Wb, hWb⟩ : ∃ Wb, Wb = (w.alloc (.cells #[.slice pq q.length cq] 42)).alloc (.cells #[.slice pd d.length cd] 29) := ⟨_, rfl⟩
  have g0 : Wb.heap[w.heap.size]? = some (.cells #[.slice pq q.length cq] 42 (0, 0)) := by
    rw [hWb, alloc_was _ _ _ (by simp)]; exact alloc_at _ _ rfl
  have g1 : Wb.heap[w.heap.size + 1]? = some (.cells #[.slice pd d.length cd] 29 (0, 0)) := by
    rw [hWb]; exact alloc_at _ _ (by simp)
  have z0 : w.heap.size < Wb.heap.size := by rw [hWb]; simp; omega
  have z1 : w.heap.size + 1 < Wb.heap.size := by rw [hWb]; simp
  have bB : Below w.heap.size w Wb := by rw [hWb]; exact Joins.below_alloc2 w _ _
  have e0 := (blk_cell g0 0).1
  have e1 := (blk_cell g1 0).1
  simp at e0 e1
  cases hq : patOkB q
  · have hr := fun W => Lib.hid (hit_no (q := q) (d := d) (by rw [hq]; rfl) (w := w) (w' := W))
    rw [hq] at hQ
    clear hH hD
    go_enter Try.func14, Try.ntmps14
    go_wp2_with fail
    rw [← hWb]
    clear hWb
    refine (hQ _ (Kept.of_below bB)).mono ?_
    rintro e w1 ⟨rfl, hb1⟩
    go_wp2
    go_ret2
    exact (hr _).out (below_tr bB hb1)
  · cases hd : dOkB d
    · have hr := fun W => Lib.hid (hit_no (q := q) (d := d) (by rw [hq, hd]; rfl) (w := w) (w' := W))
      rw [hq] at hQ
      rw [hd] at hD
      clear hH
      go_enter Try.func14, Try.ntmps14
      go_wp2_with fail
      rw [← hWb]
      clear hWb
      refine (hQ _ (Kept.of_below bB)).mono ?_
      rintro e w1 ⟨rfl, hb1⟩
      have f1 := (hb1.cell (p := ⟨w.heap.size + 1, 0, none⟩) z1).trans e1
      go_wp2_with fail
      refine (hD _ (Kept.of_below (below_tr bB hb1))).mono ?_
      rintro e w2 ⟨rfl, hb2⟩
      go_wp2
      go_ret2
      exact (hr _).out (below_tr (below_tr bB hb1) hb2)
    · have hr := fun W => hit_out (q := q) (d := d) hq hd (w := w) (W := W)
      have hH2 := hH hq hd
      rw [hq] at hQ
      rw [hd] at hD
      clear hH
      go_enter Try.func14, Try.ntmps14
      go_wp2_with fail
      rw [← hWb]
      clear hWb
      refine (hQ _ (Kept.of_below bB)).mono ?_
      rintro e w1 ⟨rfl, hb1⟩
      have f0 := (hb1.cell (p := ⟨w.heap.size, 0, none⟩) z0).trans e0
      have f1 := (hb1.cell (p := ⟨w.heap.size + 1, 0, none⟩) z1).trans e1
      go_wp2_with fail
      refine (hD _ (Kept.of_below (below_tr bB hb1))).mono ?_
      rintro e w2 ⟨rfl, hb2⟩
      have hz1 := hb1.size
      have k0 := (hb2.cell (p := ⟨w.heap.size, 0, none⟩) (by show w.heap.size < _; omega)).trans f0
      have k1 := (hb2.cell (p := ⟨w.heap.size + 1, 0, none⟩) (by show w.heap.size + 1 < _; omega)).trans f1
      go_wp2_with fail
      refine (hH2 _ (Kept.of_below (below_tr (below_tr bB hb1) hb2))).mono ?_
      rintro e w3 hp
      have ho := hr _ (below_tr (below_tr bB hb1) hb2) hp
      obtain ⟨a, c, zs, rfl, hp'⟩ := hp
      clear hp'
      go_wp2
      go_ret2
      exact ho
end Go.Proofs.Ytkalkmgnjlohnaa
