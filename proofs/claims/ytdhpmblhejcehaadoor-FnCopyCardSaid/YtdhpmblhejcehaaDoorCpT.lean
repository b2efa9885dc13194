
/- The model's copying of a heap: the roots, then the cells. -/
import Derived.Test.YtdhpmblhejcehaaDoorCpS
import Derived.Test.YtdhpmblhejcehaaDoorHpRow
namespace Go.Proofs.YtdhpmblhejcehaaDoor
set_option linter.unusedVariables false
set_option maxRecDepth 100000
open Go.ChangeShapes Go.WideShapes Go.ChangeAt Go.RowKit

theorem rootsO_ok {h : List Ce} {r : List Vl} (hb : heapB h r = true) : ∀ k, k ≤ r.length → OrdOk h.length (rootsO [] (r.take k))
  | 0, _ => ⟨by simp [rootsO], fun x hx => by simp [rootsO] at hx⟩
  | k + 1, hk => by
    rw [List.take_succ_eq_append_getElem (by omega), rootsO_snoc]
    refine mvO_ok (rootsO_ok hb k (by omega)) fun h6 => ?_
    have := heap_root hb (List.getElem_mem (show k < r.length by omega)) h6
    omega
theorem cpAt_ok {h : List Ce} {r : List Vl} {o0 : List Nat} (hb : heapB h r = true) (h0 : OrdOk h.length o0) : ∀ k, OrdOk h.length (cpAt h o0 k).1
  | 0 => h0
  | k + 1 => by
    have ih := cpAt_ok hb h0 k
    rw [cpAt]
    split
    · exact ih
    · split
      · exact ih
      · rename_i x hx _ c hc
        obtain ⟨hl, rfl⟩ := List.getElem?_eq_some_iff.1 hc
        refine mvO_ok (mvO_ok ih fun h6 => ?_) fun h6 => ?_
        · have := heap_a hb hl h6; omega
        · have := heap_b hb hl h6; omega
theorem mvV_ok {o : List Nat} {v : Vl} {n : Nat} (ho : OrdOk n (mvO o v)) (hn : n ≤ 4000) (hv : VlOk v) : VlOk (mvV o v) := by
  unfold mvV
  split
  · rename_i hk
    have hm : v.n.toNat ∈ mvO o v := by
      unfold mvO
      by_cases hx : v.n.toNat ∈ o
      · rw [if_neg (fun c => c.2 hx)]; exact hx
      · rw [if_pos ⟨hk, hx⟩]; simp
    have h1 := List.idxOf_lt_length_iff.2 hm
    have h2 := nodup_le n _ ho
    refine ⟨by show -9223372036854775808 ≤ (6 : Int) ∧ (6 : Int) ≤ 9223372036854775807; omega, by show -9223372036854775808 ≤ (((mvO o v).idxOf v.n.toNat : Nat) : Int) ∧ (((mvO o v).idxOf v.n.toNat : Nat) : Int) ≤ 9223372036854775807; omega, by show (0 : Nat) ≤ _; omega⟩
  · exact hv
theorem vl_s6 {m : Int} {v : Vl} (h : valB m v = true) (hk : v.kind = 6) : v.s.toList = [] := (val_cell h hk).2.2
theorem heap_rs {h : List Ce} {r : List Vl} (hb : heapB h r = true) {v : Vl} (hv : v ∈ r) (hk : v.kind = 6) : v.s.toList = [] := by
  simp only [heapB, Bool.and_eq_true, decide_eq_true_eq] at hb
  exact vl_s6 (List.all_eq_true.1 hb.2.2 v hv) hk
theorem heap_as {h : List Ce} {r : List Vl} (hb : heapB h r = true) {i : Nat} (hi : i < h.length) (hk : h[i].a.kind = 6) : h[i].a.s.toList = [] := by
  simp only [heapB, Bool.and_eq_true, decide_eq_true_eq] at hb
  have := List.all_eq_true.1 hb.2.1 _ (List.getElem_mem hi)
  simp only [cellB, Bool.and_eq_true] at this
  exact vl_s6 this.2.2.1 hk
theorem heap_bs {h : List Ce} {r : List Vl} (hb : heapB h r = true) {i : Nat} (hi : i < h.length) (hk : h[i].b.kind = 6) : h[i].b.s.toList = [] := by
  simp only [heapB, Bool.and_eq_true, decide_eq_true_eq] at hb
  have := List.all_eq_true.1 hb.2.1 _ (List.getElem_mem hi)
  simp only [cellB, Bool.and_eq_true] at this
  have hB := this.2.2.2.1
  unfold cellBB at hB
  split at hB
  · exact vl_s6 hB hk
  · simp only [noneB, Bool.and_eq_true, decide_eq_true_eq] at hB; omega
/-- What copying leaves: two rows of the call's own. -/
def CopyRes (h : List Ce) (r : List Vl) (w : World) (e : Ending) (w' : World) : Prop :=
  ∃ u v, e = .returned (.tuple #[u, v]) ∧ w'.ownsRow w.heap.size 53 9 u (resCopy h r).1.length (cc (resCopy h r).1) ∧ w'.ownsRow w.heap.size 33 3 v (resCopy h r).2.length (vc (resCopy h r).2) ∧ Below w.heap.size w w'
/-- Copied cells are right ones. -/
theorem cpAt_cells {h : List Ce} {r : List Vl} {o0 : List Nat} (hb : heapB h r = true) (h0 : OrdOk h.length o0) (hc : ∀ x ∈ h, CeOk x) : ∀ k, ∀ x ∈ (cpAt h o0 k).2, CeOk x
  | 0 => by intro x hx; simp [cpAt] at hx
  | k + 1 => by
    have ih := cpAt_cells hb h0 hc k
    have io := cpAt_ok hb h0 k
    have hl4 := heap_len hb
    rw [cpAt]
    split
    · exact ih
    · split
      · exact ih
      · rename_i x hx _ c hc'
        obtain ⟨hl, rfl⟩ := List.getElem?_eq_some_iff.1 hc'
        obtain ⟨c0, c1, c2, c3, c4⟩ := hc _ (List.getElem_mem hl)
        have o1 : OrdOk h.length (mvO (cpAt h o0 k).1 h[x].a) := mvO_ok io fun h6 => by have := heap_a hb hl h6; omega
        have o2 : OrdOk h.length (mvO (mvO (cpAt h o0 k).1 h[x].a) h[x].b) := mvO_ok o1 fun h6 => by have := heap_b hb hl h6; omega
        intro y hy
        rcases List.mem_append.1 hy with hy | hy
        · exact ih y hy
        · rw [List.mem_singleton] at hy
          subst hy
          exact ⟨c0, c1, c2, mvV_ok o1 hl4 c3, mvV_ok o2 hl4 c4⟩
theorem rootsV_vals {h : List Ce} {r : List Vl} (hb : heapB h r = true) (hv : ∀ x ∈ r, VlOk x) : ∀ k, k ≤ r.length → ∀ x ∈ rootsV [] (r.take k), VlOk x
  | 0, _ => by intro x hx; simp [rootsV] at hx
  | k + 1, hk => by
    have ih := rootsV_vals hb hv k (by omega)
    have io := rootsO_ok hb (k + 1) hk
    have e := List.take_succ_eq_append_getElem (show k < r.length by omega)
    rw [e, rootsV_snoc]
    rw [e, rootsO_snoc] at io
    intro y hy
    rcases List.mem_append.1 hy with hy | hy
    · exact ih y hy
    · rw [List.mem_singleton] at hy
      subst hy
      exact mvV_ok io (heap_len hb) (hv _ (List.getElem_mem _))
theorem resCopy_ok {h : List Ce} {r : List Vl} (hc : ∀ x ∈ h, CeOk x) (hv : ∀ x ∈ r, VlOk x) : (∀ x ∈ (resCopy h r).1, CeOk x) ∧ (∀ x ∈ (resCopy h r).2, VlOk x) := by
  unfold resCopy
  split
  · rename_i hb
    have h1 := rootsV_vals hb hv r.length (Nat.le_refl _)
    have h2 := rootsO_ok hb r.length (Nat.le_refl _)
    rw [List.take_length] at h1 h2
    exact ⟨cpAt_cells hb h2 hc _, h1⟩
  · exact ⟨by simp, by simp⟩
theorem ce_ok_of {w : World} {v : Value} {l : List Ce} (h : RowRd 9 CeEl w v l) : ∀ x ∈ l, CeOk x := by
  obtain ⟨a, c, -, -, hc⟩ := h.form
  intro x hx
  obtain ⟨i, hi, rfl⟩ := List.getElem_of_mem hx
  obtain ⟨b, o, -, -, hc⟩ := hc (by omega)
  obtain ⟨-, i0, i1, i2, i3, i4, i5, i6, i7, i8⟩ := ce_at (hc i hi)
  exact ⟨i0, i1, i2, ⟨i3, i4, i5⟩, ⟨i6, i7, i8⟩⟩
theorem vl_ok_of {w : World} {v : Value} {l : List Vl} (h : RowRd 3 VlEl w v l) : ∀ x ∈ l, VlOk x := by
  obtain ⟨a, c, -, -, hc⟩ := h.form
  intro x hx
  obtain ⟨i, hi, rfl⟩ := List.getElem_of_mem hx
  obtain ⟨b, o, -, -, hc⟩ := hc (by omega)
  obtain ⟨⟨-, i0⟩, ⟨-, i1⟩, ⟨-, i2⟩⟩ := hc i hi
  exact ⟨i0, i1, i2⟩
/-- What Copy hands back. -/
def CopyPost (h : List Ce) (r : List Vl) (w : World) (e : Ending) (w' : World) : Prop :=
  ∃ u v F G, e = .returned (.tuple #[u, v]) ∧ RowOwn 9 CeOwn w' u (resCopy h r).1 F ∧ RowOwn 3 VlOwn w' v (resCopy h r).2 G ∧ (∀ g ∈ F ++ G, w.heap.size ≤ g) ∧ (F ++ G).Nodup ∧ Below w.heap.size w w'
theorem own_flat1 {α : Type} {n : Nat} {R : ElRd α} {w : World} {v : Value} {l : List α} {F : List Nat} (h : RowOwn n (Flat R) w v l F) : F = [] ∨ ∃ g, F = [g] ∧ v.ownBlock = some g := by
  rcases h with ⟨_, rfl, _⟩ | ⟨g, cap, Fs, h1, h2, h3, h4, h5, h6, rfl, h8⟩
  · exact .inl rfl
  · right
    refine ⟨g, ?_, by rw [h1]; rfl⟩
    have : Fs.flatten = [] := by
      rw [List.flatten_eq_nil_iff]
      intro F hF
      obtain ⟨i, hi, rfl⟩ := List.getElem_of_mem hF
      exact (h8 i (by omega) hi).1
    rw [this]
theorem copy_post {h : List Ce} {r : List Vl} {w w1 w' : World} {e : Ending} (hc : ∀ x ∈ h, CeOk x) (hv : ∀ x ∈ r, VlOk x) (H : CopyRes h r w1 e w') (hb : Below w.heap.size w w1) : CopyPost h r w e w' := by
  obtain ⟨u, v, rfl, ho, hn, hbel⟩ := H
  obtain ⟨F, hF, hF0, hFn⟩ := own_cells ho (resCopy_ok hc hv).1
  obtain ⟨G, hG, hG0, hGn⟩ := own_vals hn (resCopy_ok hc hv).2
  refine ⟨u, v, F, G, rfl, hF, hG, fun g hg => ?_, List.nodup_append.2 ⟨hFn, hGn, fun a ha b hb' => ?_⟩, below_tr hb hbel⟩
  · have := hb.size
    rcases List.mem_append.1 hg with hg | hg
    · have := hF0 g hg; omega
    · have := hG0 g hg; omega
  · intro e
    subst e
    rcases own_flat1 hF with rfl | ⟨g, rfl, e1⟩
    · simp at ha
    · rcases own_flat1 hG with rfl | ⟨g2, rfl, e2⟩
      · simp at hb'
      · rw [List.mem_singleton] at ha hb'
        subst ha hb'
        exact hp_two ho hn (by decide) e2 e1
end Go.Proofs.YtdhpmblhejcehaaDoor
