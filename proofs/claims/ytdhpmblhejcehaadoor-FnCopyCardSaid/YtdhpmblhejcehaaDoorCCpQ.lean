/- Texts of this proof, merged: HpP, CpFin, CpTwice, CpShow, CpQ. -/
import Derived.Test.YtdhpmblhejcehaaDoorHpG
import Derived.Test.YtdhpmblhejcehaaDoorNew
import Derived.Test.YtdhpmblhejcehaaDoorHqT
import Derived.Test.YtdhpmblhejcehaaDoorHpW
import Derived.Test.YtdhpmblhejcehaaDoorCpMath
import Derived.Test.YtdhpmblhejcehaaDoorCShMath
namespace Go.Proofs.YtdhpmblhejcehaaDoor
set_option linter.unusedVariables false
set_option maxRecDepth 100000
open Go.ChangeShapes Go.WideShapes Go.ChangeAt Go.RowKit

theorem vl5_ok {x : Vl} (h : Vl5 x) : VlOk x := ⟨h.1, h.2.1, Nat.le_trans h.2.2 (by unfold maxLen; omega)⟩
theorem ce5_ok {x : Ce} (h : Ce5 x) : CeOk x := ⟨h.1, h.2.1, Nat.le_trans h.2.2.1 (by unfold maxLen; omega), vl5_ok h.2.2.2.1, vl5_ok h.2.2.2.2⟩
theorem bulkL_le {α : Type} (f : α → Nat) (c : Nat) : ∀ l : List α, (∀ x ∈ l, f x ≤ c) → bulkL f l ≤ l.length * (c + 1)
  | [], _ => by simp [bulkL]
  | x :: l, h => by
    have h1 := h x (by simp)
    have h2 := bulkL_le f c l (fun y hy => h y (by simp [hy]))
    simp only [bulkL, List.length_cons, Nat.add_mul, Nat.one_mul] at h2 ⊢
    omega
theorem vl5_bulk {l : List Vl} (h : ∀ x ∈ l, Vl5 x) (hl : l.length ≤ 5) : bulkL bVl l ≤ 1048576 := by
  have := bulkL_le bVl 5 l (fun x hx => (h x hx).2.2)
  have : l.length * (5 + 1) ≤ 5 * (5 + 1) := Nat.mul_le_mul_right _ hl
  omega
theorem ce5_bulk {l : List Ce} (h : ∀ x ∈ l, Ce5 x) (hl : l.length ≤ 11) : bulkL bCe l ≤ 1048576 := by
  have := bulkL_le bCe 15 l (fun x hx => by
    have h1 := (h x hx).2.2.1
    have h2 := (h x hx).2.2.2.1.2.2
    have h3 := (h x hx).2.2.2.2.2.2
    unfold bCe bVl; omega)
  have : l.length * (15 + 1) ≤ 11 * (15 + 1) := Nat.mul_le_mul_right _ hl
  omega
def DrawnHR (w : World) (e : Ending) (w' : World) : Prop :=
  ∃ (u v : Value) (h : List Ce) (r : List Vl), e = .returned (.tuple #[u, v]) ∧ RowRd 9 CeEl w' u h ∧ RowRd 3 VlEl w' v r ∧ bulkL bCe h ≤ 1048576 ∧ bulkL bVl r ≤ 1048576 ∧ Below w.heap.size w w'
theorem placesL_mem (f : Nat → Bool) (i : Nat) : ∀ k, (i : Int) ∈ placesL f k ↔ i < k ∧ f i = true
  | 0 => by simp [placesL]
  | k + 1 => by
    unfold placesL
    rw [List.mem_append, placesL_mem f i k]
    by_cases hf : f k = true
    · rw [if_pos hf, List.mem_singleton]
      constructor
      · rintro (⟨h1, h2⟩ | h)
        · exact ⟨by omega, h2⟩
        · obtain rfl : i = k := by omega
          exact ⟨by omega, hf⟩
      · rintro ⟨h1, h2⟩
        by_cases h : i = k
        · exact .inr (by omega)
        · exact .inl ⟨by omega, h2⟩
    · rw [if_neg hf]
      constructor
      · rintro (⟨h1, h2⟩ | h)
        · exact ⟨by omega, h2⟩
        · simp at h
      · rintro ⟨h1, h2⟩
        by_cases h : i = k
        · subst h; exact absurd h2 hf
        · exact .inl ⟨by omega, h2⟩
theorem placesL_two (f : Nat → Bool) : ∀ k, (placesL f k).length + (placesL (fun i => !f i) k).length = k
  | 0 => rfl
  | k + 1 => by
    have := placesL_two f k
    unfold placesL
    cases f k <;> simp <;> omega
theorem placesL_has (f : Nat → Bool) {i k : Nat} (h : i < k) : decide ((i : Int) ∈ placesL f k) = f i := by
  have := placesL_mem f i k
  cases hf : f i <;> simp [this, h, hf]
end Go.Proofs.YtdhpmblhejcehaaDoor
namespace Go.Proofs.YtdhpmblhejcehaaDoor
set_option linter.unusedVariables false
open Go.RowKit

/-- A value, its cell numbered by an order. -/
def fin (o : List Nat) (v : Vl) : Vl := if v.kind = 6 then ⟨6, ((o.idxOf v.n.toNat : Nat) : Int), ⟨#[]⟩⟩ else v
def inO (o : List Nat) (v : Vl) : Prop := v.kind = 6 → v.n.toNat ∈ o
def img (o : List Nat) (c : Ce) : Ce := ⟨c.kind, c.n, c.s, fin o c.a, fin o c.b⟩
theorem mvV_fin (o : List Nat) (v : Vl) : mvV o v = fin (mvO o v) v := rfl
theorem mvO_pre (o : List Nat) (v : Vl) : o <+: mvO o v := by
  unfold mvO; split
  · exact ⟨_, rfl⟩
  · exact List.prefix_refl _
theorem inO_mv (o : List Nat) (v : Vl) : inO (mvO o v) v := by
  intro hk
  unfold mvO
  by_cases hm : v.n.toNat ∈ o
  · rw [if_neg (by simp [hm])]; exact hm
  · rw [if_pos ⟨hk, hm⟩]; simp
theorem mvO_mem {o : List Nat} {v : Vl} {x : Nat} (h : x ∈ mvO o v) : x ∈ o ∨ (v.kind = 6 ∧ x = v.n.toNat) := by
  unfold mvO at h
  split at h
  · rename_i hc
    rcases List.mem_append.1 h with h | h
    · exact .inl h
    · exact .inr ⟨hc.1, List.mem_singleton.1 h⟩
  · exact .inl h
theorem inO_pre {o o' : List Nat} {v : Vl} (hp : o <+: o') (h : inO o v) : inO o' v := fun hk => hp.subset (h hk)
theorem idx_pre {o o' : List Nat} {x : Nat} (hp : o <+: o') (h : x ∈ o) : o'.idxOf x = o.idxOf x := by
  obtain ⟨t, rfl⟩ := hp
  rw [List.idxOf_append, if_pos h]
theorem fin_pre {o o' : List Nat} {v : Vl} (hp : o <+: o') (h : inO o v) : fin o' v = fin o v := by
  unfold fin
  by_cases hk : v.kind = 6
  · rw [if_pos hk, if_pos hk, idx_pre hp (h hk)]
  · rw [if_neg hk, if_neg hk]
theorem img_pre {o o' : List Nat} {c : Ce} (hp : o <+: o') (ha : inO o c.a) (hb : inO o c.b) : img o' c = img o c := by
  unfold img; rw [fin_pre hp ha, fin_pre hp hb]
theorem get_pre {o o' : List Nat} {i x : Nat} (hp : o <+: o') (h : o[i]? = some x) : o'[i]? = some x := by
  obtain ⟨t, rfl⟩ := hp
  have hi : i < o.length := (List.getElem?_eq_some_iff.1 h).1
  rw [List.getElem?_append_left hi]; exact h
theorem idx_at {o : List Nat} {i x : Nat} (hn : o.Nodup) (h : o[i]? = some x) : o.idxOf x = i := by
  obtain ⟨hi, he⟩ := List.getElem?_eq_some_iff.1 h
  subst he
  exact hn.idxOf_getElem i hi
/-- The roots' order. -/
theorem roots_inv {h : List Ce} {r : List Vl} (hb : heapB h r = true) : ∀ (l : List Vl) (o : List Nat), (∀ v ∈ l, v ∈ r) → OrdOk h.length o → (∀ x ∈ o, Rch h r x) →
    OrdOk h.length (rootsO o l) ∧ (∀ x ∈ rootsO o l, Rch h r x) ∧ o <+: rootsO o l ∧ (∀ v ∈ l, inO (rootsO o l) v) ∧ rootsV o l = l.map (fin (rootsO o l))
  | [], o, _, h1, h2 => ⟨h1, h2, List.prefix_refl _, fun v hv => absurd hv (by simp), rfl⟩
  | v :: l, o, hl, h1, h2 => by
    have hv := hl v (by simp)
    have hlt : v.kind = 6 → v.n.toNat < h.length := fun hk => by have := heap_root hb hv hk; omega
    have ih := roots_inv hb l (mvO o v) (fun u hu => hl u (by simp [hu])) (mvO_ok h1 hlt) (fun x hx => by
      rcases mvO_mem hx with hx | ⟨hk, rfl⟩
      · exact h2 x hx
      · exact Rch.root v hv hk)
    have hp := ih.2.2.1
    refine ⟨ih.1, ih.2.1, (mvO_pre o v).trans hp, fun u hu => ?_, ?_⟩
    · rcases List.mem_cons.1 hu with rfl | hu
      · exact inO_pre hp (inO_mv o u)
      · exact ih.2.2.2.1 u hu
    · show mvV o v :: rootsV (mvO o v) l = fin (rootsO (mvO o v) l) v :: l.map (fin (rootsO (mvO o v) l))
      rw [ih.2.2.2.2, mvV_fin, fin_pre hp (inO_mv o v)]
/-- After i cells, the order being as long at least. -/
structure CpInv (h : List Ce) (r : List Vl) (o : List Nat) (g : List Ce) (i : Nat) : Prop where
  ok : OrdOk h.length o
  rch : ∀ x ∈ o, Rch h r x
  len : g.length = i
  rt : ∀ v ∈ r, inO o v
  cl : ∀ j, j < i → ∃ x c, o[j]? = some x ∧ h[x]? = some c ∧ g[j]? = some (img o c) ∧ inO o c.a ∧ inO o c.b
theorem cp_step {h : List Ce} {r : List Vl} {o : List Nat} {g : List Ce} {i x : Nat} (hb : heapB h r = true) (hI : CpInv h r o g i) (hx : o[i]? = some x) (hl : x < h.length) :
    CpInv h r (mvO (mvO o h[x].a) h[x].b) (g ++ [⟨h[x].kind, h[x].n, h[x].s, mvV o h[x].a, mvV (mvO o h[x].a) h[x].b⟩]) (i + 1) := by
  have hR := hI.rch x (List.mem_of_getElem? hx)
  have ha : h[x].a.kind = 6 → h[x].a.n.toNat < h.length := fun hk => by have := heap_a hb hl hk; omega
  have hbb : h[x].b.kind = 6 → h[x].b.n.toNat < h.length := fun hk => by have := heap_b hb hl hk; omega
  have p1 := mvO_pre o h[x].a
  have p2 := mvO_pre (mvO o h[x].a) h[x].b
  have p := p1.trans p2
  refine ⟨mvO_ok (mvO_ok hI.ok ha) hbb, fun y hy => ?_, by simp [hI.len], fun v hv => inO_pre p (hI.rt v hv), fun j hj => ?_⟩
  · rcases mvO_mem hy with hy | ⟨hk, rfl⟩
    · rcases mvO_mem hy with hy | ⟨hk, rfl⟩
      · exact hI.rch y hy
      · exact Rch.byA x hR hl hk
    · exact Rch.byB x hR hl hk
  · by_cases he : j = i
    · subst he
      refine ⟨x, h[x], get_pre p hx, List.getElem?_eq_getElem hl, ?_, inO_pre p2 (inO_mv _ _), inO_mv _ _⟩
      rw [List.getElem?_append_right (by rw [hI.len]; omega), hI.len, Nat.sub_self, List.getElem?_cons_zero]
      unfold img
      rw [fin_pre p2 (inO_mv o h[x].a), mvV_fin, mvV_fin]
    · obtain ⟨y, c, h1, h2, h3, h4, h5⟩ := hI.cl j (by omega)
      refine ⟨y, c, get_pre p h1, h2, ?_, inO_pre p h4, inO_pre p h5⟩
      rw [List.getElem?_append_left (by rw [hI.len]; omega), img_pre p h4 h5]
      exact h3
theorem cp_inv {h : List Ce} {r : List Vl} (hb : heapB h r = true) : ∀ i, (i ≤ (cpAt h (rootsO [] r) i).1.length ∧ CpInv h r (cpAt h (rootsO [] r) i).1 (cpAt h (rootsO [] r) i).2 i) ∨ (∃ m, m ≤ i ∧ (cpAt h (rootsO [] r) m).1.length = m ∧ CpInv h r (cpAt h (rootsO [] r) m).1 (cpAt h (rootsO [] r) m).2 m)
  | 0 => by
    obtain ⟨h1, h2, _, h4, _⟩ := roots_inv hb r [] (fun _ hv => hv) ⟨List.nodup_nil, by simp⟩ (by simp)
    exact .inl ⟨Nat.zero_le _, h1, h2, rfl, h4, fun j hj => absurd hj (by omega)⟩
  | i + 1 => by
    rcases cp_inv hb i with ⟨h1, hI⟩ | ⟨m, h1, h2, h3⟩
    · by_cases he : (cpAt h (rootsO [] r) i).1.length = i
      · exact .inr ⟨i, by omega, he, hI⟩
      · have hlt : i < (cpAt h (rootsO [] r) i).1.length := by omega
        have hx := List.getElem?_eq_getElem hlt
        have hl := hI.ok.2 _ (List.getElem_mem hlt)
        have hS := cp_step hb hI hx hl
        have hN := cpAt_next hx hl
        refine .inl ?_
        rw [hN]
        refine ⟨?_, hS⟩
        have := mvO_le (cpAt h (rootsO [] r) i).1 h[(cpAt h (rootsO [] r) i).1[i]].a
        have := mvO_le (mvO (cpAt h (rootsO [] r) i).1 h[(cpAt h (rootsO [] r) i).1[i]].a) h[(cpAt h (rootsO [] r) i).1[i]].b
        show i + 1 ≤ (mvO _ _).length
        omega
    · exact .inr ⟨m, by omega, h2, h3⟩
/-- In the end. -/
theorem cp_fin {h : List Ce} {r : List Vl} (hb : heapB h r = true) : ∃ m o g, m ≤ h.length ∧ cpAt h (rootsO [] r) m = (o, g) ∧ cpAt h (rootsO [] r) h.length = (o, g) ∧ o.length = m ∧ CpInv h r o g m := by
  have key : ∃ m, m ≤ h.length ∧ (cpAt h (rootsO [] r) m).1.length = m ∧ CpInv h r (cpAt h (rootsO [] r) m).1 (cpAt h (rootsO [] r) m).2 m := by
    rcases cp_inv hb h.length with ⟨h1, hI⟩ | hm
    · have := nodup_le _ _ hI.ok
      exact ⟨h.length, Nat.le_refl _, by omega, hI⟩
    · exact hm
  obtain ⟨m, hm, hl, hI⟩ := key
  have he := cpAt_end (h := h) (o0 := rootsO [] r) (i := m) (by omega) (h.length - m)
  rw [Nat.add_sub_of_le hm] at he
  exact ⟨m, _, _, hm, rfl, he, hl, hI⟩
theorem cp_all {h : List Ce} {r : List Vl} {o : List Nat} {g : List Ce} {m : Nat} (hI : CpInv h r o g m) (hm : o.length = m) : ∀ x, Rch h r x → x ∈ o := by
  intro x hx
  have hcl : ∀ j (hj : j < h.length), j ∈ o → inO o h[j].a ∧ inO o h[j].b := by
    intro j hj hm'
    obtain ⟨k, hk, he⟩ := List.getElem_of_mem hm'
    obtain ⟨y, c, h1, h2, _, h4, h5⟩ := hI.cl k (by omega)
    rw [List.getElem?_eq_getElem hk, he] at h1
    cases h1
    rw [List.getElem?_eq_getElem hj] at h2
    cases h2
    exact ⟨h4, h5⟩
  induction hx with
  | root v hv hk => exact hI.rt v hv hk
  | byA j hj hl hk ih => exact (hcl j hl ih).1 hk
  | byB j hj hl hk ih => exact (hcl j hl ih).2 hk
theorem ord_len : ∀ (n : Nat) (o : List Nat), OrdOk n o → (placesL (fun i => decide (i ∈ o)) n).length = o.length
  | 0, o, h => by
    cases o with
    | nil => rfl
    | cons x o => exact absurd (h.2 x (by simp)) (by omega)
  | n + 1, o, h => by
    unfold placesL
    by_cases hm : n ∈ o
    · have ih := ord_len n (o.erase n) ⟨h.1.erase n, fun x hx => by
        have h1 := (h.1.mem_erase_iff).1 hx
        have := h.2 x h1.2
        omega⟩
      rw [List.length_erase_of_mem hm] at ih
      rw [placesL_congr (f := fun i => decide (i ∈ o)) (g := fun i => decide (i ∈ o.erase n)) n (fun i hi => by
        have : i ∈ o.erase n ↔ i ∈ o := by rw [h.1.mem_erase_iff]; exact ⟨fun e => e.2, fun e => ⟨by omega, e⟩⟩
        simp [this])]
      have hp : 0 < o.length := List.length_pos_of_mem hm
      simp [hm, ih]
      omega
    · have ih := ord_len n o ⟨h.1, fun x hx => by
        have h1 := h.2 x hx
        by_cases he : x = n
        · subst he; exact absurd hx hm
        · omega⟩
      simp [hm, ih]
/-- How many cells a copy has: as many as one comes to. -/
theorem copy_len {h : List Ce} {r : List Vl} (hb : heapB h r = true) : (resCopy h r).1.length = (resReach h r).length := by
  obtain ⟨m, o, g, hm, _, he, hl, hI⟩ := cp_fin hb
  unfold resCopy resReach
  rw [if_pos hb, if_pos hb, he]
  show g.length = _
  rw [hI.len, ← hl, ← ord_len _ _ hI.ok]
  refine congrArg List.length (placesL_congr _ fun i hi => ?_)
  have : i ∈ o ↔ rchB h r i = true := by rw [rchB_iff]; exact ⟨hI.rch i, cp_all hI hl i⟩
  cases hx : rchB h r i <;> simp [this, hx]
end Go.Proofs.YtdhpmblhejcehaaDoor
namespace Go.Proofs.YtdhpmblhejcehaaDoor
set_option linter.unusedVariables false
open Go.RowKit

theorem placesL_two' (f : Nat → Bool) : ∀ k, (placesL f k).length + (placesL (fun i => !f i) k).length = k
  | 0 => rfl
  | k + 1 => by
    have := placesL_two' f k
    unfold placesL
    cases f k <;> simp <;> omega
theorem fin_val {n : Nat} {o : List Nat} {m : Nat} {v : Vl} (hv : valB n v = true) (hi : inO o v) (hm : o.length = m) : valB m (fin o v) = true := by
  unfold fin
  by_cases hk : v.kind = 6
  · rw [if_pos hk]
    have := List.idxOf_lt_length_iff.2 (hi hk)
    have hs : (⟨#[]⟩ : ByteArray).toList = [] := by unfold ByteArray.toList; unfold ByteArray.toList.loop; rfl
    simp [valB, hs]
    omega
  · rw [if_neg hk]
    unfold valB at hv ⊢
    simp only [hk, if_false] at hv ⊢
    exact hv
theorem fin_none {o : List Nat} {v : Vl} (hv : noneB v = true) : fin o v = v := by
  unfold fin
  rw [if_neg]
  unfold noneB at hv
  simp only [Bool.and_eq_true, decide_eq_true_eq] at hv
  omega
theorem img_cell {n : Nat} {o : List Nat} {m : Nat} {c : Ce} (hc : cellB n c = true) (ha : inO o c.a) (hb : inO o c.b) (hm : o.length = m) : cellB m (img o c) = true := by
  unfold cellB at hc ⊢
  simp only [Bool.and_eq_true] at hc ⊢
  obtain ⟨h1, h2, h3, h4, h5, h6⟩ := hc
  refine ⟨h1, h2, fin_val h3 ha hm, ?_, h5, h6⟩
  unfold cellBB at h4 ⊢
  show (if c.kind = 2 ∨ c.kind = 6 then _ else _) = true
  split at h4
  · rename_i hk; rw [if_pos hk]; exact fin_val h4 hb hm
  · rename_i hk; rw [if_neg hk]
    show noneB (fin o c.b) = true
    rw [fin_none h4]; exact h4
theorem copy_now {h : List Ce} {r : List Vl} (hb : heapB h r = true) : (resCopy h r).2 = rootsV [] r := by
  unfold resCopy; rw [if_pos hb]
/-- What a copy is, told at once. -/
theorem copy_is {h : List Ce} {r : List Vl} (hb : heapB h r = true) : ∃ o g, OrdOk h.length o ∧ o.length ≤ h.length ∧ cpAt h (rootsO [] r) o.length = (o, g) ∧ resCopy h r = (g, r.map (fin o)) ∧ CpInv h r o g o.length := by
  obtain ⟨m, o, g, hm, h0, he, hl, hI⟩ := cp_fin hb
  subst hl
  refine ⟨o, g, hI.ok, hm, h0, ?_, hI⟩
  obtain ⟨_, _, hp, hr, hV⟩ := roots_inv hb r [] (fun _ hv => hv) ⟨List.nodup_nil, by simp⟩ (by simp)
  have hpre : ∀ i, rootsO [] r <+: (cpAt h (rootsO [] r) i).1 := by
    intro i
    induction i with
    | zero => exact List.prefix_refl _
    | succ i ih =>
      cases hx : (cpAt h (rootsO [] r) i).1[i]? with
      | none => rw [cpAt, hx]; exact ih
      | some x =>
        cases hc : h[x]? with
        | none => rw [cpAt, hx]; simp only; rw [hc]; exact ih
        | some c => rw [cpAt, hx]; simp only; rw [hc]; exact ih.trans ((mvO_pre _ _).trans (mvO_pre _ _))
  have hp2 := hpre o.length
  rw [h0] at hp2
  unfold resCopy
  rw [if_pos hb, he, hV]
  refine Prod.ext rfl ?_
  exact List.map_congr_left fun v hv => (fin_pre hp2 (hr v hv)).symm
theorem copy_ok {h : List Ce} {r : List Vl} (hb : heapB h r = true) : heapB (resCopy h r).1 (resCopy h r).2 = true := by
  obtain ⟨o, g, hok, hle, h0, hres, hI⟩ := copy_is hb
  have hlen := heap_len hb
  have hb' := hb
  simp only [heapB, Bool.and_eq_true, decide_eq_true_eq, List.all_eq_true] at hb'
  rw [hres]
  have hg := hI.len
  simp only [heapB, Bool.and_eq_true, decide_eq_true_eq, List.all_eq_true]
  refine ⟨by omega, fun c hc => ?_, fun v hv => ?_⟩
  · obtain ⟨j, hj, rfl⟩ := List.getElem_of_mem hc
    obtain ⟨x, c, h1, h2, h3, h4, h5⟩ := hI.cl j (by omega)
    rw [List.getElem?_eq_getElem hj] at h3
    rw [Option.some.inj h3]
    exact img_cell (hb'.2.1 c (List.mem_of_getElem? h2)) h4 h5 hg.symm
  · obtain ⟨u, hu, rfl⟩ := List.mem_map.1 hv
    exact fin_val (hb'.2.2 u hu) (hI.rt u hu) hg.symm
theorem range_idx : ∀ (L i : Nat), i < L → (List.range L).idxOf i = i
  | 0, i, h => absurd h (by omega)
  | L + 1, i, h => by
    rw [List.range_succ, List.idxOf_append]
    by_cases hi : i < L
    · rw [if_pos (List.mem_range.2 hi)]; exact range_idx L i hi
    · obtain rfl : i = L := by omega
      rw [if_neg (by simp)]; simp
/-- Numbered by the order, the order is that of the numbers. -/
theorem mv_ren {F o : List Nat} {v : Vl} (hn : F.Nodup) (hp : mvO o v <+: F) : mvO (List.range o.length) (fin F v) = List.range (mvO o v).length := by
  by_cases hk : v.kind = 6
  · have hf : fin F v = ⟨6, ((F.idxOf v.n.toNat : Nat) : Int), ⟨#[]⟩⟩ := by unfold fin; rw [if_pos hk]
    have hx := inO_mv o v hk
    rw [idx_pre hp hx] at hf
    rw [hf]
    unfold mvO at *
    by_cases hm : v.n.toNat ∈ o
    · simp only [hm, not_true, and_false, if_false]
      have := List.idxOf_lt_length_iff.2 hm
      rw [if_neg (by simp [this])]
    · simp only [hk, hm, not_false_eq_true, and_true, if_true]
      rw [idxOf_new hm]
      simp [List.range_succ]
  · have hf : fin F v = v := by unfold fin; rw [if_neg hk]
    rw [hf]
    unfold mvO
    rw [if_neg (by simp [hk]), if_neg (by simp [hk])]
theorem mvV_ren {F o : List Nat} {v : Vl} (hn : F.Nodup) (hp : mvO o v <+: F) : mvV (List.range o.length) (fin F v) = fin F v := by
  rw [mvV_fin, mv_ren hn hp]
  by_cases hk : v.kind = 6
  · have hf : fin F v = ⟨6, ((F.idxOf v.n.toNat : Nat) : Int), ⟨#[]⟩⟩ := by unfold fin; rw [if_pos hk]
    have hx := inO_mv o v hk
    rw [idx_pre hp hx] at hf
    rw [hf]
    have := List.idxOf_lt_length_iff.2 hx
    unfold fin
    simp only [if_true, Int.toNat_natCast]
    rw [range_idx _ _ this]
  · have hf : fin F v = v := by unfold fin; rw [if_neg hk]
    rw [hf]
    unfold fin; rw [if_neg hk]
theorem roots_ren {F : List Nat} (hn : F.Nodup) : ∀ (l : List Vl) (o : List Nat), rootsO o l <+: F → rootsO (List.range o.length) (l.map (fin F)) = List.range (rootsO o l).length ∧ rootsV (List.range o.length) (l.map (fin F)) = l.map (fin F)
  | [], o, hp => ⟨rfl, rfl⟩
  | v :: l, o, hp => by
    have hq : ∀ (l : List Vl) (o : List Nat), o <+: rootsO o l := by
      intro l
      induction l with
      | nil => intro o; exact List.prefix_refl _
      | cons v l ih => intro o; exact (mvO_pre o v).trans (ih (mvO o v))
    have hv : mvO o v <+: F := (hq l (mvO o v)).trans hp
    have ih := roots_ren hn l (mvO o v) hp
    refine ⟨?_, ?_⟩
    · show rootsO (mvO (List.range o.length) (fin F v)) (l.map (fin F)) = _
      rw [mv_ren hn hv]; exact ih.1
    · show mvV (List.range o.length) (fin F v) :: rootsV (mvO (List.range o.length) (fin F v)) (l.map (fin F)) = _
      rw [mv_ren hn hv, mvV_ren hn hv, ih.2]; rfl
theorem cpAt_pre (h : List Ce) (o0 : List Nat) (i : Nat) : ∀ j, (cpAt h o0 i).1 <+: (cpAt h o0 (i + j)).1
  | 0 => List.prefix_refl _
  | j + 1 => by
    have ih := cpAt_pre h o0 i j
    show _ <+: (cpAt h o0 ((i + j) + 1)).1
    cases hx : (cpAt h o0 (i + j)).1[i + j]? with
    | none => rw [cpAt, hx]; exact ih
    | some x =>
      cases hc : h[x]? with
      | none => rw [cpAt, hx]; simp only; rw [hc]; exact ih
      | some c => rw [cpAt, hx]; simp only; rw [hc]; exact ih.trans ((mvO_pre _ _).trans (mvO_pre _ _))
theorem cp_ren {h : List Ce} {r : List Vl} {o : List Nat} {g : List Ce} (h0 : cpAt h (rootsO [] r) o.length = (o, g)) (hI : CpInv h r o g o.length) : ∀ i, i ≤ o.length →
    cpAt g (List.range (rootsO [] r).length) i = (List.range (cpAt h (rootsO [] r) i).1.length, (cpAt h (rootsO [] r) i).2)
  | 0, _ => rfl
  | i + 1, hi => by
    have ih := cp_ren h0 hI i (by omega)
    have hlt : i < (cpAt h (rootsO [] r) i).1.length := by
      by_cases hlt : i < (cpAt h (rootsO [] r) i).1.length
      · exact hlt
      · have he := cpAt_end (h := h) (o0 := rootsO [] r) (i := i) (by omega) (o.length - i)
        rw [Nat.add_sub_of_le (by omega), h0] at he
        rw [← he] at hlt
        exact absurd (show i < o.length by omega) hlt
    obtain ⟨x, c, h1, h2, h3, h4, h5⟩ := hI.cl i (by omega)
    have hpi := cpAt_pre h (rootsO [] r) i (o.length - i)
    rw [Nat.add_sub_of_le (by omega), h0] at hpi
    have hx : (cpAt h (rootsO [] r) i).1[i]? = some x := by
      rw [List.getElem?_eq_getElem hlt, ← get_pre hpi (List.getElem?_eq_getElem hlt), h1]
    obtain ⟨hl, hc⟩ := List.getElem?_eq_some_iff.1 h2
    have hN := cpAt_next hx hl
    rw [hc] at hN
    have hpj := cpAt_pre h (rootsO [] r) (i + 1) (o.length - (i + 1))
    rw [Nat.add_sub_of_le (by omega), h0, hN] at hpj
    have hpj1 : mvO (cpAt h (rootsO [] r) i).1 c.a <+: o := (mvO_pre _ c.b).trans hpj
    have hn := hI.ok.1
    have hgl : i < g.length := by rw [hI.len]; omega
    have hri : (cpAt g (List.range (rootsO [] r).length) i).1[i]? = some i := by
      rw [ih]; simp [hlt]
    have hg := Option.some.inj ((List.getElem?_eq_getElem hgl).symm.trans h3)
    rw [cpAt_next hri hgl, hN, hg, ih]
    show (mvO (mvO (List.range _) (fin o c.a)) (fin o c.b), _ ++ [(⟨c.kind, c.n, c.s, mvV (List.range _) (fin o c.a), mvV (mvO (List.range _) (fin o c.a)) (fin o c.b)⟩ : Ce)]) = _
    rw [mv_ren hn hpj1, mv_ren hn hpj, mvV_ren hn hpj1, mvV_ren hn hpj, mvV_fin, mvV_fin, fin_pre hpj1 (inO_mv _ _), fin_pre hpj (inO_mv _ _)]
/-- Copied again, it is the same. -/
theorem copy_twice {h : List Ce} {r : List Vl} (hb : heapB h r = true) : resCopy (resCopy h r).1 (resCopy h r).2 = resCopy h r := by
  have hb2 := copy_ok hb
  obtain ⟨o, g, hok, hle, h0, hres, hI⟩ := copy_is hb
  rw [hres] at hb2 ⊢
  have hp0 := cpAt_pre h (rootsO [] r) 0 o.length
  rw [Nat.zero_add, h0] at hp0
  have hR := roots_ren hI.ok.1 r [] hp0
  have hC := cp_ren h0 hI o.length (Nat.le_refl _)
  rw [h0] at hC
  unfold resCopy
  rw [if_pos hb2]
  show ((cpAt g (rootsO (List.range ([] : List Nat).length) (r.map (fin o))) g.length).2, rootsV (List.range ([] : List Nat).length) (r.map (fin o))) = _
  rw [hR.1, hR.2, hI.len, hC]
/-- Nothing of it is swept. -/
theorem copy_swept {h : List Ce} {r : List Vl} (hb : heapB h r = true) : resSweep (resCopy h r).1 (resCopy h r).2 = [] := by
  have hb2 := copy_ok hb
  have h1 := copy_len hb2
  rw [copy_twice hb] at h1
  have h2 := placesL_two' (rchB (resCopy h r).1 (resCopy h r).2) (resCopy h r).1.length
  unfold resReach at h1
  unfold resSweep
  rw [if_pos hb2] at h1 ⊢
  exact List.eq_nil_of_length_eq_zero (by omega)
end Go.Proofs.YtdhpmblhejcehaaDoor
namespace Go.Proofs.YtdhpmblhejcehaaDoor
set_option linter.unusedVariables false
open Go.RowKit

theorem fin_show {h : List Ce} {r : List Vl} {o : List Nat} {g : List Ce} (hI : CpInv h r o g o.length) : ∀ (d : Nat) (v : Vl), inO o v → shT g d (fin o v) = shT h d v := by
  intro d
  induction d with
  | zero =>
    intro v hv
    by_cases hk : v.kind = 6
    · unfold fin; rw [if_pos hk, shT, shT, if_pos rfl, if_pos hk]
    · unfold fin; rw [if_neg hk, shT_pl _ _ _ hk, shT_pl _ _ _ hk]
  | succ d ih =>
    intro v hv
    by_cases hk : v.kind = 6
    · have hj := List.idxOf_lt_length_iff.2 (hv hk)
      obtain ⟨x, c, h1, h2, h3, h4, h5⟩ := hI.cl _ hj
      rw [List.getElem?_eq_getElem hj, List.getElem_idxOf] at h1
      obtain rfl := Option.some.inj h1
      have hf : fin o v = ⟨6, ((o.idxOf v.n.toNat : Nat) : Int), ⟨#[]⟩⟩ := by unfold fin; rw [if_pos hk]
      rw [hf, shT, shT, if_pos rfl, if_pos hk, h2]
      simp only [Int.toNat_natCast]
      rw [h3]
      show ceT (img o c) (shT g d (fin o c.a)) (shT g d (fin o c.b)) = _
      rw [ih c.a h4, ih c.b h5]
      rfl
    · have hf : fin o v = v := by unfold fin; rw [if_neg hk]
      rw [hf, shT_pl _ _ _ hk, shT_pl _ _ _ hk]
theorem ceT_ne (c : Ce) (a b : List UInt8) : ceT c a b ≠ [] := by
  unfold ceT
  repeat' split
  all_goals simp
theorem numL_ne {n : Int} (hW : W n = n) : numL n ≠ [] := by
  rw [numL, if_pos hW]
  unfold Lib.itoa
  split
  · simp
  · rw [Lib.decDigits]; split <;> simp
theorem plT_ne {m : Int} {v : Vl} (hv : valB m v = true) (hk : v.kind ≠ 6) : plT v ≠ [] := by
  unfold valB at hv
  unfold plT
  by_cases h1 : v.kind = 1
  · simp only [h1, if_true, Bool.and_eq_true, decide_eq_true_eq] at hv ⊢
    exact numL_ne hv.1
  by_cases h2 : v.kind = 2
  · rw [if_neg h1, if_pos h2]; unfold quoteL; simp
  by_cases h3 : v.kind = 3
  · rw [if_neg h1, if_neg h2, if_pos h3]; simp
  by_cases h4 : v.kind = 4
  · rw [if_neg h1, if_neg h2, if_neg h3, if_pos h4]
    rw [if_neg h1, if_neg h2, if_neg (by omega), if_pos (.inl h4)] at hv
    simp only [Bool.and_eq_true, Bool.not_eq_true', decide_eq_false_iff_not] at hv
    exact hv.2
  by_cases h5 : v.kind = 5
  · rw [if_neg h1, if_neg h2, if_neg h3, if_neg h4, if_pos h5]; simp
  · rw [if_neg h1, if_neg h2, if_neg h3, if_neg h4, if_neg h5]; simp
theorem heap_one1 {h : List Ce} {r : List Vl} (hb : heapB h r = true) {v : Vl} (hv : v ∈ r) : heapB h [v] = true := by
  simp only [heapB, Bool.and_eq_true, decide_eq_true_eq, List.all_eq_true] at hb ⊢
  exact ⟨hb.1, hb.2.1, fun x hx => by rw [List.mem_singleton] at hx; subst hx; exact hb.2.2 x hv⟩
theorem shT_ne {h : List Ce} {v : Vl} (hb : heapB h [v] = true) (d : Nat) : shT h (d + 1) v ≠ [] := by
  by_cases hk : v.kind = 6
  · have := heap_root hb (v := v) (by simp) hk
    rw [shT_at h d v _ hk rfl (by omega)]
    exact ceT_ne _ _ _
  · rw [shT_pl _ _ _ hk]
    simp only [heapB, Bool.and_eq_true, decide_eq_true_eq, List.all_eq_true] at hb
    exact plT_ne (hb.2.2 v (by simp)) hk
/-- What FnCopy asks of a root: shown as before, and shown as something. -/
theorem copy_show {h : List Ce} {r : List Vl} (hb : heapB h r = true) (k : Nat) (hk : k < r.length) (hk2 : k < (resCopy h r).2.length) :
    shRes (resCopy h r).1 (resCopy h r).2[k] 6 = shRes h r[k] 6 ∧ (shRes h r[k] 6).toList.isEmpty = false := by
  have hb2 := copy_ok hb
  obtain ⟨o, g, hok, hle, h0, hres, hI⟩ := copy_is hb
  have hm := List.getElem_mem hk
  have h1 := heap_one1 hb hm
  have h2 := heap_one1 hb2 (List.getElem_mem hk2)
  have e : (resCopy h r).2[k] = fin o r[k] := by simp [hres]
  have e1 : (resCopy h r).1 = g := by rw [hres]
  rw [e] at h2 ⊢
  rw [e1] at h2 ⊢
  unfold shRes
  rw [if_pos (show heapB h [r[k]] = true ∧ (6 : Int) ≤ 12 from ⟨h1, by omega⟩), if_pos (show heapB g [fin o r[k]] = true ∧ (6 : Int) ≤ 12 from ⟨h2, by omega⟩)]
  refine ⟨?_, ?_⟩
  · show (⟨(shT g 6 (fin o r[k])).toArray⟩ : ByteArray) = ⟨(shT h 6 r[k]).toArray⟩
    rw [fin_show hI 6 r[k] (hI.rt _ hm)]
  · rw [pr_toList]
    show (shT h 6 r[k]).isEmpty = false
    have := shT_ne h1 5
    cases hx : shT h 6 r[k] with
    | nil => exact absurd hx this
    | cons => rfl
theorem copy_lens {h : List Ce} {r : List Vl} (hb : heapB h r = true) : (resCopy h r).2.length = r.length := by
  rw [copy_now hb, rootsV_len]
end Go.Proofs.YtdhpmblhejcehaaDoor
namespace Go.Proofs.YtdhpmblhejcehaaDoor
set_option linter.unusedVariables false
set_option maxRecDepth 100000
open Go.ChangeShapes Go.WideShapes Go.ChangeAt Go.RowKit

def DrawnHC (w : World) (e : Ending) (w' : World) : Prop :=
  ∃ (u v : Value) (h : List Ce) (r : List Vl), e = .returned (.tuple #[u, v]) ∧ RowRd 9 CeEl w' u h ∧ RowRd 3 VlEl w' v r ∧ h.length ≤ 11 ∧ r.length ≤ 5 ∧ (∀ x ∈ h, bCe x ≤ 15) ∧ (∀ x ∈ r, bVl x ≤ 5) ∧ Below w.heap.size w w'
set_option maxHeartbeats 1000000 in
theorem sDrawCopy (a : Option Addr) (len cap : Nat) (zs : List Int) (w : World) (hB : Bytes w.heap.size w a len cap zs) :
    Calls Tryd.prog 5 #[.slice a len cap] w (DrawnHC w) := by
  go_enter Tryd.func5, Tryd.ntmps5
  go_wp2_with fail
  refine (l01New _ _ _ _ _ hB).mono ?_
  rintro e w1 ⟨P, rfl, hM⟩
  go_wp2_with fail
  refine (sAny _ _ _ _ _ _ _ hM.1).mono ?_
  rintro e w2 ⟨u, v, h, r, rfl, hu, hv, hl, hr, h5, r5, hM2⟩
  have HM := Lib.hid (below_all (hM.trans hM2))
  obtain ⟨ua, uc, rfl⟩ := own_slN hu
  obtain ⟨va, vcc, rfl⟩ := own_slN hv
  obtain ⟨F1, ho1, -⟩ := own_cells hu (fun x hx => ce5_ok (h5 x hx))
  obtain ⟨F2, ho2, -⟩ := own_vals hv (fun x hx => vl5_ok (r5 x hx))
  have R1 := Lib.hid (ho1.reads CeOwn.reads)
  have R2 := Lib.hid (ho2.reads VlOwn.reads)
  have Z1 := Lib.hid (show ∀ x ∈ h, bCe x ≤ 15 from fun x hx => by
    have h1 := (h5 x hx).2.2.1
    have h2 := (h5 x hx).2.2.2.1.2.2
    have h3 := (h5 x hx).2.2.2.2.2.2
    unfold bCe bVl; omega)
  have Z2 := Lib.hid (show ∀ x ∈ r, bVl x ≤ 5 from fun x hx => (r5 x hx).2.2)
  have HL := Lib.hid hl
  have HR := Lib.hid hr
  clear hu hv hM hM2 ho1 ho2 h5 r5 hl hr
  go_wp2
  refine bodyPost_ret (v := .tuple #[.slice ua h.length uc, .slice va r.length vcc]) (by simp [results, Tryd.results5, go_sem]) rfl ?_
  exact ⟨_, _, h, r, rfl, R1.out, R2.out, HL.out, HR.out, Z1.out, Z2.out, HM.out⟩
theorem bulk_ce {l : List Ce} (h : ∀ x ∈ l, bCe x ≤ 15) (hl : l.length ≤ 11) : bulkL bCe l ≤ 1048576 := by
  have := bulkL_le bCe 15 l h
  have : l.length * (15 + 1) ≤ 11 * (15 + 1) := Nat.mul_le_mul_right _ hl
  omega
theorem bulk_vl {l : List Vl} (h : ∀ x ∈ l, bVl x ≤ 5) (hl : l.length ≤ 5) : bulkL bVl l ≤ 1048576 := by
  have := bulkL_le bVl 5 l h
  have : l.length * (5 + 1) ≤ 5 * (5 + 1) := Nat.mul_le_mul_right _ hl
  omega
theorem fin_bulk (o : List Nat) (v : Vl) : bVl (fin o v) ≤ bVl v := by
  unfold fin; split
  · show (0 : Nat) ≤ _; omega
  · exact Nat.le_refl _
theorem copy_all {h : List Ce} {r : List Vl} (hb : heapB h r = true) (hl : h.length ≤ 11) (hr : r.length ≤ 5) (h15 : ∀ x ∈ h, bCe x ≤ 15) (r5 : ∀ x ∈ r, bVl x ≤ 5) :
    ∃ (g : List Ce) (now : List Vl), (resCopy h r).1 = g ∧ (resCopy h r).2 = now ∧ g.length = (resReach h r).length ∧ now.length = r.length ∧ heapB g now = true ∧ resCopy g now = (g, now) ∧ resSweep g now = [] ∧
      (∀ k (hk : k < r.length) (hk2 : k < now.length), shRes g now[k] 6 = shRes h r[k] 6 ∧ (shRes h r[k] 6).toList.isEmpty = false) ∧ bulkL bCe g ≤ 1048576 ∧ bulkL bVl now ≤ 1048576 ∧ (∀ x ∈ now, bVl x ≤ 5) := by
  have hc := copy_lens hb
  have h3 : ∀ x ∈ (resCopy h r).2, bVl x ≤ 5 := by
    obtain ⟨o, g, hok, hle, h0, hres, hI⟩ := copy_is hb
    rw [hres]
    intro x hx
    obtain ⟨u, hu, rfl⟩ := List.mem_map.1 hx
    exact Nat.le_trans (fin_bulk o u) (r5 u hu)
  refine ⟨_, _, rfl, rfl, copy_len hb, hc, copy_ok hb, copy_twice hb, copy_swept hb, fun k hk hk2 => copy_show hb k hk hk2, ?_, bulk_vl h3 (by omega), h3⟩
  obtain ⟨o, g, hok, hle, h0, hres, hI⟩ := copy_is hb
  rw [hres]
  refine bulk_ce (fun x hx => ?_) (by show g.length ≤ _; have := hI.len; omega)
  obtain ⟨j, hj, rfl⟩ := List.getElem_of_mem (show x ∈ g from hx)
  obtain ⟨x, c, h1, h2, h3, h4, h5⟩ := hI.cl j (by have := hI.len; omega)
  rw [List.getElem?_eq_getElem hj] at h3
  rw [Option.some.inj h3]
  have := h15 c (List.mem_of_getElem? h2)
  have ha := fin_bulk o c.a
  have hbb := fin_bulk o c.b
  have e1 : bCe c = c.s.size + bVl c.a + bVl c.b := rfl
  show c.s.size + bVl (fin o c.a) + bVl (fin o c.b) ≤ 15
  omega
theorem row_get {α : Type} {n m c : Nat} {a : Option Addr} {E : ElRd α} {w : World} {l : List α} (h : RowRd n E w (.slice a m c) l) (h0 : 0 < l.length) : ∃ b o, a = some ⟨b, o, none⟩ ∧ b < w.heap.size ∧ ∀ i (h : i < l.length), E w b (o + i * n) l[i] := by
  rcases h with ⟨rfl, _⟩ | ⟨b, o, cap, h1, h2, h3, h4, h5⟩
  · simp at h0
  · cases h1; exact ⟨b, o, rfl, h3, h5⟩
end Go.Proofs.YtdhpmblhejcehaaDoor
